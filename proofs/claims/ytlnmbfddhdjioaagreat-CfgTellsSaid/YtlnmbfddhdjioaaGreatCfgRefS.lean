/-
  Keys and values: the document's Set and Delete.
-/
import Derived.Test.YtlnmbfddhdjioaaGreatCfgRef
namespace Go.Proofs.YtlnmbfddhdjioaaGreat
open Go.RowKit Go.Deep

set_option maxRecDepth 100000 in
set_option maxHeartbeats 1000000 in
theorem r6Delete_any (w : World) {P : Nat → Prop} (hP : ∀ M, w.heap.size ≤ M → P M) (v kv : Value) (es : List Ent) (ky : List UInt8) (Mk : Nat) (h : EntsP P w v es) (hn : es.length ≤ 100000) (hk : Reads w kv ky Mk) (hkl : ky.length ≤ maxLen) :
    Calls Tryz.prog 23 #[v, kv] w fun e w' => ∃ ao cp, e = .returned (.tuple #[.slice ao (delE es ky).1.length cp, .int .i64 (delE es ky).2]) ∧ EntsP P w' (.slice ao (delE es ky).1.length cp) (delE es ky).1 ∧ Keeps [] w w' := by
  obtain ⟨ao, cap, rfl, hcap⟩ := h.at0.shape
  have HE := Lib.hid h
  have HK := Lib.hid hk
  obtain ⟨ka, kc, rfl, _⟩ := hk.shape
  have HG := Lib.hid (r6Get_any w _ _ es ky Mk h.at0 hn hk)
  have HW := Lib.hid (fun U (hU : Keeps [] w U) => r6without_any U (fun M hM => hP M (by have := hU.size; omega)) (.slice ao es.length cap) (.slice ka ky.length kc) es ky Mk (h.keeps hU (by simp)) hn (hk.keeps hU (by simp)))
  clear h hk
  unfold delE
  unfold maxLen at hkl
  generalize hkn : ky.length = kn at *
  generalize hmn : es.length = m at *
  have HMN := Lib.hid hmn
  clear hkn hmn
  by_cases h1 : 1 ≤ kn ∧ kn ≤ 16
  case neg =>
    rw [if_pos h1]
    simp only
    rw [HMN.out]
    rcases (show kn < 1 ∨ (¬ kn < 1 ∧ 16 < kn) by omega) with h2 | ⟨h2, h3⟩
    · have f1 : decide ((kn : Int) < 1) = true := decide_eq_true (by omega)
      have f2 : decide (kn < 1) = true := decide_eq_true h2
      have f3 : decide (kn = 0) = true := decide_eq_true (by omega)
      go_enter Tryz.func23, Tryz.ntmps23
      go_wp2
      go_ret2
      exact ⟨ao, cap, rfl, HE.out, Keeps.refl _ _⟩
    · have f1 : decide ((kn : Int) < 1) = false := decide_eq_false (by omega)
      have f2 : decide (kn < 1) = false := decide_eq_false h2
      have f2' : decide (kn = 0) = false := decide_eq_false (by omega)
      have f3 : decide ((16 : Int) < (kn : Int)) = true := decide_eq_true (by omega)
      have f4 : decide (16 < kn) = true := decide_eq_true h3
      go_enter Tryz.func23, Tryz.ntmps23
      go_wp2
      go_ret2
      exact ⟨ao, cap, rfl, HE.out, Keeps.refl _ _⟩
  case pos =>
    rw [if_neg (fun h => h h1)]
    have f1 : decide ((kn : Int) < 1) = false := decide_eq_false (by omega)
    have f2 : decide (kn < 1) = false := decide_eq_false (by omega)
    have f2' : decide (kn = 0) = false := decide_eq_false (by omega)
    have f3 : decide ((16 : Int) < (kn : Int)) = false := decide_eq_false (by omega)
    have f4 : decide (16 < kn) = false := decide_eq_false (by omega)
    cases hg : getK ky es with
    | none =>
      rw [hg] at HG
      rw [if_pos rfl]
      simp only [Option.isSome_none] at HG ⊢
      rw [HMN.out]
      clear hg
      go_enter Tryz.func23, Tryz.ntmps23
      go_wp2_with (go_at_call 16; refine HG.out.mono ?_; rintro e w1 ⟨va, vn, vc, rfl, _, k1⟩; have K1 := Lib.hid k1; clear k1)
      go_ret2
      exact ⟨ao, cap, rfl, HE.out.keeps K1.out (by simp), K1.out⟩
    | some u =>
      rw [hg] at HG
      rw [if_neg (by simp)]
      simp only [Option.isSome_some] at HG ⊢
      clear hg
      go_enter Tryz.func23, Tryz.ntmps23
      go_wp2_with (first
        | (go_at_call 16; refine HG.out.mono ?_; rintro e w1 ⟨va, vn, vc, rfl, _, k1⟩; have K1 := Lib.hid k1; clear k1)
        | (go_at_call 49; refine (HW.out _ K1.out).mono ?_; rintro e w2 ⟨ao2, cp2, rfl, he2, k2⟩; have HE2 := Lib.hid he2; have K2 := Lib.hid (K1.out.trans k2); clear he2 k2))
      go_ret2
      exact ⟨ao2, cp2, rfl, HE2.out, K2.out⟩

/-! ### where a key comes -/
def anyK (ky : List UInt8) (l : List Ent) : Bool := l.any fun y => bytesBefore ky y.1
def outK (ky vl : List UInt8) (l : List Ent) : List Ent := if anyK ky l = true then insK (ky, vl) l else l

theorem ins_any (ky vl : List UInt8) (r : List Ent) : ∀ l : List Ent, anyK ky l = true → insK (ky, vl) (l ++ r) = insK (ky, vl) l ++ r
  | [], h => by simp [anyK] at h
  | y :: l, h => by
    rw [List.cons_append]
    unfold insK
    by_cases hb : bytesBefore ky y.1 = true
    · rw [if_pos hb, if_pos hb]; rfl
    · rw [if_neg hb, if_neg hb, ins_any ky vl r l (by simpa [anyK, hb] using h)]; rfl

theorem ins_here (ky vl : List UInt8) (y : Ent) (r : List Ent) (hy : bytesBefore ky y.1 = true) : ∀ l : List Ent, anyK ky l = false → insK (ky, vl) (l ++ y :: r) = l ++ (ky, vl) :: y :: r
  | [], _ => by unfold insK; rw [List.nil_append, List.nil_append]; simp only; rw [if_pos hy]
  | x :: l, h => by
    have hx : ¬ bytesBefore ky x.1 = true := by
      intro hx; simp [anyK, hx] at h
    rw [List.cons_append]
    unfold insK
    rw [if_neg hx, ins_here ky vl y r hy l (by simpa [anyK, hx] using h)]; rfl

theorem ins_end (ky vl : List UInt8) : ∀ l : List Ent, anyK ky l = false → insK (ky, vl) l = l ++ [(ky, vl)]
  | [], _ => rfl
  | x :: l, h => by
    have hx : ¬ bytesBefore ky x.1 = true := by
      intro hx; simp [anyK, hx] at h
    unfold insK
    rw [if_neg hx, ins_end ky vl l (by simpa [anyK, hx] using h)]; rfl

theorem anyK_snoc (ky : List UInt8) (l : List Ent) (y : Ent) : anyK ky (l ++ [y]) = (anyK ky l || bytesBefore ky y.1) := by simp [anyK]

theorem outK_any {ky vl : List UInt8} {l : List Ent} (y : Ent) (h : anyK ky l = true) : outK ky vl (l ++ [y]) = outK ky vl l ++ [y] ∧ anyK ky (l ++ [y]) = true := by
  have h2 : anyK ky (l ++ [y]) = true := by rw [anyK_snoc, h]; rfl
  unfold outK
  rw [if_pos h, if_pos h2, ins_any ky vl [y] l h]
  exact ⟨rfl, h2⟩

theorem outK_here {ky vl : List UInt8} {l : List Ent} {y : Ent} (h : anyK ky l = false) (hy : bytesBefore ky y.1 = true) : outK ky vl (l ++ [y]) = (outK ky vl l ++ [(ky, vl)]) ++ [y] ∧ anyK ky (l ++ [y]) = true := by
  have h2 : anyK ky (l ++ [y]) = true := by rw [anyK_snoc, hy]; simp
  unfold outK
  rw [if_pos h2, if_neg (by rw [h]; simp), ins_here ky vl y [] hy l h]
  exact ⟨by simp, h2⟩

theorem outK_not {ky vl : List UInt8} {l : List Ent} {y : Ent} (h : anyK ky l = false) (hy : bytesBefore ky y.1 = false) : outK ky vl (l ++ [y]) = outK ky vl l ++ [y] ∧ anyK ky (l ++ [y]) = false := by
  have h2 : anyK ky (l ++ [y]) = false := by rw [anyK_snoc, h, hy]; rfl
  unfold outK
  rw [if_neg (by rw [h2]; simp), if_neg (by rw [h]; simp)]
  exact ⟨rfl, h2⟩

theorem less_before : ∀ a b : List UInt8, Op.bytesLess a b = bytesBefore a b
  | [], [] => rfl
  | [], _ :: _ => rfl
  | _ :: _, [] => rfl
  | a :: r, b :: s => by unfold Op.bytesLess bytesBefore; rw [less_before r s]

/-- A list that is being made: entries behind one another in a row of its own. -/
def OutAt (P : Nat → Prop) (w0 w : World) (ao : Option Addr) (N cp : Nat) (l : List Ent) : Prop :=
  ∃ zs : KVs, N = zs.length ∧ mapK Prod.fst zs = l ∧ w.ownsRow w0.heap.size 51 2 (.slice ao N cp) N (rowZ zs) ∧ (∀ z ∈ zs, EntP P w0 z.2.2 (z.1, z.2.1)) ∧ Keeps [] w0 w

theorem OutAt.keeps {P : Nat → Prop} {w0 w w' : World} {ao : Option Addr} {N cp : Nat} {l : List Ent} (h : OutAt P w0 w ao N cp l) (hk : Keeps [] w w') : OutAt P w0 w' ao N cp l := by
  obtain ⟨zs, h1, h2, h3, h4, h5⟩ := h
  exact ⟨zs, h1, h2, World.ownsRow.keeps h3 hk (by simp), h4, h5.trans hk⟩

theorem OutAt.ents {P : Nat → Prop} {w0 w : World} {ao : Option Addr} {N cp : Nat} {l : List Ent} (h : OutAt P w0 w ao N cp l) (hP : ∀ g, w0.heap.size ≤ g → P g) : N = l.length ∧ EntsP P w (.slice ao N cp) l := by
  obtain ⟨zs, h1, h2, h3, h4, h5⟩ := h
  have hl : N = l.length := by rw [← h2, mapK_length]; exact h1
  have := EntsP.ofOwn (P := P) (zs := zs) (by rw [← h1]; exact h3) hP (fun z hz => (h4 z hz).keeps h5 (by simp))
  rw [h2] at this
  exact ⟨hl, this⟩

theorem OutAt.nil (P : Nat → Prop) (w0 w : World) (h : Keeps [] w0 w) : OutAt P w0 w none 0 0 [] := ⟨[], rfl, rfl, ⟨rfl, .inl ⟨rfl, rfl⟩⟩, by simp, h⟩

set_option maxRecDepth 100000 in
set_option maxHeartbeats 1000000 in
theorem r6Set_any (w : World) {P : Nat → Prop} (hP : ∀ M, w.heap.size ≤ M → P M) (v kv vv : Value) (es : List Ent) (ky vl : List UInt8) (Mk Mv : Nat) (h : EntsP P w v es) (hn : es.length ≤ 100000) (hwt : wtL es ≤ 236) (hok : ∀ e ∈ es, OkE e) (hk : Reads w kv ky Mk) (hv : Reads w vv vl Mv) (hk0 : BytesP P w kv ky) (hv0 : BytesP P w vv vl) (hkl : ky.length ≤ maxLen) (hvl : vl.length ≤ maxLen) :
    Calls Tryz.prog 24 #[v, kv, vv] w fun e w' => ∃ ao cp, e = .returned (.tuple #[.slice ao (setE es ky vl).1.length cp, .int .i64 (setE es ky vl).2]) ∧ EntsP P w' (.slice ao (setE es ky vl).1.length cp) (setE es ky vl).1 ∧ Keeps [] w w' := by
  obtain ⟨ao, cap, rfl, hcap⟩ := h.at0.shape
  obtain ⟨ka, kc, rfl, _⟩ := hk.shape
  obtain ⟨va, vc, rfl, _⟩ := hv.shape
  have HE := Lib.hid h
  have HK := Lib.hid hk
  have HV := Lib.hid hv
  have HWT := Lib.hid (fun U (hU : Keeps [] w U) => r6Weight_any U _ _ ky vl (hk0.keeps hU (by simp)).at0 (hv0.keeps hU (by simp)).at0 hkl hvl)
  have HW := Lib.hid (fun U (hU : Keeps [] w U) => r6without_any U (fun M hM => hP M (by have := hU.size; omega)) (.slice ao es.length cap) (.slice ka ky.length kc) es ky Mk (h.keeps hU (by simp)) hn (hk.keeps hU (by simp)))
  have HWS := Lib.hid (fun U (hU : Keeps [] w U) => r6Weight_same U _ _ ky vl (hk0.keeps hU (by simp)).at0 (hv0.keeps hU (by simp)).at0 hkl hvl)
  have HOK := Lib.hid hok
  have HWTE := Lib.hid hwt
  have HBK0 := Lib.hid hk0
  have HBV0 := Lib.hid hv0
  obtain ⟨i0, hi, hz0, hz1, hz2⟩ := info_parts infoEntry
  clear h hk hv hk0 hv0 hok hwt
  obtain ⟨wl, hwl⟩ : ∃ wl, wl = weightL ky vl := ⟨_, rfl⟩
  obtain ⟨m, hm⟩ : ∃ m, m = es.length := ⟨_, rfl⟩
  obtain ⟨no, hno⟩ : ∃ no, no = (delK ky es).length := ⟨_, rfl⟩
  have HWL := Lib.hid hwl
  have HM := Lib.hid hm
  have HNO := Lib.hid hno
  rw [← hwl] at HWT HWS
  rw [← hm] at hcap hn HE HW ⊢
  rw [← hno] at HW
  generalize hkn : ky.length = kn at *
  generalize hvn : vl.length = vn at *
  clear hkn hvn
  have hwl96 : wl ≤ 96 := by
    rw [hwl]
    unfold weightL
    split
    · rename_i h; exact wE_le (e := (ky, vl)) ⟨h.1.1, h.1.2, h.2⟩
    · omega
  clear hwl hm hno
  by_cases h0 : wl = 0
  · have f1 : ((wl : Int) == 0) = true := by simp [h0]
    have HS := Lib.hid (show setE es ky vl = (es, 2) by unfold setE; rw [if_pos (by rw [← HWL.out, h0])])
    clear h0
    go_enter Tryz.func24, Tryz.ntmps24
    go_wp2_with (first
      | (go_at_call 12; refine (HWT.out _ (Keeps.refl _ _)).mono ?_; rintro e w1 ⟨rfl, k1⟩; have K1 := Lib.hid k1; clear k1))
    go_ret2
    rw [HS.out]
    simp only
    rw [← HM.out]
    exact ⟨ao, cap, rfl, HE.out.keeps K1.out (by simp), K1.out⟩
  have f1 : ((wl : Int) == 0) = false := by simp [h0]
  go_enter Tryz.func24, Tryz.ntmps24
  go_wp2_with (first
    | (go_at_call 12; refine (HWS.out _ (by first | exact K2.out | exact Keeps.refl _ _)).mono ?_; rintro e w' ⟨rfl, rfl⟩)
    | (go_at_call 49; refine (HW.out _ (Keeps.refl _ _)).mono ?_; rintro e w2 ⟨ao1, cp1, rfl, he2, k2⟩; have HO2 := Lib.hid he2; have K2 := Lib.hid k2; clear he2 k2))
  have HPN := Lib.hid (show ∀ g, w2.heap.size ≤ g → P g from fun g hg => hP g (by have := K2.out.size; omega))
  have hcp1 : no ≤ cp1 := by obtain ⟨_, _, hv, hl⟩ := HO2.out.at0.shape; simp at hv; rw [← HNO.out] at hl; omega
  have hno : no ≤ m := by have := del_length ky es; have := HM.out; have := HNO.out; omega
  have HEX := Lib.hid (show EntP P w2 (.agg #[.slice ka kn kc, .slice va vn vc]) (ky, vl) from ⟨_, _, rfl, HBK0.out.keeps K2.out (by simp), HBV0.out.keeps K2.out (by simp)⟩)
  go_loopw [9, 10, 11, 12] (fun nv ov pv ix wr => ∃ (q : Nat) (ao2 : Option Addr) (cp2 N sq : Nat) (pb : Bool), q ≤ no ∧ ix = .int .i64 q ∧ nv = .int .i64 ((wl : Int) + (sq : Int)) ∧ Hid (sq = wtL ((delK ky es).take q)) ∧ ov = .slice ao2 N cp2 ∧ pv = .bool pb ∧ Hid (pb = anyK ky ((delK ky es).take q)) ∧ N ≤ q + 1 ∧ Hid (OutAt P w2 wr ao2 N cp2 (outK ky vl ((delK ky es).take q)))) (fun _ _ _ ix _ => no - (intOf ix).toNat)
  case atStart => exact ⟨0, none, 0, 0, 0, false, by omega, rfl, by simp, Lib.hid rfl, rfl, rfl, Lib.hid rfl, by omega, Lib.hid (OutAt.nil P w2 _ (Keeps.refl _ _))⟩
  case round =>
    obtain ⟨q, ao2, cp2, N, sq, pb, hq, rfl, rfl, HSQ, rfl, rfl, HPB, hN, HO⟩ := hrel
    have HKQ := Lib.hid (show Keeps [] w2 wr by obtain ⟨_, _, _, _, _, h⟩ := HO.out; exact h)
    by_cases hqn : q < no
    · have hqi : (q : Int) < (no : Int) := by omega
      obtain ⟨y, hy⟩ : ∃ y, (delK ky es)[q]? = some y := ⟨(delK ky es)[q]'(by have := HNO.out; omega), List.getElem?_eq_getElem _⟩
      obtain ⟨g, k1, v1, rfl, _, hgl, c00, c10, b00, b10⟩ := HO2.out.at q y hy
      have C0 := c00
      have C1 := c10
      have c0 := HKQ.out.cell c00 (by simp)
      have c1 := HKQ.out.cell c10 (by simp)
      have b0 := b00.keeps HKQ.out (by simp)
      have b1 := b10.keeps HKQ.out (by simp)
      have hmem := mem_del.1 (List.mem_of_getElem? hy)
      have hyok := HOK.out y hmem.1
      have hyw : weightL y.1 y.2 = wE y := weightL_ok (k := y.1) (v := y.2) hyok
      have HT := Lib.hid (take_snoc hy)
      have hwle : wtL ((delK ky es).take (q + 1)) ≤ 236 := by
        have h2 : wtL (delK ky es) = wtL ((delK ky es).take (q + 1)) + wtL ((delK ky es).drop (q + 1)) := by rw [← wtL_append, List.take_append_drop]
        have := wtL_del_le ky es
        have := HWTE.out
        omega
      have hws : wtL ((delK ky es).take (q + 1)) = sq + wE y := by rw [HT.out, wtL_append, HSQ.out]; rfl
      obtain ⟨p1, y1, rfl, _⟩ := b0.at0.shape
      obtain ⟨p2, y2, rfl, _⟩ := b1.at0.shape
      have hkl2 := hyok.k16
      have hvl2 := hyok.v64
      have HWY := Lib.hid (fun U (hU : Keeps [] wr U) => r6Weight_same U _ _ y.1 y.2 (b0.keeps hU (by simp)).at0 (b1.keeps hU (by simp)).at0 (by unfold maxLen; omega) (by unfold maxLen; omega))
      rw [hyw] at HWY
      obtain ⟨M0, r0, _⟩ := b0
      have HEY := Lib.hid (show EntP P w2 (.agg #[.slice p1 y.1.length y1, .slice p2 y.2.length y2]) y from ⟨_, _, rfl, b00, b10⟩)
      have HCV1 := Lib.hid (fun U (hU : Keeps [] wr U) => conv_reads (r0.keeps hU (by simp)))
      have HCV2 := Lib.hid (fun U (hU : Keeps [] wr U) => conv_reads (HK.out.keeps ((K2.out.trans HKQ.out).trans hU) (by simp)))
      have hwy := wE_le hyok
      have HSQ2 := Lib.hid hws.symm
      have hsq1 : sq + wE y ≤ 236 := by omega
      have HTO1 := Lib.hid (fun h => outK_any (ky := ky) (vl := vl) (l := (delK ky es).take q) y h)
      have HTO2 := Lib.hid (fun h hb => outK_here (ky := ky) (vl := vl) (l := (delK ky es).take q) (y := y) h hb)
      have HTO3 := Lib.hid (fun h hb => outK_not (ky := ky) (vl := vl) (l := (delK ky es).take q) (y := y) h hb)
      rw [← HT.out] at HTO1 HTO2 HTO3
      clear b1 r0 hy hyw hyok hws hwle b00 b10 c00 c10
      obtain ⟨yk, yv⟩ := y
      simp only at HWY HCV1 hkl2 hvl2 hmem c0 c1 HEY HTO2 HTO3
      have hne := hmem.2
      have HNE := Lib.hid hne
      generalize hyn : yk.length = yn at *
      generalize hzn : yv.length = zn at *
      clear hmem hyn hzn hkl2 hvl2 hne
      generalize wE (yk, yv) = wy at *
      go_wp2
      go_quiet ((go_at_call 12; first | exact quiet_same6 (HWY.out _ (Keeps.drewN _ _ _)) | exact quiet_none (HWY.out _ (Keeps.drewN _ _ _))))
      generalize hD0 : wr.drewN _ = D0
      have kD0 : Keeps [] wr D0 := by rw [← hD0]; exact Keeps.drewN [] _ _
      have c0 := kD0.cell c0 (by simp)
      have c1 := kD0.cell c1 (by simp)
      have hcv1 := fun k => HCV1.out _ (kD0.trans (Keeps.drewN [] D0 k))
      have hcv2 := fun k => HCV2.out _ (kD0.trans (Keeps.drewN [] D0 k))
      have HOD0 := Lib.hid (HO.out.keeps kD0)
      clear hD0 kD0
      cases pb with
      | true =>
        have HQ := Lib.hid (HTO1.out HPB.out.symm)
        go_wp2
        go_quiet (fail)
        generalize hD : D0.drewN _ = D
        have kD : Keeps [] D0 D := by rw [← hD]; exact Keeps.drewN [] _ _
        have HOD := Lib.hid (HOD0.out.keeps kD)
        have c0 := kD.cell c0 (by simp)
        have c1 := kD.cell c1 (by simp)
        clear hD kD hcv1 hcv2
        obtain ⟨zs3, hn3, hzl3, hown3, hez3, hkz3⟩ := HOD.out
        have HOW3 := Lib.hid hown3
        have HEZ3 := Lib.hid hez3
        have HZL3 := Lib.hid hzl3
        have HNZ3 := Lib.hid hn3
        have HKZ3 := Lib.hid hkz3
        have hsz3 := hkz3.size
        clear hn3 hzl3 hown3 hez3 hkz3
        go_wp2_with (at_builtin; refine wpList_append_own _ rfl _ _ 31 rfl w2.heap.size 51 i0 (.agg #[.slice none 0 0, .slice none 0 0]) 2 48 Tryz.underlying31 hi hz0 hz1 hz2 rfl (by decide) (.slice ao2 (N) cp2) (N) (rowZ zs3) rfl (HOW3.out.alloc _) ⟨D.heap.size, 0, none⟩ 1 1 [.slice p1 yn y1, .slice p2 zn y2] rfl rfl ?c1 ?c2 ?c3 ?c4 ?c5 ?_)
        case c1 =>
          intro i u hu
          rw [Addr.add_off, Nat.zero_add, cell_alloc_new]
          simpa using hu
        case c2 => intro u hu; simp at hu; rcases hu with rfl | rfl <;> rfl
        case c3 => unfold maxLen; omega
        case c4 => omega
        case c5 => simp; omega
        intro v3 D3 hown3 hg3 _
        obtain ⟨ao3, cp3, rfl⟩ := owns_shape2 hown3
        have K3 := Lib.hid ((HKZ3.out.trans (Keeps.alloc [] D _)).owned2 (HOW3.out.alloc _) hg3)
        have HO3 := Lib.hid (show OutAt P w2 D3 ao3 (N + 1) cp3 (outK ky vl ((delK ky es).take q) ++ [(yk, yv)]) from ⟨zs3 ++ [((yk, yv).1, (yk, yv).2, .agg #[.slice p1 yn y1, .slice p2 zn y2])], by have := HNZ3.out; simp; omega, by rw [← HZL3.out]; simp [mapK], by rw [rowZ_snoc]; exact hown3, fun z hz => by
          rcases List.mem_append.1 hz with h | h
          · exact HEZ3.out z h
          · simp at h; subst h; exact HEY.out, K3.out⟩)
        clear hown3 hg3
        go_wp2
        go_roundw
        case rel => exact ⟨q + 1, ao3, cp3, N + 1, sq + wy, true, by omega, by go_num, by go_num, HSQ2, rfl, rfl, Lib.hid HQ.out.2.symm, by omega, Lib.hid (by rw [HQ.out.1]; exact HO3.out)⟩
        case measure => simp [intOf]; omega
      | false =>
        have hl1 := less_before yk ky
        have hq1 : (yk == ky) = false := by simpa using HNE.out
        have hNq : N ≤ q := by
          have h := (HOD0.out.ents HPN.out).1
          unfold outK at h
          rw [← HPB.out, if_neg (by simp), List.length_take] at h
          omega
        by_cases hbf : bytesBefore ky yk = true
        · have HQ := Lib.hid (HTO2.out HPB.out.symm hbf)
          rw [before_asym hbf] at hl1
          clear hbf
          go_wp2
          go_quiet (fail)
          generalize hD : D0.drewN _ = D
          have kD : Keeps [] D0 D := by rw [← hD]; exact Keeps.drewN [] _ _
          have HOD := Lib.hid (HOD0.out.keeps kD)
          have c0 := kD.cell c0 (by simp)
          have c1 := kD.cell c1 (by simp)
          clear hD kD hcv1 hcv2
          obtain ⟨zs3, hn3, hzl3, hown3, hez3, hkz3⟩ := HOD.out
          have HOW3 := Lib.hid hown3
          have HEZ3 := Lib.hid hez3
          have HZL3 := Lib.hid hzl3
          have HNZ3 := Lib.hid hn3
          have HKZ3 := Lib.hid hkz3
          have hsz3 := hkz3.size
          clear hn3 hzl3 hown3 hez3 hkz3
          go_wp2_with (at_builtin; refine wpList_append_own _ rfl _ _ 31 rfl w2.heap.size 51 i0 (.agg #[.slice none 0 0, .slice none 0 0]) 2 48 Tryz.underlying31 hi hz0 hz1 hz2 rfl (by decide) (.slice ao2 (N) cp2) (N) (rowZ zs3) rfl (HOW3.out.alloc _) ⟨D.heap.size, 0, none⟩ 1 1 [.slice ka kn kc, .slice va vn vc] rfl rfl ?c1 ?c2 ?c3 ?c4 ?c5 ?_)
          case c1 =>
            intro i u hu
            rw [Addr.add_off, Nat.zero_add, cell_alloc_new]
            simpa using hu
          case c2 => intro u hu; simp at hu; rcases hu with rfl | rfl <;> rfl
          case c3 => unfold maxLen; omega
          case c4 => omega
          case c5 => simp; omega
          intro v3 D3 hown3 hg3 _
          obtain ⟨ao3, cp3, rfl⟩ := owns_shape2 hown3
          have K3 := Lib.hid ((HKZ3.out.trans (Keeps.alloc [] D _)).owned2 (HOW3.out.alloc _) hg3)
          have HO3 := Lib.hid (show OutAt P w2 D3 ao3 (N + 1) cp3 (outK ky vl ((delK ky es).take q) ++ [(ky, vl)]) from ⟨zs3 ++ [((ky, vl).1, (ky, vl).2, .agg #[.slice ka kn kc, .slice va vn vc])], by have := HNZ3.out; simp; omega, by rw [← HZL3.out]; simp [mapK], by rw [rowZ_snoc]; exact hown3, fun z hz => by
            rcases List.mem_append.1 hz with h | h
            · exact HEZ3.out z h
            · simp at h; subst h; exact HEX.out, K3.out⟩)
          clear hown3 hg3
          have c0 := K3.out.cell C0 (by simp)
          have c1 := K3.out.cell C1 (by simp)
          obtain ⟨zs4, hn4, hzl4, hown4, hez4, hkz4⟩ := HO3.out
          have HOW4 := Lib.hid hown4
          have HEZ4 := Lib.hid hez4
          have HZL4 := Lib.hid hzl4
          have HNZ4 := Lib.hid hn4
          have HKZ4 := Lib.hid hkz4
          have hsz4 := hkz4.size
          clear hn4 hzl4 hown4 hez4 hkz4
          go_wp2_with (at_builtin; refine wpList_append_own _ rfl _ _ 31 rfl w2.heap.size 51 i0 (.agg #[.slice none 0 0, .slice none 0 0]) 2 48 Tryz.underlying31 hi hz0 hz1 hz2 rfl (by decide) (.slice ao3 (N + 1) cp3) (N + 1) (rowZ zs4) rfl (HOW4.out.alloc _) ⟨D3.heap.size, 0, none⟩ 1 1 [.slice p1 yn y1, .slice p2 zn y2] rfl rfl ?c1 ?c2 ?c3 ?c4 ?c5 ?_)
          case c1 =>
            intro i u hu
            rw [Addr.add_off, Nat.zero_add, cell_alloc_new]
            simpa using hu
          case c2 => intro u hu; simp at hu; rcases hu with rfl | rfl <;> rfl
          case c3 => unfold maxLen; omega
          case c4 => omega
          case c5 => simp; omega
          intro v4 D4 hown4 hg4 _
          obtain ⟨ao4, cp4, rfl⟩ := owns_shape2 hown4
          have K4 := Lib.hid ((HKZ4.out.trans (Keeps.alloc [] D3 _)).owned2 (HOW4.out.alloc _) hg4)
          have HO4 := Lib.hid (show OutAt P w2 D4 ao4 (N + 1 + 1) cp4 ((outK ky vl ((delK ky es).take q) ++ [(ky, vl)]) ++ [(yk, yv)]) from ⟨zs4 ++ [((yk, yv).1, (yk, yv).2, .agg #[.slice p1 yn y1, .slice p2 zn y2])], by have := HNZ4.out; simp; omega, by rw [← HZL4.out]; simp [mapK], by rw [rowZ_snoc]; exact hown4, fun z hz => by
            rcases List.mem_append.1 hz with h | h
            · exact HEZ4.out z h
            · simp at h; subst h; exact HEY.out, K4.out⟩)
          clear hown4 hg4
          go_wp2
          go_roundw
          case rel => exact ⟨q + 1, ao4, cp4, N + 1 + 1, sq + wy, true, by omega, by go_num, by go_num, HSQ2, rfl, rfl, Lib.hid HQ.out.2.symm, by omega, Lib.hid (by rw [HQ.out.1]; exact HO4.out)⟩
          case measure => simp [intOf]; omega
        · have hbf2 : bytesBefore ky yk = false := by simpa using hbf
          have HQ := Lib.hid (HTO3.out HPB.out.symm hbf2)
          have hyk : bytesBefore yk ky = true := by rcases Go.WideAt.bytes_total yk ky HNE.out with h | h; exact h; exact absurd h hbf
          rw [hyk] at hl1
          clear hbf hbf2 hyk
          go_wp2
          go_quiet (fail)
          generalize hD : D0.drewN _ = D
          have kD : Keeps [] D0 D := by rw [← hD]; exact Keeps.drewN [] _ _
          have HOD := Lib.hid (HOD0.out.keeps kD)
          have c0 := kD.cell c0 (by simp)
          have c1 := kD.cell c1 (by simp)
          clear hD kD hcv1 hcv2
          obtain ⟨zs3, hn3, hzl3, hown3, hez3, hkz3⟩ := HOD.out
          have HOW3 := Lib.hid hown3
          have HEZ3 := Lib.hid hez3
          have HZL3 := Lib.hid hzl3
          have HNZ3 := Lib.hid hn3
          have HKZ3 := Lib.hid hkz3
          have hsz3 := hkz3.size
          clear hn3 hzl3 hown3 hez3 hkz3
          go_wp2_with (at_builtin; refine wpList_append_own _ rfl _ _ 31 rfl w2.heap.size 51 i0 (.agg #[.slice none 0 0, .slice none 0 0]) 2 48 Tryz.underlying31 hi hz0 hz1 hz2 rfl (by decide) (.slice ao2 (N) cp2) (N) (rowZ zs3) rfl (HOW3.out.alloc _) ⟨D.heap.size, 0, none⟩ 1 1 [.slice p1 yn y1, .slice p2 zn y2] rfl rfl ?c1 ?c2 ?c3 ?c4 ?c5 ?_)
          case c1 =>
            intro i u hu
            rw [Addr.add_off, Nat.zero_add, cell_alloc_new]
            simpa using hu
          case c2 => intro u hu; simp at hu; rcases hu with rfl | rfl <;> rfl
          case c3 => unfold maxLen; omega
          case c4 => omega
          case c5 => simp; omega
          intro v3 D3 hown3 hg3 _
          obtain ⟨ao3, cp3, rfl⟩ := owns_shape2 hown3
          have K3 := Lib.hid ((HKZ3.out.trans (Keeps.alloc [] D _)).owned2 (HOW3.out.alloc _) hg3)
          have HO3 := Lib.hid (show OutAt P w2 D3 ao3 (N + 1) cp3 (outK ky vl ((delK ky es).take q) ++ [(yk, yv)]) from ⟨zs3 ++ [((yk, yv).1, (yk, yv).2, .agg #[.slice p1 yn y1, .slice p2 zn y2])], by have := HNZ3.out; simp; omega, by rw [← HZL3.out]; simp [mapK], by rw [rowZ_snoc]; exact hown3, fun z hz => by
            rcases List.mem_append.1 hz with h | h
            · exact HEZ3.out z h
            · simp at h; subst h; exact HEY.out, K3.out⟩)
          clear hown3 hg3
          go_wp2
          go_roundw
          case rel => exact ⟨q + 1, ao3, cp3, N + 1, sq + wy, false, by omega, by go_num, by go_num, HSQ2, rfl, rfl, Lib.hid HQ.out.2.symm, by omega, Lib.hid (by rw [HQ.out.1]; exact HO3.out)⟩
          case measure => simp [intOf]; omega
    · have hqi : ¬ (q : Int) < (no : Int) := by omega
      have htk : (delK ky es).take q = delK ky es := List.take_of_length_le (by have := HNO.out; omega)
      rw [htk] at HO HSQ HPB
      have hwn : ¬ weightL ky vl = 0 := by rw [← HWL.out]; exact h0
      have hput : wtL (putK ky vl es) = wl + sq := by
        rw [wtL_put, HSQ.out, HWL.out, weightL_ok (okE_of_weight hwn)]
      have HGET := Lib.hid (fun U (hU : Keeps [] w U) => r6Get_any U (.slice ao m cap) (.slice ka kn kc) es ky Mk (HE.out.keeps hU (by simp)).at0 (by have := HM.out; omega) (HK.out.keeps hU (by simp)))
      clear htk
      cases pb with
      | true =>
        have HOF := Lib.hid (show OutAt P w2 wr ao2 N cp2 (putK ky vl es) from by have h := HO.out; unfold outK at h; rw [← HPB.out, if_pos rfl] at h; exact h)
        have KDX := Lib.hid (K2.out.trans HKQ.out)
        clear HO
        cases hgk : getK ky es with
        | none =>
          have HG := Lib.hid (show ∀ U, Keeps [] w U → Calls Tryz.prog 16 #[.slice ao m cap, .slice ka kn kc] U (fun e w' => ∃ va vn vc, e = .returned (.tuple #[.slice va vn vc, .bool false]) ∧ BytesAt 0 w' (.slice va vn vc) [] ∧ Keeps [] U w') from fun U hU => by have h := HGET.out U hU; rw [hgk] at h; exact h)
          by_cases h236 : 236 < wl + sq
          · have x1 : decide ((236 : Int) < (wl : Int) + (sq : Int)) = true := decide_eq_true (by omega)
            have x2 : (236 : Int) < (wl : Int) + (sq : Int) := by omega
            have HSE := Lib.hid (show setE es ky vl = (es, 5) from by unfold setE; rw [if_neg hwn, if_neg (by rw [hgk]; simp), if_pos (by rw [hput]; exact h236)])
            clear h236 hput hwn hgk
            go_wp2_with (go_at_call 16; refine (HG.out wr KDX.out).mono ?_; rintro e wg ⟨va2, vn2, vc2, rfl, hbg, kg⟩; have KG := Lib.hid (KDX.out.trans kg); have HOG := Lib.hid (OutAt.keeps HOF.out kg); obtain ⟨Mg, rg, _⟩ := hbg; have hcv1 := conv_reads rg; have hcv2 := conv_reads (HV.out.keeps KG.out (by simp)); clear kg rg)
            go_ret2
            rw [HSE.out]
            simp only
            rw [← HM.out]
            exact ⟨ao, cap, rfl, HE.out.keeps KG.out (by simp), KG.out⟩
          · have x1 : decide ((236 : Int) < (wl : Int) + (sq : Int)) = false := decide_eq_false (by omega)
            have x2 : ¬ (236 : Int) < (wl : Int) + (sq : Int) := by omega
            have HSE := Lib.hid (show setE es ky vl = (putK ky vl es, 0) from by unfold setE; rw [if_neg hwn, if_neg (by rw [hgk]; simp), if_neg (by rw [hput]; exact h236)])
            clear h236 hput hwn hgk
            go_wp2_with (go_at_call 16; refine (HG.out wr KDX.out).mono ?_; rintro e wg ⟨va2, vn2, vc2, rfl, hbg, kg⟩; have KG := Lib.hid (KDX.out.trans kg); have HOG := Lib.hid (OutAt.keeps HOF.out kg); obtain ⟨Mg, rg, _⟩ := hbg; have hcv1 := conv_reads rg; have hcv2 := conv_reads (HV.out.keeps KG.out (by simp)); clear kg rg)
            go_ret2
            rw [HSE.out]
            simp only
            obtain ⟨hlen, hents⟩ := (HOG.out.ents HPN.out)
            rw [← hlen]
            exact ⟨_, _, rfl, hents, KG.out⟩
        | some u =>
          have HG := Lib.hid (show ∀ U, Keeps [] w U → Calls Tryz.prog 16 #[.slice ao m cap, .slice ka kn kc] U (fun e w' => ∃ va vn vc, e = .returned (.tuple #[.slice va vn vc, .bool true]) ∧ BytesAt 0 w' (.slice va vn vc) u ∧ Keeps [] U w') from fun U hU => by have h := HGET.out U hU; rw [hgk] at h; exact h)
          by_cases hu : u = vl
          · have hub : (u == vl) = true := by simp [hu]
            have HSE := Lib.hid (show setE es ky vl = (es, 0) from by unfold setE; rw [if_neg hwn, if_pos (by rw [hgk, hu])])
            clear hput hwn hgk hu
            go_wp2_with (go_at_call 16; refine (HG.out wr KDX.out).mono ?_; rintro e wg ⟨va2, vn2, vc2, rfl, hbg, kg⟩; have KG := Lib.hid (KDX.out.trans kg); have HOG := Lib.hid (OutAt.keeps HOF.out kg); obtain ⟨Mg, rg, _⟩ := hbg; have hcv1 := conv_reads rg; have hcv2 := conv_reads (HV.out.keeps KG.out (by simp)); clear kg rg)
            go_ret2
            rw [HSE.out]
            simp only
            rw [← HM.out]
            exact ⟨ao, cap, rfl, HE.out.keeps KG.out (by simp), KG.out⟩
          · have hub : (u == vl) = false := by simp [hu]
            by_cases h236 : 236 < wl + sq
            · have x1 : decide ((236 : Int) < (wl : Int) + (sq : Int)) = true := decide_eq_true (by omega)
              have x2 : (236 : Int) < (wl : Int) + (sq : Int) := by omega
              have HSE := Lib.hid (show setE es ky vl = (es, 5) from by unfold setE; rw [if_neg hwn, if_neg (by rw [hgk]; simpa using hu), if_pos (by rw [hput]; exact h236)])
              clear h236 hput hwn hgk hu
              go_wp2_with (go_at_call 16; refine (HG.out wr KDX.out).mono ?_; rintro e wg ⟨va2, vn2, vc2, rfl, hbg, kg⟩; have KG := Lib.hid (KDX.out.trans kg); have HOG := Lib.hid (OutAt.keeps HOF.out kg); obtain ⟨Mg, rg, _⟩ := hbg; have hcv1 := conv_reads rg; have hcv2 := conv_reads (HV.out.keeps KG.out (by simp)); clear kg rg)
              go_ret2
              rw [HSE.out]
              simp only
              rw [← HM.out]
              exact ⟨ao, cap, rfl, HE.out.keeps KG.out (by simp), KG.out⟩
            · have x1 : decide ((236 : Int) < (wl : Int) + (sq : Int)) = false := decide_eq_false (by omega)
              have x2 : ¬ (236 : Int) < (wl : Int) + (sq : Int) := by omega
              have HSE := Lib.hid (show setE es ky vl = (putK ky vl es, 0) from by unfold setE; rw [if_neg hwn, if_neg (by rw [hgk]; simpa using hu), if_neg (by rw [hput]; exact h236)])
              clear h236 hput hwn hgk hu
              go_wp2_with (go_at_call 16; refine (HG.out wr KDX.out).mono ?_; rintro e wg ⟨va2, vn2, vc2, rfl, hbg, kg⟩; have KG := Lib.hid (KDX.out.trans kg); have HOG := Lib.hid (OutAt.keeps HOF.out kg); obtain ⟨Mg, rg, _⟩ := hbg; have hcv1 := conv_reads rg; have hcv2 := conv_reads (HV.out.keeps KG.out (by simp)); clear kg rg)
              go_ret2
              rw [HSE.out]
              simp only
              obtain ⟨hlen, hents⟩ := (HOG.out.ents HPN.out)
              rw [← hlen]
              exact ⟨_, _, rfl, hents, KG.out⟩
      | false =>
        have HO := Lib.hid (show OutAt P w2 wr ao2 N cp2 (delK ky es) from by have h := HO.out; unfold outK at h; rw [← HPB.out, if_neg (by simp)] at h; exact h)
        have HPE := Lib.hid (show delK ky es ++ [(ky, vl)] = putK ky vl es from (ins_end ky vl (delK ky es) HPB.out.symm).symm)
        obtain ⟨zs3, hn3, hzl3, hown3, hez3, hkz3⟩ := HO.out
        have HOW3 := Lib.hid hown3
        have HEZ3 := Lib.hid hez3
        have HZL3 := Lib.hid hzl3
        have HNZ3 := Lib.hid hn3
        have HKZ3 := Lib.hid hkz3
        have hsz3 := hkz3.size
        clear hn3 hzl3 hown3 hez3 hkz3
        go_wp2_with (at_builtin; refine wpList_append_own _ rfl _ _ 31 rfl w2.heap.size 51 i0 (.agg #[.slice none 0 0, .slice none 0 0]) 2 48 Tryz.underlying31 hi hz0 hz1 hz2 rfl (by decide) (.slice ao2 (N) cp2) (N) (rowZ zs3) rfl (HOW3.out.alloc _) ⟨wr.heap.size, 0, none⟩ 1 1 [.slice ka kn kc, .slice va vn vc] rfl rfl ?c1 ?c2 ?c3 ?c4 ?c5 ?_)
        case c2 => exact ⟨rfl, rfl⟩
        case c3 => unfold maxLen; omega
        case c4 => omega
        case c5 => have := HKZ3.out.size; omega
        intro v3 D3 hown3 hg3 _
        obtain ⟨ao3, cp3, rfl⟩ := owns_shape2 hown3
        have K3 := Lib.hid ((HKZ3.out.trans (Keeps.alloc [] wr _)).owned2 (HOW3.out.alloc _) hg3)
        have HO3 := Lib.hid (show OutAt P w2 D3 ao3 (N + 1) cp3 (delK ky es ++ [(ky, vl)]) from ⟨zs3 ++ [((ky, vl).1, (ky, vl).2, .agg #[.slice ka kn kc, .slice va vn vc])], by have := HNZ3.out; simp; omega, by rw [← HZL3.out]; simp [mapK], by rw [rowZ_snoc]; exact hown3, fun z hz => by
          rcases List.mem_append.1 hz with h | h
          · exact HEZ3.out z h
          · simp at h; subst h; exact HEX.out, K3.out⟩)
        clear hown3 hg3
        have HOF := Lib.hid (show OutAt P w2 D3 ao3 (N + 1) cp3 (putK ky vl es) from by rw [← HPE.out]; exact HO3.out)
        have KDX := Lib.hid (K2.out.trans K3.out)
        cases hgk : getK ky es with
        | none =>
          have HG := Lib.hid (show ∀ U, Keeps [] w U → Calls Tryz.prog 16 #[.slice ao m cap, .slice ka kn kc] U (fun e w' => ∃ va vn vc, e = .returned (.tuple #[.slice va vn vc, .bool false]) ∧ BytesAt 0 w' (.slice va vn vc) [] ∧ Keeps [] U w') from fun U hU => by have h := HGET.out U hU; rw [hgk] at h; exact h)
          by_cases h236 : 236 < wl + sq
          · have x1 : decide ((236 : Int) < (wl : Int) + (sq : Int)) = true := decide_eq_true (by omega)
            have x2 : (236 : Int) < (wl : Int) + (sq : Int) := by omega
            have HSE := Lib.hid (show setE es ky vl = (es, 5) from by unfold setE; rw [if_neg hwn, if_neg (by rw [hgk]; simp), if_pos (by rw [hput]; exact h236)])
            clear h236 hput hwn hgk
            go_wp2_with (go_at_call 16; refine (HG.out D3 KDX.out).mono ?_; rintro e wg ⟨va2, vn2, vc2, rfl, hbg, kg⟩; have KG := Lib.hid (KDX.out.trans kg); have HOG := Lib.hid (OutAt.keeps HOF.out kg); obtain ⟨Mg, rg, _⟩ := hbg; have hcv1 := conv_reads rg; have hcv2 := conv_reads (HV.out.keeps KG.out (by simp)); clear kg rg)
            go_ret2
            rw [HSE.out]
            simp only
            rw [← HM.out]
            exact ⟨ao, cap, rfl, HE.out.keeps KG.out (by simp), KG.out⟩
          · have x1 : decide ((236 : Int) < (wl : Int) + (sq : Int)) = false := decide_eq_false (by omega)
            have x2 : ¬ (236 : Int) < (wl : Int) + (sq : Int) := by omega
            have HSE := Lib.hid (show setE es ky vl = (putK ky vl es, 0) from by unfold setE; rw [if_neg hwn, if_neg (by rw [hgk]; simp), if_neg (by rw [hput]; exact h236)])
            clear h236 hput hwn hgk
            go_wp2_with (go_at_call 16; refine (HG.out D3 KDX.out).mono ?_; rintro e wg ⟨va2, vn2, vc2, rfl, hbg, kg⟩; have KG := Lib.hid (KDX.out.trans kg); have HOG := Lib.hid (OutAt.keeps HOF.out kg); obtain ⟨Mg, rg, _⟩ := hbg; have hcv1 := conv_reads rg; have hcv2 := conv_reads (HV.out.keeps KG.out (by simp)); clear kg rg)
            go_ret2
            rw [HSE.out]
            simp only
            obtain ⟨hlen, hents⟩ := (HOG.out.ents HPN.out)
            rw [← hlen]
            exact ⟨_, _, rfl, hents, KG.out⟩
        | some u =>
          have HG := Lib.hid (show ∀ U, Keeps [] w U → Calls Tryz.prog 16 #[.slice ao m cap, .slice ka kn kc] U (fun e w' => ∃ va vn vc, e = .returned (.tuple #[.slice va vn vc, .bool true]) ∧ BytesAt 0 w' (.slice va vn vc) u ∧ Keeps [] U w') from fun U hU => by have h := HGET.out U hU; rw [hgk] at h; exact h)
          by_cases hu : u = vl
          · have hub : (u == vl) = true := by simp [hu]
            have HSE := Lib.hid (show setE es ky vl = (es, 0) from by unfold setE; rw [if_neg hwn, if_pos (by rw [hgk, hu])])
            clear hput hwn hgk hu
            go_wp2_with (go_at_call 16; refine (HG.out D3 KDX.out).mono ?_; rintro e wg ⟨va2, vn2, vc2, rfl, hbg, kg⟩; have KG := Lib.hid (KDX.out.trans kg); have HOG := Lib.hid (OutAt.keeps HOF.out kg); obtain ⟨Mg, rg, _⟩ := hbg; have hcv1 := conv_reads rg; have hcv2 := conv_reads (HV.out.keeps KG.out (by simp)); clear kg rg)
            go_ret2
            rw [HSE.out]
            simp only
            rw [← HM.out]
            exact ⟨ao, cap, rfl, HE.out.keeps KG.out (by simp), KG.out⟩
          · have hub : (u == vl) = false := by simp [hu]
            by_cases h236 : 236 < wl + sq
            · have x1 : decide ((236 : Int) < (wl : Int) + (sq : Int)) = true := decide_eq_true (by omega)
              have x2 : (236 : Int) < (wl : Int) + (sq : Int) := by omega
              have HSE := Lib.hid (show setE es ky vl = (es, 5) from by unfold setE; rw [if_neg hwn, if_neg (by rw [hgk]; simpa using hu), if_pos (by rw [hput]; exact h236)])
              clear h236 hput hwn hgk hu
              go_wp2_with (go_at_call 16; refine (HG.out D3 KDX.out).mono ?_; rintro e wg ⟨va2, vn2, vc2, rfl, hbg, kg⟩; have KG := Lib.hid (KDX.out.trans kg); have HOG := Lib.hid (OutAt.keeps HOF.out kg); obtain ⟨Mg, rg, _⟩ := hbg; have hcv1 := conv_reads rg; have hcv2 := conv_reads (HV.out.keeps KG.out (by simp)); clear kg rg)
              go_ret2
              rw [HSE.out]
              simp only
              rw [← HM.out]
              exact ⟨ao, cap, rfl, HE.out.keeps KG.out (by simp), KG.out⟩
            · have x1 : decide ((236 : Int) < (wl : Int) + (sq : Int)) = false := decide_eq_false (by omega)
              have x2 : ¬ (236 : Int) < (wl : Int) + (sq : Int) := by omega
              have HSE := Lib.hid (show setE es ky vl = (putK ky vl es, 0) from by unfold setE; rw [if_neg hwn, if_neg (by rw [hgk]; simpa using hu), if_neg (by rw [hput]; exact h236)])
              clear h236 hput hwn hgk hu
              go_wp2_with (go_at_call 16; refine (HG.out D3 KDX.out).mono ?_; rintro e wg ⟨va2, vn2, vc2, rfl, hbg, kg⟩; have KG := Lib.hid (KDX.out.trans kg); have HOG := Lib.hid (OutAt.keeps HOF.out kg); obtain ⟨Mg, rg, _⟩ := hbg; have hcv1 := conv_reads rg; have hcv2 := conv_reads (HV.out.keeps KG.out (by simp)); clear kg rg)
              go_ret2
              rw [HSE.out]
              simp only
              obtain ⟨hlen, hents⟩ := (HOG.out.ents HPN.out)
              rw [← hlen]
              exact ⟨_, _, rfl, hents, KG.out⟩
end Go.Proofs.YtlnmbfddhdjioaaGreat
