/-
  Keys and values: the document's own answers.
-/
import Derived.Test.YtlnmbfddhdjioaaGreatCfgFullA
import Derived.Test.YtlnmbfddhdjioaaGreatRfBase
namespace Go.Proofs.YtlnmbfddhdjioaaGreat
open Go.RowKit Go.Deep

/-! ### bytes and entries whose blocks are among some (base ≤ x is one such property: then these are BytesAt, EntAt, EntsAt) -/
def BytesP (P : Nat → Prop) (w : World) (v : Value) (l : List UInt8) : Prop := ∃ M, Reads w v l M ∧ (l ≠ [] → P M ∧ M < w.heap.size)
def EntP (P : Nat → Prop) (w : World) (v : Value) (e : Ent) : Prop := ∃ kv vv, v = .agg #[kv, vv] ∧ BytesP P w kv e.1 ∧ BytesP P w vv e.2
def EntsP (P : Nat → Prop) (w : World) (v : Value) (es : List Ent) : Prop :=
  ∃ (ao : Option Addr) (cap : Nat), v = .slice ao es.length cap ∧ es.length ≤ cap ∧ ∀ (i : Nat) (e : Ent), es[i]? = some e → ∃ (g : Nat) (kv vv : Value), ao = some ⟨g, 0, none⟩ ∧ P g ∧ g < w.heap.size ∧
    w.cell? ⟨g, i * 2, none⟩ = some kv ∧ w.cell? ⟨g, i * 2 + 1, none⟩ = some vv ∧ BytesP P w kv e.1 ∧ BytesP P w vv e.2

theorem BytesP.at0 {P : Nat → Prop} {w : World} {v : Value} {l : List UInt8} (h : BytesP P w v l) : BytesAt 0 w v l := by
  obtain ⟨M, h1, h2⟩ := h; exact ⟨M, h1, fun hl => ⟨Nat.zero_le _, (h2 hl).2⟩⟩
theorem BytesP.keeps {P : Nat → Prop} {S : List Nat} {w w' : World} {v : Value} {l : List UInt8} (h : BytesP P w v l) (hk : Keeps S w w') (hS : ∀ x ∈ S, ¬ P x ∨ w.heap.size ≤ x) : BytesP P w' v l := by
  obtain ⟨M, h1, h2⟩ := h
  exact ⟨M, h1.keepsIf hk (fun hl hm => by rcases hS M hm with h | h; exact h (h2 hl).1; have := (h2 hl).2; omega), fun hl => ⟨(h2 hl).1, by have := (h2 hl).2; have := hk.size; omega⟩⟩
theorem EntP.keeps {P : Nat → Prop} {S : List Nat} {w w' : World} {v : Value} {e : Ent} (h : EntP P w v e) (hk : Keeps S w w') (hS : ∀ x ∈ S, ¬ P x ∨ w.heap.size ≤ x) : EntP P w' v e := by
  obtain ⟨kv, vv, rfl, h1, h2⟩ := h; exact ⟨kv, vv, rfl, h1.keeps hk hS, h2.keeps hk hS⟩
theorem EntsP.at0 {P : Nat → Prop} {w : World} {v : Value} {es : List Ent} (h : EntsP P w v es) : EntsAt 0 w v es := by
  obtain ⟨ao, cap, hv, hl, hc⟩ := h
  refine ⟨ao, cap, hv, hl, fun i e he => ?_⟩
  obtain ⟨g, kv, vv, h1, _, h3, h4, h5, h6, h7⟩ := hc i e he
  exact ⟨g, kv, vv, h1, Nat.zero_le _, h3, h4, h5, h6.at0, h7.at0⟩
theorem EntsP.keeps {P : Nat → Prop} {S : List Nat} {w w' : World} {v : Value} {es : List Ent} (h : EntsP P w v es) (hk : Keeps S w w') (hS : ∀ x ∈ S, ¬ P x ∨ w.heap.size ≤ x) : EntsP P w' v es := by
  obtain ⟨ao, cap, hv, hl, hc⟩ := h
  refine ⟨ao, cap, hv, hl, fun i e he => ?_⟩
  obtain ⟨g, kv, vv, h1, h2, h3, h4, h5, h6, h7⟩ := hc i e he
  have hg : g ∉ S := fun hm => by rcases hS g hm with h | h; exact h h2; omega
  exact ⟨g, kv, vv, h1, h2, by have := hk.size; omega, hk.cell h4 hg, hk.cell h5 hg, h6.keeps hk hS, h7.keeps hk hS⟩
theorem EntsP.nil (P : Nat → Prop) (w : World) : EntsP P w (.slice none 0 0) [] := ⟨none, 0, rfl, Nat.le_refl _, fun i e h => by simp at h⟩
theorem EntsP.at {P : Nat → Prop} {w : World} {ao : Option Addr} {n cap : Nat} {es : List Ent} (h : EntsP P w (.slice ao n cap) es) (i : Nat) (e : Ent) (he : es[i]? = some e) :
    ∃ (g : Nat) (kv vv : Value), ao = some ⟨g, 0, none⟩ ∧ P g ∧ g < w.heap.size ∧ w.cell? ⟨g, i * 2, none⟩ = some kv ∧ w.cell? ⟨g, i * 2 + 1, none⟩ = some vv ∧ BytesP P w kv e.1 ∧ BytesP P w vv e.2 := by
  obtain ⟨ao', cap', he', _, hc⟩ := h
  cases he'
  exact hc i e he
/-- A row of the call's own, of entries of that kind. -/
theorem EntsP.ofOwn {P : Nat → Prop} {w : World} {b0 : Nat} {v : Value} {zs : KVs} (h : w.ownsRow b0 51 2 v zs.length (rowZ zs)) (hP : ∀ g, b0 ≤ g → P g) (he : ∀ z ∈ zs, EntP P w z.2.2 (z.1, z.2.1)) : EntsP P w v (mapK Prod.fst zs) := by
  rcases h.2 with ⟨rfl, h0⟩ | ⟨g, cap, cur, rfl, hg, hcur, hc1, hc2, hc3, hc4⟩
  · have : zs = [] := List.eq_nil_of_length_eq_zero h0
    subst this
    exact EntsP.nil _ _
  · refine ⟨_, cap, by rw [mapK_length], by rw [mapK_length]; exact hc1, fun i e hi => ?_⟩
    simp only [mapK, List.getElem?_map] at hi
    obtain ⟨z, hz, rfl⟩ := Option.map_eq_some_iff.1 hi
    have hlt := (List.getElem?_eq_some_iff.1 hz).1
    obtain ⟨kv, vv, hv, bk, bv1⟩ := he z (List.mem_of_getElem? hz)
    obtain ⟨a, c, rfl, _⟩ := bk.at0.shape
    obtain ⟨b, d, rfl, _⟩ := bv1.at0.shape
    have hcell : ∀ j u, j < 2 → (entCells z.2.2)[j]? = some u → w.cell? ⟨g, i * 2 + j, none⟩ = some u := by
      intro j u hj hu
      have h1 := rowZ_get zs i z j hz hj
      rw [hu, ← hc4, List.getElem?_take_of_lt (by omega)] at h1
      unfold World.cell?
      simp only [hcur, Option.isSome_none, Bool.false_eq_true, if_false]
      rw [← Array.getElem?_toList]; exact h1
    rw [hv] at hcell
    exact ⟨g, _, _, rfl, hP g hg, (Array.getElem?_eq_some_iff.1 hcur).1, hcell 0 _ (by omega) rfl, hcell 1 _ (by omega) rfl, bk, bv1⟩

set_option maxRecDepth 100000 in
set_option maxHeartbeats 1000000 in
theorem r6Weight_same (w : World) (kv vv : Value) (ky vl : List UInt8) (hk : BytesAt 0 w kv ky) (hv : BytesAt 0 w vv vl) (h1 : ky.length ≤ maxLen) (h2 : vl.length ≤ maxLen) :
    Calls Tryz.prog 12 #[kv, vv] w fun e w' => e = .returned (.int .i64 (weightL ky vl)) ∧ w = w' := by
  obtain ⟨ka, kc, rfl, _⟩ := hk.shape
  obtain ⟨va, vc, rfl, _⟩ := hv.shape
  unfold maxLen at h1 h2
  unfold weightL wE
  simp only
  generalize ky.length = a at *
  generalize vl.length = b at *
  clear hk hv
  go_enter Tryz.func12, Tryz.ntmps12
  by_cases h1a : a < 1
  · have f1 : decide ((a : Int) < 1) = true := decide_eq_true (by omega)
    have f2 : decide (a < 1) = true := decide_eq_true h1a
    rw [if_neg (by omega)]
    go_wp2
    go_ret
    exact ⟨by simp, rfl⟩
  have f1 : decide ((a : Int) < 1) = false := decide_eq_false (by omega)
  have f2 : decide (a < 1) = false := decide_eq_false h1a
  have f2' : decide (a = 0) = false := decide_eq_false (by omega)
  by_cases h1b : 16 < a
  · have f3 : decide ((16 : Int) < (a : Int)) = true := decide_eq_true (by omega)
    have f4 : decide (16 < a) = true := decide_eq_true h1b
    rw [if_neg (by omega)]
    go_wp2
    go_ret
    exact ⟨by simp, rfl⟩
  have f3 : decide ((16 : Int) < (a : Int)) = false := decide_eq_false (by omega)
  have f4 : decide (16 < a) = false := decide_eq_false h1b
  by_cases h1c : 64 < b
  · have f5 : decide ((64 : Int) < (b : Int)) = true := decide_eq_true (by omega)
    have f6 : decide (64 < b) = true := decide_eq_true h1c
    rw [if_neg (by omega)]
    go_wp2
    go_ret
    exact ⟨by simp, rfl⟩
  have f5 : decide ((64 : Int) < (b : Int)) = false := decide_eq_false (by omega)
  have f6 : decide (64 < b) = false := decide_eq_false h1c
  rw [if_pos (by omega)]
  have hS := R4Size_ok w (2 + a + b) (by omega)
  rw [show ((2 + a + b : Nat) : Int) = 2 + (a : Int) + (b : Int) by omega] at hS
  have HS := Lib.hid hS
  clear hS
  go_wp2_with (go_at_call 30; refine HS.out.mono ?_; rintro e w' ⟨rfl, rfl⟩)
  go_ret
  exact ⟨rfl, rfl⟩

theorem r6Weight_any (w : World) (kv vv : Value) (ky vl : List UInt8) (hk : BytesAt 0 w kv ky) (hv : BytesAt 0 w vv vl) (h1 : ky.length ≤ maxLen) (h2 : vl.length ≤ maxLen) :
    Calls Tryz.prog 12 #[kv, vv] w fun e w' => e = .returned (.int .i64 (weightL ky vl)) ∧ Keeps [] w w' :=
  (r6Weight_same w kv vv ky vl hk hv h1 h2).mono fun _ _ ⟨h1, h2⟩ => ⟨h1, h2 ▸ Keeps.refl _ _⟩

set_option maxRecDepth 100000 in
set_option maxHeartbeats 1000000 in
theorem r6Get_any (w : World) (v kv : Value) (es : List Ent) (ky : List UInt8) (Mk : Nat) (h : EntsAt 0 w v es) (hn : es.length ≤ 100000) (hk : Reads w kv ky Mk) :
    Calls Tryz.prog 16 #[v, kv] w fun e w' => ∃ va vn vc, e = .returned (.tuple #[.slice va vn vc, .bool (getK ky es).isSome]) ∧ BytesAt 0 w' (.slice va vn vc) ((getK ky es).getD []) ∧ Keeps [] w w' := by
  obtain ⟨ao, cap, rfl, hcap⟩ := h.shape
  have HE := Lib.hid h
  have HK := Lib.hid hk
  obtain ⟨n, hN⟩ : ∃ n, n = es.length := ⟨_, rfl⟩
  have HNL := Lib.hid hN
  rw [← hN] at hcap hn HE ⊢
  clear h hk hN
  go_enter Tryz.func16, Tryz.ntmps16
  go_wp2
  go_loopw [6] (fun ix wr => ∃ j : Nat, j ≤ n ∧ ix = .int .i64 j ∧ getK ky es = getK ky (es.drop j) ∧ Hid (Keeps [] w wr)) (fun ix _ => n - (intOf ix).toNat)
  case atStart => exact ⟨0, by omega, rfl, rfl, Lib.hid (Keeps.refl _ _)⟩
  case round =>
    obtain ⟨j, hj, rfl, hg, HKW⟩ := hrel
    by_cases hlt : j < n
    · have hji : (j : Int) < (n : Int) := by omega
      obtain ⟨e, he⟩ : ∃ e, es[j]? = some e := ⟨es[j]'(by have := HNL.out; omega), List.getElem?_eq_getElem _⟩
      obtain ⟨g, k1, v1, rfl, _, hgl, c0, c1, b0, b1⟩ := (HE.out.keeps HKW.out (by simp)).at j e he
      have hstep := getK_drop ky he
      obtain ⟨ek, ev⟩ := e
      simp only at b0 b1 hstep
      obtain ⟨ka, kc, rfl, _⟩ := b0.shape
      obtain ⟨va, vc, rfl, _⟩ := b1.shape
      have HB1 := Lib.hid b1
      obtain ⟨M0, r0, _⟩ := b0
      have hcv1 := fun k => conv_reads (r0.keeps (Keeps.drewN [] wr k) (by simp))
      have hcv2 := fun k => conv_reads (HK.out.keeps (HKW.out.trans (Keeps.drewN [] wr k)) (by simp))
      have HST := Lib.hid hstep
      have HG := Lib.hid hg
      clear b1 r0 hg hstep he
      generalize ek.length = en at *
      generalize hvn : ev.length = vn at *
      clear hvn
      by_cases hek : ek = ky
      · have hb : (ek == ky) = true := by simp [hek]
        have HQ := Lib.hid (show getK ky es = some ev by rw [HG.out, HST.out, if_pos hek])
        clear hek
        go_wp2
        go_quiet (fail)
        go_wp2
        go_ret2
        rw [HQ.out]
        exact ⟨_, _, _, rfl, HB1.out.keeps (Keeps.drewN [] _ _) (by simp), HKW.out.trans (Keeps.drewN [] _ _)⟩
      · have hb : (ek == ky) = false := by simp [hek]
        have HQ := Lib.hid (show getK ky es = getK ky (es.drop (j + 1)) by rw [HG.out, HST.out, if_neg hek])
        clear hek
        go_wp2
        go_quiet (fail)
        go_wp2
        go_roundw
        case rel => exact ⟨j + 1, by omega, by go_num, HQ.out, Lib.hid (HKW.out.trans (Keeps.drewN [] _ _))⟩
        case measure => simp [intOf]; omega
    · have hji : ¬ (j : Int) < (n : Int) := by omega
      have hnj : n ≤ j := by omega
      rw [List.drop_of_length_le (by have := HNL.out; omega)] at hg
      have HG := Lib.hid hg
      clear hg hnj
      go_wp2
      go_ret2
      rw [HG.out]
      exact ⟨_, _, _, rfl, BytesAt.nil _ _, HKW.out⟩

set_option maxRecDepth 100000 in
set_option maxHeartbeats 1000000 in
theorem r6without_any (w : World) {P : Nat → Prop} (hP : ∀ M, w.heap.size ≤ M → P M) (v kv : Value) (es : List Ent) (ky : List UInt8) (Mk : Nat) (h : EntsP P w v es) (hn : es.length ≤ 100000) (hk : Reads w kv ky Mk) :
    Calls Tryz.prog 49 #[v, kv] w fun e w' => ∃ ao cp, e = .returned (.slice ao (delK ky es).length cp) ∧ EntsP P w' (.slice ao (delK ky es).length cp) (delK ky es) ∧ Keeps [] w w' := by
  obtain ⟨ao, cap, rfl, hcap⟩ := h.at0.shape
  have HE := Lib.hid h
  have HK := Lib.hid hk
  obtain ⟨n, hN⟩ : ∃ n, n = es.length := ⟨_, rfl⟩
  have HNL := Lib.hid hN
  rw [← hN] at hcap hn HE ⊢
  clear h hk hN
  obtain ⟨i0, hi, hz0, hz1, hz2⟩ := info_parts infoEntry
  go_enter Tryz.func49, Tryz.ntmps49
  go_wp2
  go_loopw [5, 6] (fun ov ix wr => ∃ (j : Nat) (ao2 : Option Addr) (cp2 : Nat) (zs : KVs) (N : Nat), j ≤ n ∧ ix = .int .i64 j ∧ ov = .slice ao2 N cp2 ∧ Hid (N = zs.length) ∧ Hid (mapK Prod.fst zs = delK ky (es.take j)) ∧ Hid (wr.ownsRow w.heap.size 51 2 (.slice ao2 N cp2) N (rowZ zs)) ∧ Hid (∀ z ∈ zs, EntP P w z.2.2 (z.1, z.2.1)) ∧ Hid (Keeps [] w wr)) (fun _ ix _ => n - (intOf ix).toNat)
  case atStart => exact ⟨0, none, 0, [], 0, by omega, rfl, rfl, Lib.hid rfl, Lib.hid rfl, Lib.hid ⟨rfl, .inl ⟨rfl, rfl⟩⟩, Lib.hid (by simp), Lib.hid (Keeps.refl _ _)⟩
  case round =>
    obtain ⟨j, ao2, cp2, zs, N, hj, rfl, rfl, HN, HZ, HO, HEZ, HKW⟩ := hrel
    by_cases hlt : j < n
    · have hji : (j : Int) < (n : Int) := by omega
      obtain ⟨e, he⟩ : ∃ e, es[j]? = some e := ⟨es[j]'(by have := HNL.out; omega), List.getElem?_eq_getElem _⟩
      obtain ⟨g, k1, v1, hao, _, hgl0, c00, c10, b00, b10⟩ := HE.out.at j e he
      obtain ⟨g', k1', v1', hao', _, hgl, c0, c1, b0, b1⟩ := (HE.out.keeps HKW.out (by simp)).at j e he
      obtain rfl := hao
      obtain rfl : g = g' := by cases hao'; rfl
      have hk1 : k1' = k1 := by have := HKW.out.cell c00 (by simp); rw [c0] at this; cases this; rfl
      have hv1 : v1' = v1 := by have := HKW.out.cell c10 (by simp); rw [c1] at this; cases this; rfl
      subst hk1 hv1
      have hNn : N ≤ n := by
        have h1 := HN.out; have h2 := congrArg List.length HZ.out
        rw [mapK_length] at h2
        have h3 := del_length ky (es.take j)
        rw [List.length_take] at h3
        omega
      obtain ⟨ek, ev⟩ := e
      simp only at b0 b1 b00 b10
      obtain ⟨ka, kc, rfl, _⟩ := b0.at0.shape
      obtain ⟨va, vc, rfl, _⟩ := b1.at0.shape
      have HENT := Lib.hid (show EntP P w (.agg #[.slice ka ek.length kc, .slice va ev.length vc]) (ek, ev) from ⟨_, _, rfl, b00, b10⟩)
      obtain ⟨M0, r0, _⟩ := b0
      have hcv1 := fun k => conv_reads (r0.keeps (Keeps.drewN [] wr k) (by simp))
      have hcv2 := fun k => conv_reads (HK.out.keeps (HKW.out.trans (Keeps.drewN [] wr k)) (by simp))
      have HT := Lib.hid (take_snoc he)
      clear r0 he b1 b00 b10 c00 c10 hao'
      generalize hen : ek.length = en at *
      generalize hvn : ev.length = vn at *
      clear hen hvn
      by_cases hek : ek = ky
      · have hb : (ek == ky) = true := by simp [hek]
        have HQ := Lib.hid (show mapK Prod.fst zs = delK ky (es.take (j + 1)) by rw [HT.out, delK_snoc_eq hek]; exact HZ.out)
        clear hek
        go_wp2
        go_quiet (fail)
        go_wp2
        go_roundw
        case rel => exact ⟨j + 1, ao2, cp2, zs, N, by omega, by go_num, rfl, HN, HQ, Lib.hid (World.ownsRow.keeps HO.out (Keeps.drewN [] _ _) (by simp)), HEZ, Lib.hid (HKW.out.trans (Keeps.drewN [] _ _))⟩
        case measure => simp [intOf]; omega
      · have hb : (ek == ky) = false := by simp [hek]
        have HQ := Lib.hid (show mapK Prod.fst (zs ++ [(ek, ev, .agg #[.slice ka en kc, .slice va vn vc])]) = delK ky (es.take (j + 1)) by rw [HT.out, delK_snoc_ne hek, ← HZ.out]; simp [mapK])
        clear hek
        go_wp2
        go_quiet (fail)
        generalize hD : wr.drewN _ = D
        have kD : Keeps [] wr D := by rw [← hD]; exact Keeps.drewN [] _ _
        have KD := Lib.hid (HKW.out.trans kD)
        have HOD := Lib.hid (World.ownsRow.keeps HO.out kD (by simp))
        have c0 := kD.cell c0 (by simp)
        have c1 := kD.cell c1 (by simp)
        have hDs := KD.out.size
        clear hD kD hcv1 hcv2
        go_wp2_with (at_builtin; refine wpList_append_own _ rfl _ _ 31 rfl w.heap.size 51 i0 (.agg #[.slice none 0 0, .slice none 0 0]) 2 48 Tryz.underlying31 hi hz0 hz1 hz2 rfl (by decide) (.slice ao2 N cp2) N (rowZ zs) rfl (HOD.out.alloc _) ⟨D.heap.size, 0, none⟩ 1 1 [.slice ka en kc, .slice va vn vc] rfl rfl ?c1 ?c2 ?c3 ?c4 ?c5 ?_)
        case c1 =>
          intro i u hu
          rw [Addr.add_off, Nat.zero_add, cell_alloc_new]
          simpa using hu
        case c2 => intro u hu; simp at hu; rcases hu with rfl | rfl <;> rfl
        case c3 => unfold maxLen; omega
        case c4 => omega
        case c5 => simp; omega
        intro v3 w3 hown3 hg3 _
        obtain ⟨ao3, cp3, rfl⟩ := owns_shape2 hown3
        have K3 := Lib.hid ((KD.out.trans (Keeps.alloc [] D _)).owned2 (HOD.out.alloc _) hg3)
        have HO3 := Lib.hid hown3
        have HRZ := Lib.hid (show rowZ (zs ++ [(ek, ev, Value.agg #[.slice ka en kc, .slice va vn vc])]) = rowZ zs ++ [.slice ka en kc, .slice va vn vc] from rowZ_snoc _ _)
        clear hown3 hg3 c0 c1
        go_wp2
        go_roundw
        case rel => exact ⟨j + 1, ao3, cp3, zs ++ [(ek, ev, .agg #[.slice ka en kc, .slice va vn vc])], N + 1, by omega, by go_num, rfl, Lib.hid (by have := HN.out; simp; omega), HQ, Lib.hid (by rw [HRZ.out]; exact HO3.out), Lib.hid (fun z hz => by
          rcases List.mem_append.1 hz with h | h
          · exact HEZ.out z h
          · simp at h; subst h; exact HENT.out), K3⟩
        case measure => simp [intOf]; omega
    · have hji : ¬ (j : Int) < (n : Int) := by omega
      have HZ2 := Lib.hid (show mapK Prod.fst zs = delK ky es by have := HZ.out; rwa [List.take_of_length_le (by have := HNL.out; omega)] at this)
      go_wp2
      go_ret
      have hl : (delK ky es).length = N := by rw [← HZ2.out, mapK_length]; exact HN.out.symm
      rw [hl]
      refine ⟨_, _, rfl, ?_, HKW.out⟩
      have := EntsP.ofOwn (P := P) (zs := zs) (by rw [← HN.out]; exact HO.out) hP (fun z hz => (HEZ.out z hz).keeps HKW.out (by simp))
      rw [HZ2.out] at this
      exact this
end Go.Proofs.YtlnmbfddhdjioaaGreat
