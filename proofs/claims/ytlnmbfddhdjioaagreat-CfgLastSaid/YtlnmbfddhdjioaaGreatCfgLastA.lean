/-
  CfgLast, walked.
-/
import Derived.Test.YtlnmbfddhdjioaaGreatCfgOps
import Derived.Deep.RegionHeld3
namespace Go.Proofs.YtlnmbfddhdjioaaGreat
set_option linter.unusedVariables false
open Go.RowKit Go.Deep

theorem less_last : ∀ a b : List UInt8, Op.bytesLess a b = bytesBefore a b
  | [], [] => rfl
  | [], _ :: _ => rfl
  | _ :: _, [] => rfl
  | a :: r, b :: s => by unfold Op.bytesLess bytesBefore; rw [less_last r s]

/-- A value as the statement's map keeps it. -/
def strV (v : List UInt8) : Value := .agg #[.string ⟨v.toArray⟩]

/-- Block B is the statement's map, of these entries. -/
def MapL (w : World) (B : Nat) (es : List Ent) : Prop := w.ownsMap Tryz.prog 9 tokE B es.length (dat (mapK strV es)) ∧ Rise es

theorem MapL.lt {w : World} {B : Nat} {es : List Ent} (h : MapL w B es) : B < w.heap.size := h.1.lt

theorem MapL.keeps {S : List Nat} {w w' : World} {B : Nat} {es : List Ent} (h : MapL w B es) (hk : Keeps S w w') (hB : B ∉ S) : MapL w' B es := ⟨ownsMap_keeps h.1 hk hB, h.2⟩

theorem MapL.made (w : World) : MapL (w.alloc (.map #[] 0)) w.heap.size [] := ⟨World.ownsMap_made _ _ _ _, List.Pairwise.nil⟩

theorem zeroStr (w : World) : (zeroValue 48).run Tryz.prog w = .ok (.agg #[.string ⟨#[]⟩]) w := by kernel_rfl

theorem MapL.look {w : World} {B : Nat} {es : List Ent} (h : MapL w B es) (k : List UInt8) (hk : k.length ≤ maxLen) :
    (Instr.lookup 47 (.map (some B)) (.string ⟨k.toArray⟩) true).run Tryz.prog w = .ok (.tuple #[.agg #[.string ⟨((getK k es).getD []).toArray⟩], .bool (getK k es).isSome]) w := by
  obtain ⟨v, ps, hrun, hv⟩ := h.1.look_ok strKeyed Tryz.underlying47 (zeroStr w) (show tokE (.agg #[.string ⟨#[]⟩]) = some (.held _, []) from rfl) (strKey k hk)
  rw [dat_has] at hrun
  rw [dat_at] at hv
  rw [mapK_get] at hv hrun
  rw [hrun]
  cases hg : getK k es with
  | none =>
    rw [hg] at hv
    simp only [Option.map_none, Option.getD_none] at hv
    have : v = .agg #[.string ⟨#[]⟩] := by unfold tokE at hv; simp at hv; exact hv.1
    subst this
    rfl
  | some x =>
    rw [hg] at hv
    simp only [Option.map_some, Option.getD_some] at hv
    have : v = strV x := by unfold tokE at hv; simp at hv; exact hv.1
    subst this
    rfl

theorem MapL.ofPut {w w1 : World} {B n : Nat} {es : List Ent} (h : MapL w B es) (k v : List UInt8) (ho : w1.ownsMap Tryz.prog 9 tokE B n ((dat (mapK strV es)).put (.string k) (.held (.agg #[.string ⟨v.toArray⟩])))) : MapL w1 B (putK k v es) := by
  refine ⟨?_, h.2.put _ _⟩
  rw [dat_put] at ho
  have := ownsMap_tight ho
  rw [dat_size] at this
  have e : mapK strV (putK k v es) = putK k (strV v) (mapK strV es) := mapK_put _ _ _ _
  rw [e, ← mapK_length strV (putK k v es), e]
  exact this

theorem MapL.ofDel {w w1 : World} {B n : Nat} {es : List Ent} (h : MapL w B es) (k : List UInt8) (ho : w1.ownsMap Tryz.prog 9 tokE B n ((dat (mapK strV es)).del (.string k))) : MapL w1 B (delK k es) := by
  refine ⟨?_, h.2.del _⟩
  rw [dat_del] at ho
  have := ownsMap_tight ho
  rw [dat_size] at this
  have e : mapK strV (delK k es) = delK k (mapK strV es) := mapK_del _ _ _
  rw [e, ← mapK_length strV (delK k es), e]
  exact this

theorem opE_cases (es : List Ent) (d : Nat) (ky vl : List UInt8) (hr : Rise es) :
    ((opE es d ky vl).1 = es ∧ (opE es d ky vl).2 = 2 ∧ (¬ (1 ≤ ky.length ∧ ky.length ≤ 16) ∨ ((1 ≤ ky.length ∧ ky.length ≤ 16) ∧ d % 4 ≠ 3 ∧ 64 < vl.length))) ∨
    ((opE es d ky vl).1 = es ∧ (opE es d ky vl).2 = 60 ∧ d % 4 = 3 ∧ (1 ≤ ky.length ∧ ky.length ≤ 16) ∧ getK ky es = none) ∨
    ((opE es d ky vl).1 = es ∧ (opE es d ky vl).2 = 5 ∧ d % 4 ≠ 3 ∧ (1 ≤ ky.length ∧ ky.length ≤ 16)) ∨
    ((opE es d ky vl).1 = delK ky es ∧ (opE es d ky vl).2 = 0 ∧ d % 4 = 3 ∧ (1 ≤ ky.length ∧ ky.length ≤ 16)) ∨
    ((opE es d ky vl).1 = putK ky vl es ∧ (opE es d ky vl).2 = 0 ∧ d % 4 ≠ 3 ∧ (1 ≤ ky.length ∧ ky.length ≤ 16)) := by
  unfold opE
  by_cases h3 : d % 4 = 3
  · rw [if_pos h3]
    unfold delE
    by_cases h4 : 1 ≤ ky.length ∧ ky.length ≤ 16
    · rw [if_neg (by simpa using h4)]
      by_cases h5 : getK ky es = none
      · rw [if_pos h5]; exact .inr (.inl ⟨rfl, rfl, h3, h4, h5⟩)
      · rw [if_neg h5]; exact .inr (.inr (.inr (.inl ⟨rfl, rfl, h3, h4⟩)))
    · rw [if_pos h4]; exact .inl ⟨rfl, rfl, .inl h4⟩
  · rw [if_neg h3]
    unfold setE
    by_cases h4 : 1 ≤ ky.length ∧ ky.length ≤ 16
    · by_cases h5 : vl.length ≤ 64
      · have hw : weightL ky vl ≠ 0 := by
          unfold weightL
          rw [if_pos ⟨h4, h5⟩]
          have := wE_pos (ky, vl); omega
        rw [if_neg hw]
        by_cases h6 : getK ky es = some vl
        · rw [if_pos h6]; exact .inr (.inr (.inr (.inr ⟨(put_same hr h6).symm, rfl, h3, h4⟩)))
        · rw [if_neg h6]
          by_cases h7 : 236 < wtL (putK ky vl es)
          · rw [if_pos h7]; exact .inr (.inr (.inl ⟨rfl, rfl, h3, h4⟩))
          · rw [if_neg h7]; exact .inr (.inr (.inr (.inr ⟨rfl, rfl, h3, h4⟩)))
      · have hw : weightL ky vl = 0 := by unfold weightL; rw [if_neg (fun h => h5 h.2)]
        rw [if_pos hw]; exact .inl ⟨rfl, rfl, .inr ⟨h4, h3, by omega⟩⟩
    · have hw : weightL ky vl = 0 := by unfold weightL; rw [if_neg (fun h => h4 h.1)]
      rw [if_pos hw]; exact .inl ⟨rfl, rfl, .inl h4⟩

set_option maxRecDepth 100000 in
set_option maxHeartbeats 2000000 in
theorem begun6_none (w : World) (first n : Nat) (hn : 3 ≤ n) (hf : first + n ≤ 16) :
    Calls Tryz.prog 5 #[.agg #[.int .i64 first, .int .i64 n]] w fun e w' => ∃ F B W s, e = .returned (.tuple #[.pointer (some ⟨F, 0, none⟩), .bool true]) ∧ w.heap.size ≤ F ∧ w.heap.size ≤ B ∧ w.heap.size ≤ W ∧ FlashE w' F B W s ∧ s.armed = false ∧ s.mask = [] ∧ Cfg 16 first n first 1 0 [] s ∧ Keeps [] w w' := by
  go_enter Tryz.func5, Tryz.ntmps5
  go_upto_region 1 with (fail)
  generalize hV : World.alloc w _ = V
  have kV : Keeps [] w V := by rw [← hV]; exact Keeps.alloc [] _ _
  have wV : Whole V w.heap.size 25 [.int .i64 first, .int .i64 n] := by rw [← hV]; exact Whole.new w 25 [_, _]
  have KV := Lib.hid kV
  have WV := Lib.hid wV
  have nV := kV.size
  clear hV kV wV
  have HNW := Lib.hid (New_ok V 16 (by decide) (by decide))
  go_upto_region 2 with (go_at_call 18; refine HNW.out.mono ?_; rintro e w1 ⟨F, B, W, M, rfl, h1, h2, h3, hf1, k1⟩; have HF1 := Lib.hid hf1; have K1 := Lib.hid (KV.out.trans k1); have W1 := Lib.hid (WV.out.keeps k1 (by simp)); clear k1 hf1)
  have v0 := (W1.out.cell 0).trans (show _ = some (Value.int .i64 (first : Int)) from rfl)
  have v1 := (W1.out.cell 1).trans (show _ = some (Value.int .i64 (n : Int)) from rfl)
  have HMK := Lib.hid (fun U (hU : Keeps [] w1 U) => Make_new U (HF1.out.keeps hU (by simp) (by simp) (by simp) (by simp)) (newN 16) hn hf)
  go_wp2_with (go_at_call 6; first | (refine (HMK.out _ (Keeps.refl [] _)).mono ?_; rintro e w2 ⟨rfl, hf2, k2⟩))
  go_ret2
  have hc := ((newN 16).cfg first n hn hf (Int.le_refl _)).1
  exact ⟨F, B, W, _, rfl, by omega, by omega, by omega, FlashE.of hf2 (.inl rfl), rfl, rfl, hc, K1.out.then k2 (fun x hx => by simp at hx; right; rcases hx with rfl | rfl | rfl <;> omega)⟩

theorem All_last {F B W N first n k i t m : Nat} {es : List Ent} {s : FS} (w : World) (hF : FlashE w F B W s) (hc : Cfg N first n k i t es s) (hm : m = es.length) :
    Calls Tryz.prog 13 #[.pointer (some ⟨F, 0, none⟩), .agg #[.int .i64 first, .int .i64 n]] w fun e w' => ∃ ao cp, e = .returned (.tuple #[.slice ao m cp, .int .i64 0]) ∧ EntsAt w.heap.size w' (.slice ao m cp) es ∧ m ≤ cp ∧ Keeps [] w w' := by
  refine (All_ok w hF hc).mono ?_
  rintro e w' ⟨v, rfl, he, k⟩
  obtain ⟨ao, cp, rfl, hcp⟩ := he.shape
  rw [← hm] at hcp he ⊢
  exact ⟨ao, cp, rfl, he, hcp, k⟩


theorem notMemL {a b : Nat} (h : a ≠ b) : a ∉ [b] := fun hm => h (by simpa using hm)

set_option maxRecDepth 100000 in
set_option maxHeartbeats 4000000 in
theorem CfgLast_any (w : World) (lv : Value) (n0 : Nat) (hl : Ops6 w w.heap.size lv n0) :
    Calls Tryz.prog 4 #[lv] w fun e w' => e = .returned (.bool true) ∧ Keeps [] w w' := by
  obtain ⟨ao, cap, rfl, hn⟩ := hl.shape
  have HL := Lib.hid hl
  have HBG := Lib.hid (fun U => begun6_none U 1 4 (by omega) (by omega))
  have hmm := @run_makeMap Tryz.prog
  clear hl
  go_enter Tryz.func4, Tryz.ntmps4
  go_upto_region 2 with (fail)
  generalize hV : World.alloc w _ = V
  have kV : Keeps [] w V := by rw [← hV]; exact Keeps.alloc [] _ _
  have wV : Whole V w.heap.size 25 [.int .i64 1, .int .i64 4] := by rw [← hV]; exact Whole.new w 25 [_, _]
  have v0 := (wV.cell 0).trans (show _ = some (Value.int .i64 1) from rfl)
  have v1 := (wV.cell 1).trans (show _ = some (Value.int .i64 4) from rfl)
  have KV := Lib.hid kV
  have WV := Lib.hid wV
  have hRV := wV.lt
  clear hV kV wV
  go_upto_region 3 with (go_at_call 5; refine (HBG.out _).mono ?_; rintro e w1 ⟨F, B, W, s0, rfl, f1, f2, f3, hF1, ha1, hm1, hc1, k1⟩; have HF1 := Lib.hid hF1; have HC1 := Lib.hid hc1; have HA1 := Lib.hid ha1; have HM1 := Lib.hid hm1; have W1 := Lib.hid (WV.out.keeps k1 (by simp)); have K1 := Lib.hid (KV.out.trans k1); clear hF1 hc1 ha1 hm1 k1)
  clear v0 v1
  have f4 : w.heap.size < F ∧ w.heap.size < B ∧ w.heap.size < W := by omega
  clear f1 f2 f3
  have f5 := HF1.out.lt
  go_wp2
  have HMLm := MapL.made w1
  have hkM := Keeps.alloc [] w1 (.map #[] 0)
  have HF2 := Lib.hid (HF1.out.keeps hkM (by simp) (by simp) (by simp) (by simp))
  have W2 := Lib.hid (W1.out.keeps hkM (by simp))
  have K2 := Lib.hid (K1.out.trans hkM)
  have ML2 := Lib.hid HMLm
  have hw1 : w.heap.size < w1.heap.size := W1.out.lt
  clear HMLm hkM HF1 W1 K1 KV WV
  generalize w1.alloc (.map #[] 0) = w2 at *
  generalize w1.heap.size = MB at *
  go_loopw [7, 8, 9, 10, 11, 12] (fun ix _ _ _ _ _ wr => ∃ (j : Nat) (s : FS) (k i : Nat) (es : List Ent), j ≤ n0 ∧ j ≤ 60 ∧ ix = .int .i64 j ∧ i ≤ j + 1 ∧ Hid (FlashE wr F B W s) ∧ Hid (Cfg 16 1 4 k i j es s) ∧ Hid (s.armed = false) ∧ Hid (s.mask = []) ∧ Hid (MapL wr MB es) ∧ Hid (Whole wr w.heap.size 25 [.int .i64 1, .int .i64 4]) ∧ Hid (Keeps [] w wr)) (fun ix _ _ _ _ _ _ => n0 - (intOf ix).toNat)
  case atStart => exact ⟨0, s0, 1, 1, [], by omega, by omega, rfl, by omega, HF2, HC1, HA1, HM1, ML2, W2, K2⟩
  case round =>
    obtain ⟨j, s, k, i, es, hjn, hj60, rfl, hij, HF, HC, HA, HMS, ML, WR, HKW⟩ := hrel
    clear HF2 HC1 HA1 HM1 ML2 W2 K2 HBG hmm
    have hes : es.length ≤ 100 := by have := wtL_length es; have := HC.out.room.1; omega
    by_cases hlt : j < n0 ∧ j < 60
    · obtain ⟨h1, h2⟩ := hlt
      have hji : (j : Int) < (n0 : Int) := by omega
      have hj3 : (j : Int) < 60 := by omega
      obtain ⟨b, off, rfl, hops⟩ := HL.out.spot (by omega)
      obtain ⟨d, ar, kv1, vv1, mv1, ky1, vl1, ml1, Mk1, Mv1, Mm1, hop⟩ := hops j h1
      have hop0 := hop
      obtain ⟨hd1, _, hk1, hv1, _, rk1, bk1, rv1, bv1, rm1, _, _, c0, c1, c2, c3, c4⟩ := hop.keeps HKW.out (by simp)
      obtain ⟨ka1, kc1, rfl, _⟩ := rk1.shape
      obtain ⟨va1, vc1, rfl, _⟩ := rv1.shape
      obtain ⟨ma1, mc1, rfl, _⟩ := rm1.shape
      have hsz := HKW.out.size
      have RK := Lib.hid (fun U (hU : Keeps [] w U) => show Reads U (.slice ka1 ky1.length kc1) ky1 Mk1 from (hop0.keeps hU (by simp)).2.2.2.2.2.1)
      have RV := Lib.hid (fun U (hU : Keeps [] w U) => show Reads U (.slice va1 vl1.length vc1) vl1 Mv1 from (hop0.keeps hU (by simp)).2.2.2.2.2.2.2.1)
      have HBK := Lib.hid (fun U (hU : Keeps [] w U) => BytesAt.of (RK.out U hU) bk1 hU.size)
      have HBV := Lib.hid (fun U (hU : Keeps [] w U) => BytesAt.of (RV.out U hU) bv1 hU.size)
      have hflt := HF.out.lt
      have hmlt := ML.out.lt
      have HCS := Lib.hid (opE_cases es d ky1 vl1 HC.out.good.rise)
      clear rm1 hop hop0 hops rk1 rv1 bk1 bv1
      generalize hkn1 : ky1.length = kn1 at *
      generalize hvn1 : vl1.length = vn1 at *
      generalize ml1.length = mn1 at *
      have HKN := Lib.hid hkn1
      clear hkn1 hvn1
      simp only [Addr.add_off, ← Nat.add_assoc] at c0 c1 c2 c3 c4
      go_upto_region 10 with (fail)
      generalize hX : World.alloc wr _ = X
      have kX : Keeps [] wr X := by rw [← hX]; exact Keeps.alloc [] _ _
      have wX : Whole X wr.heap.size 33 [.int .u8 d, (.slice ka1 kn1 kc1), (.slice va1 vn1 vc1), .int .u8 ar, (.slice ma1 mn1 mc1)] := by rw [← hX]; exact Whole.new wr 33 [_, _, _, _, _]
      have t0 := (wX.cell 0).trans (show _ = some (Value.int .u8 (d : Int)) from rfl)
      have t1 := (wX.cell 1).trans (show _ = some (Value.slice ka1 kn1 kc1) from rfl)
      have t2 := (wX.cell 2).trans (show _ = some (Value.slice va1 vn1 vc1) from rfl)
      have t3 := (wX.cell 3).trans (show _ = some (Value.int .u8 (ar : Int)) from rfl)
      have t4 := (wX.cell 4).trans (show _ = some (Value.slice ma1 mn1 mc1) from rfl)
      have WRX := Lib.hid (WR.out.keeps kX (by simp))
      have r0 := (WRX.out.cell 0).trans (show _ = some (Value.int .i64 1) from rfl)
      have r1 := (WRX.out.cell 1).trans (show _ = some (Value.int .i64 4) from rfl)
      have WX := Lib.hid wX
      have hXlt := wX.lt
      have KX := Lib.hid (HKW.out.trans kX)
      have MLX := Lib.hid (ML.out.keeps kX (by simp))
      obtain ⟨s', k', i', q1, q2, q3, q4⟩ := HC.out.op_whole HA.out (by omega) d ky1 vl1
      have hm' := HC.out.op_mask HMS.out d ky1 vl1
      rw [q1] at hm'
      have HMS' := Lib.hid (show s'.mask = [] from hm')
      have HC2 := Lib.hid q3
      have HA2 := Lib.hid q2
      have hch := changed6_any X (HF.out.keeps kX (by simp) (by simp) (by simp) (by simp)) HC.out (by omega) (by omega) d ar hd1 (.slice ka1 kn1 kc1) (.slice va1 vn1 vc1) (.slice ma1 mn1 mc1) ky1 vl1 (HBK.out X KX.out) (HBV.out X KX.out)
      rw [q1] at hch
      have HCH := Lib.hid hch
      generalize (opE es d ky1 vl1).2 = er at *
      generalize (opE es d ky1 vl1).1 = es' at *
      have hwX : w.heap.size < wr.heap.size := WR.out.lt
      clear hch hm' q1 q2 q3 hX kX wX HF ML WR HKW c0 c1 c2 c3 c4
      generalize wr.heap.size = OB at *
      go_upto_region 11 with (go_at_call 9; refine HCH.out.mono ?_; rintro e w3 ⟨rfl, hf3, k3⟩; have HF3 := Lib.hid hf3; have K3 := Lib.hid (KX.out.then k3 (S := []) (T := [F, B, W]) (fun x hx => by simp at hx; right; rcases hx with rfl | rfl | rfl <;> omega)); have W3 := Lib.hid (WX.out.keeps k3 (by simp; omega)); have WR3 := Lib.hid (WRX.out.keeps k3 (by simp; omega)); have ML3 := Lib.hid (MLX.out.keeps k3 (by simp; omega)); have hz3 := k3.size; clear hf3 k3 t0 t1 t2 t3 t4 r0 r1)
      have o1 := (W3.out.cell 1).trans (show _ = some (Value.slice ka1 kn1 kc1) from rfl)
      have hcv := conv_reads (RK.out w3 K3.out)
      have hlk := ML3.out.look ky1 (by rw [HKN.out]; exact hk1)
      obtain ⟨had, hhad⟩ : ∃ had, (getK ky1 es).isSome = had := ⟨_, rfl⟩
      obtain ⟨pv, hpv⟩ : ∃ pv, (getK ky1 es).getD [] = pv := ⟨_, rfl⟩
      rw [hhad, hpv] at hlk
      have HHAD := Lib.hid hhad
      clear hhad hpv
      go_upto_region 12 with (fail)
      generalize hZ : World.alloc w3 _ = Z
      have kZ : Keeps [] w3 Z := by rw [← hZ]; exact Keeps.alloc [] _ _
      have KZ := Lib.hid (K3.out.trans kZ)
      have WZ := Lib.hid (W3.out.keeps kZ (by simp))
      have WRZ := Lib.hid (WR3.out.keeps kZ (by simp))
      have MLZ := Lib.hid (ML3.out.keeps kZ (by simp))
      have HFZ := Lib.hid (HF3.out.keeps kZ (by simp) (by simp) (by simp) (by simp))
      have o0 := (WZ.out.cell 0).trans (show _ = some (Value.int .u8 (d : Int)) from rfl)
      have o1' := (WZ.out.cell 1).trans (show _ = some (Value.slice ka1 kn1 kc1) from rfl)
      have o2 := (WZ.out.cell 2).trans (show _ = some (Value.slice va1 vn1 vc1) from rfl)
      have hcvk := conv_reads (RK.out Z KZ.out)
      have hcvv := conv_reads (RV.out Z KZ.out)
      obtain ⟨q, hq⟩ : ∃ q, d % 4 = q := ⟨_, rfl⟩
      have e1 : (d : Int) % 4 = (q : Int) := by omega
      have e2 : (d : Int).tmod 4 = (q : Int) := by rw [Int.tmod_eq_emod_of_nonneg (by omega)]; exact e1
      have hq4 : q < 4 := by omega
      have hcs := HCS.out
      rw [hq] at hcs
      clear hZ kZ hcv hlk o1 hq HCS K3 W3 WR3 ML3 HF3 HCH KX WX WRX MLX
      rcases hcs with ⟨rfl, rfl, hc⟩ | ⟨rfl, rfl, hq3, ⟨n1, n2⟩, hg⟩ | ⟨rfl, rfl, hq3, ⟨n1, n2⟩⟩ | ⟨rfl, rfl, hq3, ⟨n1, n2⟩⟩ | ⟨rfl, rfl, hq3, ⟨n1, n2⟩⟩
      · rcases hc with hc | ⟨⟨n1, n2⟩, hq3, hv⟩
        · have hc' : kn1 = 0 ∨ (1 ≤ kn1 ∧ 16 < kn1) := by omega
          clear hc
          rcases hc' with rfl | ⟨n1, n2⟩
          · go_wp2
            go_roundw
            case rel => exact ⟨j + 1, s', k', i', _, by omega, by omega, by go_num, by omega, HFZ, HC2, HA2, HMS', MLZ, WRZ, KZ⟩
            case measure => simp [intOf]; omega
          · have n1' : (1 : Int) ≤ (kn1 : Int) := by omega
            have n2' : decide ((kn1 : Int) ≤ 16) = false := by simp; omega
            have n2'' : decide (kn1 ≤ 16) = false := by simp; omega
            go_wp2
            go_roundw
            case rel => exact ⟨j + 1, s', k', i', _, by omega, by omega, by go_num, by omega, HFZ, HC2, HA2, HMS', MLZ, WRZ, KZ⟩
            case measure => simp [intOf]; omega
        · have n1' : (1 : Int) ≤ (kn1 : Int) := by omega
          have n2' : (kn1 : Int) ≤ 16 := by omega
          have m1 : (64 : Int) < (vn1 : Int) := by omega
          have m2 : ((q : Int) != 3) = true := by simp; omega
          clear hq3
          go_wp2
          go_roundw
          case rel => exact ⟨j + 1, s', k', i', _, by omega, by omega, by go_num, by omega, HFZ, HC2, HA2, HMS', MLZ, WRZ, KZ⟩
          case measure => simp [intOf]; omega
      · subst hq3
        have n1' : (1 : Int) ≤ (kn1 : Int) := by omega
        have n2' : (kn1 : Int) ≤ 16 := by omega
        have hh : had = false := by rw [← HHAD.out, hg]; rfl
        subst hh
        clear hg
        go_wp2
        go_roundw
        case rel => exact ⟨j + 1, s', k', i', _, by omega, by omega, by go_num, by omega, HFZ, HC2, HA2, HMS', MLZ, WRZ, KZ⟩
        case measure => simp [intOf]; omega
      · have n1' : (1 : Int) ≤ (kn1 : Int) := by omega
        have n2' : (kn1 : Int) ≤ 16 := by omega
        have m2 : ((q : Int) != 3) = true := by simp; omega
        have m3 : ((q : Int) == 3) = false := by simp; omega
        clear hq3
        go_wp2
        go_roundw
        case rel => exact ⟨j + 1, s', k', i', _, by omega, by omega, by go_num, by omega, HFZ, HC2, HA2, HMS', MLZ, WRZ, KZ⟩
        case measure => simp [intOf]; omega
      · subst hq3
        have n1' : (1 : Int) ≤ (kn1 : Int) := by omega
        have n2' : (kn1 : Int) ≤ 16 := by omega
        obtain ⟨wd, hdel, hod, hgd⟩ := MLZ.out.1.drop (t := 47) (e := 48) strKeyed Tryz.underlying47 (strKey ky1 (by rw [HKN.out]; exact hk1)) 0
        have MLD := Lib.hid (MLZ.out.ofDel ky1 hod)
        have kd := grown_keeps hgd.grown
        clear hod hgd
        have HFD := Lib.hid (HFZ.out.keepsNil HMS'.out kd (notMemL (by omega)) (notMemL (by omega)) (notMemL (by omega)))
        have WRD := Lib.hid (WRZ.out.keeps kd (notMemL (by omega)))
        have KD := Lib.hid (KZ.out.then kd (fun x hx => .inr (by simp at hx; omega)))
        have KDH := Lib.hid kd
        clear kd
        go_wp2
        go_roundw
        case rel => exact ⟨j + 1, s', k', i', _, by omega, by omega, by go_num, by omega, HFD, HC2, HA2, HMS', MLD, WRD, KD⟩
        case measure => simp [intOf]; omega
      · have n1' : (1 : Int) ≤ (kn1 : Int) := by omega
        have n2' : (kn1 : Int) ≤ 16 := by omega
        have m2 : ((q : Int) != 3) = true := by simp; omega
        have m3 : ((q : Int) == 3) = false := by simp; omega
        clear hq3
        obtain ⟨wd, hdel, hod, hgd⟩ := MLZ.out.1.update (t := 47) (e := 48) strKeyed Tryz.underlying47 (by unfold maxLen; omega) (strKey ky1 (by rw [HKN.out]; exact hk1)) (show tokE (.agg #[.string ⟨vl1.toArray⟩]) = some (.held _, []) from rfl)
        have MLD := Lib.hid (MLZ.out.ofPut ky1 vl1 hod)
        have kd := grown_keeps hgd
        clear hod hgd
        have HFD := Lib.hid (HFZ.out.keepsNil HMS'.out kd (notMemL (by omega)) (notMemL (by omega)) (notMemL (by omega)))
        have WRD := Lib.hid (WRZ.out.keeps kd (notMemL (by omega)))
        have KD := Lib.hid (KZ.out.then kd (fun x hx => .inr (by simp at hx; omega)))
        have KDH := Lib.hid kd
        clear kd
        go_wp2
        go_roundw
        case rel => exact ⟨j + 1, s', k', i', _, by omega, by omega, by go_num, by omega, HFD, HC2, HA2, HMS', MLD, WRD, KD⟩
        case measure => simp [intOf]; omega
    · have hex : (n0 ≤ j) ∨ (j < n0 ∧ ¬ j < 60) := by omega
      clear hlt
      have hgx : (j < n0 → (j : Int) < n0) := by omega
      rcases hex with hx | ⟨hx, hx'⟩
      · have dd1 : decide ((j : Int) < (n0 : Int)) = false := by simp; omega
        have dd2 : decide (j < n0) = false := by simp; omega
        clear hgx
        have v0 := (WR.out.cell 0).trans (show _ = some (Value.int .i64 1) from rfl)
        have v1 := (WR.out.cell 1).trans (show _ = some (Value.int .i64 4) from rfl)
        obtain ⟨m, hm⟩ : ∃ m, m = es.length := ⟨_, rfl⟩
        have HM := Lib.hid hm
        clear hm
        have hm100 : m ≤ 100 := by have := HM.out; omega
        go_upto_region 22 with (go_at_call 13; refine (All_last wr HF.out HC.out HM.out).mono ?_; rintro e w9 ⟨ao4, cp4, rfl, hen, hcp4, k9⟩; have EN9 := Lib.hid hen; have ML9 := Lib.hid (ML.out.keeps k9 (by simp)); have HF9 := Lib.hid (HF.out.keeps k9 (by simp) (by simp) (by simp) (by simp)); have K9 := Lib.hid (HKW.out.trans k9); have WR9 := Lib.hid (WR.out.keeps k9 (by simp)); clear hen k9 v0 v1)
        have hlen : ∀ ty, (Builtin.len_ #[47] ty #[.map (some MB)]).run Tryz.prog w9 = .ok (.int .i64 (m : Int)) w9 := fun ty => by
          have := ML9.out.1.len (t := 47) (e := 48) Tryz.underlying47 ty
          rw [dat_size, mapK_length, ← HM.out] at this
          exact this
        go_wp2
        clear hlen
        obtain ⟨wo, rfl⟩ : ∃ wo : World, wo = wr := ⟨_, rfl⟩
        go_loopw [15, 16, 17, 18, 19, 20, 21, 146] (fun _ _ _ _ _ _ _ ix wq => ∃ q : Nat, q ≤ m ∧ ix = .int .i64 q ∧ Hid (Keeps [] w9 wq)) (fun _ _ _ _ _ _ _ ix _ => m - (intOf ix).toNat)
        case atStart => exact ⟨0, by omega, rfl, Lib.hid (Keeps.refl _ _)⟩
        case round =>
          obtain ⟨q, hq, rfl, HKQ⟩ := hrel
          by_cases hqm : q < m
          · have hqi : (q : Int) < (m : Int) := by omega
            obtain ⟨x, hx⟩ : ∃ x, es[q]? = some x := ⟨es[q]'(by have := HM.out; omega), List.getElem?_eq_getElem _⟩
            have hok := HC.out.good.ok x (List.mem_of_getElem? hx)
            have hget : getK x.1 es = some x.2 := get_of_mem HC.out.good.rise.ne (List.mem_of_getElem? hx)
            obtain ⟨g, k1, v1, rfl, _, hgl, c0, c1, b0, b1⟩ := (EN9.out.keeps HKQ.out (by simp)).at q x hx
            have HPREV := Lib.hid (fun (h0 : 0 < q) => show ∃ px : Ent, es[q - 1]? = some px ∧ bytesBefore px.1 x.1 = true from by
              have hl := (List.getElem?_eq_some_iff.1 hx)
              obtain ⟨hql, hqx⟩ := hl
              refine ⟨es[q - 1]'(by omega), List.getElem?_eq_getElem _, ?_⟩
              have := List.pairwise_iff_getElem.1 HC.out.good.rise (q - 1) q (by omega) hql (by omega)
              rw [hqx] at this; exact this)
            obtain ⟨p1, y1, rfl, _⟩ := b0.shape
            obtain ⟨p2, y2, rfl, _⟩ := b1.shape
            have h16 := hok.k16
            have HB0 := Lib.hid b0
            have HB1 := Lib.hid b1
            obtain ⟨xk, xv⟩ := x
            simp only at HB0 HB1 c0 c1 hget h16 HPREV
            have HGET := Lib.hid hget
            clear b0 b1 hx hok hget
            generalize hxn : xk.length = xn at *
            generalize hvn : xv.length = vn at *
            have HXN := Lib.hid hxn
            clear hxn hvn
            go_upto_region 27 with (fail)
            generalize hY : World.alloc wr _ = Y
            have kY : Keeps [] wr Y := by rw [← hY]; exact Keeps.alloc [] _ _
            have wY : Whole Y wr.heap.size 51 [.slice p1 xn y1, .slice p2 vn y2] := by rw [← hY]; exact Whole.new wr 51 [_, _]
            have x0 := (wY.cell 0).trans (show _ = some (Value.slice p1 xn y1) from rfl)
            have KQY := Lib.hid (HKQ.out.trans kY)
            have WYH := Lib.hid wY
            have BX0 := Lib.hid (HB0.out.keeps kY (by simp))
            have BX1 := Lib.hid (HB1.out.keeps kY (by simp))
            clear hY kY wY c0 c1 HB0 HB1
            generalize wr.heap.size = XB at *
            obtain ⟨M0, rd0, _⟩ := BX0.out
            have hcv := conv_reads rd0
            have hlk := (ML9.out.keeps KQY.out (by simp)).look xk (by rw [HXN.out]; unfold maxLen; omega)
            rw [HGET.out] at hlk
            simp only [Option.getD_some, Option.isSome_some] at hlk
            clear rd0
            go_upto_region 28 with (fail)
            generalize hZ : World.alloc Y _ = Z
            have kZ : Keeps [] Y Z := by rw [← hZ]; exact Keeps.alloc [] _ _
            have wZ : Whole Z Y.heap.size 48 [.string ⟨xv.toArray⟩] := by rw [← hZ]; exact Whole.new Y 48 [_]
            have KQZ := Lib.hid (KQY.out.trans kZ)
            have WYZ := Lib.hid (WYH.out.keeps kZ (by simp))
            have WVZ := Lib.hid wZ
            have BZ0 := Lib.hid (BX0.out.keeps kZ (by simp))
            have BZ1 := Lib.hid (BX1.out.keeps kZ (by simp))
            clear hZ kZ wZ hcv hlk x0
            generalize Y.heap.size = VB at *
            have x0 := (WYZ.out.cell 0).trans (show _ = some (Value.slice p1 xn y1) from rfl)
            have WRZ := Lib.hid (WR9.out.keeps KQZ.out (by simp))
            have r0 := (WRZ.out.cell 0).trans (show _ = some (Value.int .i64 1) from rfl)
            have r1 := (WRZ.out.cell 1).trans (show _ = some (Value.int .i64 4) from rfl)
            obtain ⟨M2, rd2, _⟩ := BZ0.out
            have hgt := Get_ok Z (HF9.out.keeps KQZ.out (by simp) (by simp) (by simp) (by simp)) HC.out (.slice p1 xn y1) xk M2 rd2 (by rw [HXN.out]; unfold maxLen; omega)
            rw [HGET.out] at hgt
            simp only [Option.getD_some, Option.isSome_some] at hgt
            have HGT := Lib.hid hgt
            clear hgt rd2
            go_upto_region 29 with (go_at_call 15; refine HGT.out.mono ?_; rintro e w13 ⟨va, vn2, vc2, rfl, hb13, k13⟩; have HB13 := Lib.hid hb13; have KQ13 := Lib.hid (KQZ.out.trans k13); have WY13 := Lib.hid (WYZ.out.keeps k13 (by simp)); have WV13 := Lib.hid (WVZ.out.keeps k13 (by simp)); have B130 := Lib.hid (BZ0.out.keeps k13 (by simp)); have B131 := Lib.hid (BZ1.out.keeps k13 (by simp)); clear hb13 k13 x0 r0 r1)
            have z0 := (WY13.out.cell 0).trans (show _ = some (Value.slice p1 xn y1) from rfl)
            have z1 := (WY13.out.cell 1).trans (show _ = some (Value.slice p2 vn y2) from rfl)
            have z2 := (WV13.out.cell 0).trans (show _ = some (Value.string ⟨xv.toArray⟩) from rfl)
            obtain ⟨Ma, ra, _⟩ := B130.out
            have hck := fun k => conv_reads (ra.keeps (Keeps.drewN [] w13 k) (by simp))
            obtain ⟨Mb, rb, _⟩ := B131.out
            have hcval := fun k => conv_reads (rb.keeps (Keeps.drewN [] w13 k) (by simp))
            obtain ⟨Mc, rc, _⟩ := HB13.out
            have hcb := fun k => conv_reads (rc.keeps (Keeps.drewN [] w13 k) (by simp))
            clear ra rb rc
            by_cases hq0 : 0 < q
            · obtain ⟨px, hpx, hbf⟩ := HPREV.out hq0
              obtain ⟨g2, k2, v2, hg2, _, _, d0, _, b2, _⟩ := (EN9.out.keeps KQ13.out (by simp)).at (q - 1) px hpx
              cases hg2
              obtain ⟨p3, y3, rfl, _⟩ := b2.shape
              obtain ⟨Md, rd, _⟩ := b2
              have hcp := fun k => conv_reads (rd.keeps (Keeps.drewN [] w13 k) (by simp))
              obtain ⟨pk, pv2⟩ := px
              simp only at d0 hcp hbf
              have hl1 := less_last pk xk
              rw [hbf] at hl1
              have hi1 : (0 : Int) < (q : Int) := by omega
              have hw1 : IntKind.i64.wrap ((q : Int) - 1) = ((q - 1 : Nat) : Int) := by rw [IntWalk.i64_in _ (by omega)]; omega
              clear rd hpx hbf
              generalize pk.length = pn at *
              generalize hq1 : q - 1 = q1 at *
              go_wp2
              go_quiet (fail)
              go_wp2
              go_roundw
              case rel => exact ⟨q + 1, by omega, by go_num, Lib.hid (KQ13.out.trans (Keeps.drewN [] _ _))⟩
              case measure => simp [intOf]; omega
            · have hi1 : decide ((0 : Int) < (q : Int)) = false := by simp; omega
              have hi2 : decide (0 < q) = false := by simp; omega
              clear hq0
              go_wp2
              go_quiet (fail)
              go_wp2
              go_roundw
              case rel => exact ⟨q + 1, by omega, by go_num, Lib.hid (KQ13.out.trans (Keeps.drewN [] _ _))⟩
              case measure => simp [intOf]; omega
          · obtain rfl : q = m := by omega
            go_wp2_with (go_at_call 17; refine (awake6_any _).mono ?_; rintro e w15 ⟨rfl, k15⟩; have K15 := Lib.hid k15; clear k15)
            go_ret
            exact ⟨rfl, (K9.out.trans HKQ.out).trans K15.out⟩
      · have hji := hgx hx
        have dd1 : decide ((j : Int) < (60 : Int)) = false := by simp; omega
        have dd2 : decide (j < 60) = false := by simp; omega
        clear hgx
        have v0 := (WR.out.cell 0).trans (show _ = some (Value.int .i64 1) from rfl)
        have v1 := (WR.out.cell 1).trans (show _ = some (Value.int .i64 4) from rfl)
        obtain ⟨m, hm⟩ : ∃ m, m = es.length := ⟨_, rfl⟩
        have HM := Lib.hid hm
        clear hm
        have hm100 : m ≤ 100 := by have := HM.out; omega
        go_upto_region 22 with (go_at_call 13; refine (All_last wr HF.out HC.out HM.out).mono ?_; rintro e w9 ⟨ao4, cp4, rfl, hen, hcp4, k9⟩; have EN9 := Lib.hid hen; have ML9 := Lib.hid (ML.out.keeps k9 (by simp)); have HF9 := Lib.hid (HF.out.keeps k9 (by simp) (by simp) (by simp) (by simp)); have K9 := Lib.hid (HKW.out.trans k9); have WR9 := Lib.hid (WR.out.keeps k9 (by simp)); clear hen k9 v0 v1)
        have hlen : ∀ ty, (Builtin.len_ #[47] ty #[.map (some MB)]).run Tryz.prog w9 = .ok (.int .i64 (m : Int)) w9 := fun ty => by
          have := ML9.out.1.len (t := 47) (e := 48) Tryz.underlying47 ty
          rw [dat_size, mapK_length, ← HM.out] at this
          exact this
        go_wp2
        clear hlen
        obtain ⟨wo, rfl⟩ : ∃ wo : World, wo = wr := ⟨_, rfl⟩
        go_loopw [15, 16, 17, 18, 19, 20, 21, 146] (fun _ _ _ _ _ _ _ ix wq => ∃ q : Nat, q ≤ m ∧ ix = .int .i64 q ∧ Hid (Keeps [] w9 wq)) (fun _ _ _ _ _ _ _ ix _ => m - (intOf ix).toNat)
        case atStart => exact ⟨0, by omega, rfl, Lib.hid (Keeps.refl _ _)⟩
        case round =>
          obtain ⟨q, hq, rfl, HKQ⟩ := hrel
          by_cases hqm : q < m
          · have hqi : (q : Int) < (m : Int) := by omega
            obtain ⟨x, hx⟩ : ∃ x, es[q]? = some x := ⟨es[q]'(by have := HM.out; omega), List.getElem?_eq_getElem _⟩
            have hok := HC.out.good.ok x (List.mem_of_getElem? hx)
            have hget : getK x.1 es = some x.2 := get_of_mem HC.out.good.rise.ne (List.mem_of_getElem? hx)
            obtain ⟨g, k1, v1, rfl, _, hgl, c0, c1, b0, b1⟩ := (EN9.out.keeps HKQ.out (by simp)).at q x hx
            have HPREV := Lib.hid (fun (h0 : 0 < q) => show ∃ px : Ent, es[q - 1]? = some px ∧ bytesBefore px.1 x.1 = true from by
              have hl := (List.getElem?_eq_some_iff.1 hx)
              obtain ⟨hql, hqx⟩ := hl
              refine ⟨es[q - 1]'(by omega), List.getElem?_eq_getElem _, ?_⟩
              have := List.pairwise_iff_getElem.1 HC.out.good.rise (q - 1) q (by omega) hql (by omega)
              rw [hqx] at this; exact this)
            obtain ⟨p1, y1, rfl, _⟩ := b0.shape
            obtain ⟨p2, y2, rfl, _⟩ := b1.shape
            have h16 := hok.k16
            have HB0 := Lib.hid b0
            have HB1 := Lib.hid b1
            obtain ⟨xk, xv⟩ := x
            simp only at HB0 HB1 c0 c1 hget h16 HPREV
            have HGET := Lib.hid hget
            clear b0 b1 hx hok hget
            generalize hxn : xk.length = xn at *
            generalize hvn : xv.length = vn at *
            have HXN := Lib.hid hxn
            clear hxn hvn
            go_upto_region 27 with (fail)
            generalize hY : World.alloc wr _ = Y
            have kY : Keeps [] wr Y := by rw [← hY]; exact Keeps.alloc [] _ _
            have wY : Whole Y wr.heap.size 51 [.slice p1 xn y1, .slice p2 vn y2] := by rw [← hY]; exact Whole.new wr 51 [_, _]
            have x0 := (wY.cell 0).trans (show _ = some (Value.slice p1 xn y1) from rfl)
            have KQY := Lib.hid (HKQ.out.trans kY)
            have WYH := Lib.hid wY
            have BX0 := Lib.hid (HB0.out.keeps kY (by simp))
            have BX1 := Lib.hid (HB1.out.keeps kY (by simp))
            clear hY kY wY c0 c1 HB0 HB1
            generalize wr.heap.size = XB at *
            obtain ⟨M0, rd0, _⟩ := BX0.out
            have hcv := conv_reads rd0
            have hlk := (ML9.out.keeps KQY.out (by simp)).look xk (by rw [HXN.out]; unfold maxLen; omega)
            rw [HGET.out] at hlk
            simp only [Option.getD_some, Option.isSome_some] at hlk
            clear rd0
            go_upto_region 28 with (fail)
            generalize hZ : World.alloc Y _ = Z
            have kZ : Keeps [] Y Z := by rw [← hZ]; exact Keeps.alloc [] _ _
            have wZ : Whole Z Y.heap.size 48 [.string ⟨xv.toArray⟩] := by rw [← hZ]; exact Whole.new Y 48 [_]
            have KQZ := Lib.hid (KQY.out.trans kZ)
            have WYZ := Lib.hid (WYH.out.keeps kZ (by simp))
            have WVZ := Lib.hid wZ
            have BZ0 := Lib.hid (BX0.out.keeps kZ (by simp))
            have BZ1 := Lib.hid (BX1.out.keeps kZ (by simp))
            clear hZ kZ wZ hcv hlk x0
            generalize Y.heap.size = VB at *
            have x0 := (WYZ.out.cell 0).trans (show _ = some (Value.slice p1 xn y1) from rfl)
            have WRZ := Lib.hid (WR9.out.keeps KQZ.out (by simp))
            have r0 := (WRZ.out.cell 0).trans (show _ = some (Value.int .i64 1) from rfl)
            have r1 := (WRZ.out.cell 1).trans (show _ = some (Value.int .i64 4) from rfl)
            obtain ⟨M2, rd2, _⟩ := BZ0.out
            have hgt := Get_ok Z (HF9.out.keeps KQZ.out (by simp) (by simp) (by simp) (by simp)) HC.out (.slice p1 xn y1) xk M2 rd2 (by rw [HXN.out]; unfold maxLen; omega)
            rw [HGET.out] at hgt
            simp only [Option.getD_some, Option.isSome_some] at hgt
            have HGT := Lib.hid hgt
            clear hgt rd2
            go_upto_region 29 with (go_at_call 15; refine HGT.out.mono ?_; rintro e w13 ⟨va, vn2, vc2, rfl, hb13, k13⟩; have HB13 := Lib.hid hb13; have KQ13 := Lib.hid (KQZ.out.trans k13); have WY13 := Lib.hid (WYZ.out.keeps k13 (by simp)); have WV13 := Lib.hid (WVZ.out.keeps k13 (by simp)); have B130 := Lib.hid (BZ0.out.keeps k13 (by simp)); have B131 := Lib.hid (BZ1.out.keeps k13 (by simp)); clear hb13 k13 x0 r0 r1)
            have z0 := (WY13.out.cell 0).trans (show _ = some (Value.slice p1 xn y1) from rfl)
            have z1 := (WY13.out.cell 1).trans (show _ = some (Value.slice p2 vn y2) from rfl)
            have z2 := (WV13.out.cell 0).trans (show _ = some (Value.string ⟨xv.toArray⟩) from rfl)
            obtain ⟨Ma, ra, _⟩ := B130.out
            have hck := fun k => conv_reads (ra.keeps (Keeps.drewN [] w13 k) (by simp))
            obtain ⟨Mb, rb, _⟩ := B131.out
            have hcval := fun k => conv_reads (rb.keeps (Keeps.drewN [] w13 k) (by simp))
            obtain ⟨Mc, rc, _⟩ := HB13.out
            have hcb := fun k => conv_reads (rc.keeps (Keeps.drewN [] w13 k) (by simp))
            clear ra rb rc
            by_cases hq0 : 0 < q
            · obtain ⟨px, hpx, hbf⟩ := HPREV.out hq0
              obtain ⟨g2, k2, v2, hg2, _, _, d0, _, b2, _⟩ := (EN9.out.keeps KQ13.out (by simp)).at (q - 1) px hpx
              cases hg2
              obtain ⟨p3, y3, rfl, _⟩ := b2.shape
              obtain ⟨Md, rd, _⟩ := b2
              have hcp := fun k => conv_reads (rd.keeps (Keeps.drewN [] w13 k) (by simp))
              obtain ⟨pk, pv2⟩ := px
              simp only at d0 hcp hbf
              have hl1 := less_last pk xk
              rw [hbf] at hl1
              have hi1 : (0 : Int) < (q : Int) := by omega
              have hw1 : IntKind.i64.wrap ((q : Int) - 1) = ((q - 1 : Nat) : Int) := by rw [IntWalk.i64_in _ (by omega)]; omega
              clear rd hpx hbf
              generalize pk.length = pn at *
              generalize hq1 : q - 1 = q1 at *
              go_wp2
              go_quiet (fail)
              go_wp2
              go_roundw
              case rel => exact ⟨q + 1, by omega, by go_num, Lib.hid (KQ13.out.trans (Keeps.drewN [] _ _))⟩
              case measure => simp [intOf]; omega
            · have hi1 : decide ((0 : Int) < (q : Int)) = false := by simp; omega
              have hi2 : decide (0 < q) = false := by simp; omega
              clear hq0
              go_wp2
              go_quiet (fail)
              go_wp2
              go_roundw
              case rel => exact ⟨q + 1, by omega, by go_num, Lib.hid (KQ13.out.trans (Keeps.drewN [] _ _))⟩
              case measure => simp [intOf]; omega
          · obtain rfl : q = m := by omega
            go_wp2_with (go_at_call 17; refine (awake6_any _).mono ?_; rintro e w15 ⟨rfl, k15⟩; have K15 := Lib.hid k15; clear k15)
            go_ret
            exact ⟨rfl, (K9.out.trans HKQ.out).trans K15.out⟩
end Go.Proofs.YtlnmbfddhdjioaaGreat
