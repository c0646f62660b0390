/-
  CfgFull, walked.
-/
import Derived.Test.YtcmjecnbmdhjlaaGreatCfgQuietA
namespace Go.Proofs.YtcmjecnbmdhjlaaGreat
open Go.RowKit Go.Deep

theorem getK_snoc_ne {α : Type} {k : List UInt8} {l : List (List UInt8 × α)} {x : List UInt8 × α} (h : x.1 ≠ k) : getK k (l ++ [x]) = getK k l := by
  unfold getK
  rw [List.find?_append]
  simp [h]

theorem getK_snoc_eq {α : Type} {k : List UInt8} {l : List (List UInt8 × α)} {x : List UInt8 × α} (h0 : getK k l = none) (h : x.1 = k) : getK k (l ++ [x]) = some x.2 := by
  unfold getK at h0 ⊢
  rw [List.find?_append]
  cases hf : l.find? (fun p => p.1 == k) with
  | some y => rw [hf] at h0; simp at h0
  | none => simp [h]

theorem delK_snoc_ne {α : Type} {k : List UInt8} {l : List (List UInt8 × α)} {x : List UInt8 × α} (h : x.1 ≠ k) : delK k (l ++ [x]) = delK k l ++ [x] := by
  unfold delK
  rw [List.filter_append]
  simp [h]

theorem delK_snoc_eq {α : Type} {k : List UInt8} {l : List (List UInt8 × α)} {x : List UInt8 × α} (h : x.1 = k) : delK k (l ++ [x]) = delK k l := by
  unfold delK
  rw [List.filter_append]
  simp [h]

theorem take_snoc {α : Type} {l : List α} {q : Nat} {x : α} (h : l[q]? = some x) : l.take (q + 1) = l.take q ++ [x] := by
  rw [List.take_add_one, h]; rfl

/-- Keys that rise: what stands at a place is not ahead of it. -/
theorem rise_fresh {es : List Ent} (hr : Rise es) {q : Nat} {x : Ent} (h : es[q]? = some x) : getK x.1 (es.take q) = none := by
  rw [get_none]
  intro y hy he
  obtain ⟨i, hi, rfl⟩ := List.mem_iff_getElem.1 hy
  have hi' : i < q := by rw [List.length_take] at hi; omega
  have hq := (List.getElem?_eq_some_iff.1 h)
  obtain ⟨hql, hqx⟩ := hq
  rw [List.getElem_take] at he
  have := List.pairwise_iff_getElem.1 hr.ne i q (by omega) hql hi'
  rw [hqx] at this
  exact this he

def sumF (ky vl : List UInt8) (es : List Ent) (q : Nat) : Nat := weightL ky vl + wtL (delK ky (es.take q))
def sameF (ky vl : List UInt8) (es : List Ent) (q : Nat) : Bool := getK ky (es.take q) == some vl

theorem sumF_ne {ky vl : List UInt8} {es : List Ent} {q : Nat} {x : Ent} (h : es[q]? = some x) (hk : x.1 ≠ ky) : sumF ky vl es (q + 1) = sumF ky vl es q + wE x ∧ sameF ky vl es (q + 1) = sameF ky vl es q := by
  unfold sumF sameF
  rw [take_snoc h, delK_snoc_ne hk, getK_snoc_ne hk, wtL_append]
  exact ⟨by show _ + (_ + (wE x + 0)) = _; omega, rfl⟩

theorem sumF_eq {ky vl : List UInt8} {es : List Ent} (hr : Rise es) {q : Nat} {x : Ent} (h : es[q]? = some x) (hk : x.1 = ky) : sumF ky vl es (q + 1) = sumF ky vl es q ∧ sameF ky vl es (q + 1) = (x.2 == vl) := by
  have hf := rise_fresh hr h
  unfold sumF sameF
  rw [take_snoc h, delK_snoc_eq hk, getK_snoc_eq (by rw [← hk]; exact hf) hk]
  exact ⟨rfl, rfl⟩

theorem sumF_le (ky vl : List UInt8) {es : List Ent} (hw : wtL es ≤ 236) (q : Nat) : sumF ky vl es q ≤ 400 := by
  unfold sumF
  have h1 := wtL_del_le ky (es.take q)
  have h2 : wtL es = wtL (es.take q) + wtL (es.drop q) := by rw [← wtL_append, List.take_append_drop]
  have h3 : weightL ky vl ≤ 96 := by
    unfold weightL
    split
    · rename_i h; exact wE_le (e := (ky, vl)) ⟨h.1.1, h.1.2, h.2⟩
    · omega
  omega

/-- What a change of entries that are less than Room answers, and what counts. -/
theorem opE_full (es : List Ent) (d : Nat) (ky vl : List UInt8) (m : Nat) (hm : es.length ≤ m) (h3 : d % 4 ≠ 3) (h0 : 0 < weightL ky vl) : ((opE es d ky vl).2 = 5) ↔ (236 < sumF ky vl es m ∧ sameF ky vl es m = false) := by
  unfold opE sumF sameF
  rw [if_neg h3, List.take_of_length_le hm]
  unfold setE
  rw [if_neg (by omega)]
  have hw : weightL ky vl = wE (ky, vl) := weightL_ok (okE_of_weight (by omega))
  by_cases h1 : getK ky es = some vl
  · rw [if_pos h1, h1]; simp
  · rw [if_neg h1]
    have h1' : (getK ky es == some vl) = false := by simpa using h1
    rw [h1', hw, ← wtL_put]
    by_cases h2 : 236 < wtL (putK ky vl es)
    · rw [if_pos h2]; simp [h2]
    · rw [if_neg h2]; simp [h2]

theorem All_base {F B W N first n k i t m : Nat} {es : List Ent} {s : FS} (w : World) (hF : FlashE w F B W s) (hc : Cfg N first n k i t es s) (hm : m = es.length) :
    Calls Tryz.prog 17 #[.pointer (some ⟨F, 0, none⟩), .agg #[.int .i64 first, .int .i64 n]] w fun e w' => ∃ ao cp, e = .returned (.tuple #[.slice ao m cp, .int .i64 0]) ∧ EntsAt w.heap.size w' (.slice ao m cp) es ∧ m ≤ cp ∧ Keeps [] w w' := by
  refine (All_ok w hF hc).mono ?_
  rintro e w' ⟨v, rfl, he, k⟩
  obtain ⟨ao, cp, rfl, hcp⟩ := he.shape
  rw [← hm] at hcp he ⊢
  exact ⟨ao, cp, rfl, he, hcp, k⟩

theorem opE_same (es : List Ent) (d : Nat) (ky vl : List UInt8) (h : (opE es d ky vl).2 ≠ 0) : (opE es d ky vl).1 = es := by
  unfold opE setE delE at h ⊢
  split at h <;> rename_i h3
  · rw [if_pos h3]
    split at h <;> rename_i h4
    · rw [if_pos h4]
    · rw [if_neg h4]
      split at h <;> rename_i h5
      · rw [if_pos h5]
      · exact absurd rfl h
  · rw [if_neg h3]
    split at h <;> rename_i h4
    · rw [if_pos h4]
    · rw [if_neg h4]
      split at h <;> rename_i h5
      · exact absurd rfl h
      · rw [if_neg h5]
        split at h <;> rename_i h6
        · rw [if_pos h6]
        · exact absurd rfl h

set_option maxRecDepth 100000 in
set_option maxHeartbeats 4000000 in
theorem CfgFull_any (w : World) (lv : Value) (n0 : Nat) (hl : Ops6 w w.heap.size lv n0) :
    Calls Tryz.prog 6 #[lv] w fun e w' => e = .returned (.bool true) ∧ Keeps [] w w' := by
  obtain ⟨ao, cap, rfl, hn⟩ := hl.shape
  have HL := Lib.hid hl
  have HBG := Lib.hid (fun U => begun6_ok U 0 3 (by omega) (by omega))
  clear hl
  go_enter Tryz.func6, Tryz.ntmps6
  go_upto_region 2 with (fail)
  generalize hV : World.alloc w _ = V
  have kV : Keeps [] w V := by rw [← hV]; exact Keeps.alloc [] _ _
  have wV : Whole V w.heap.size 25 [.int .i64 0, .int .i64 3] := by rw [← hV]; exact Whole.new w 25 [_, _]
  have v0 := (wV.cell 0).trans (show _ = some (Value.int .i64 0) from rfl)
  have v1 := (wV.cell 1).trans (show _ = some (Value.int .i64 3) from rfl)
  have KV := Lib.hid kV
  have WV := Lib.hid wV
  have hRV := wV.lt
  clear hV kV wV
  go_upto_region 3 with (go_at_call 9; refine (HBG.out _).mono ?_; rintro e w1 ⟨F, B, W, s0, rfl, f1, f2, f3, hF1, ha1, hc1, k1⟩; have HF1 := Lib.hid hF1; have HC1 := Lib.hid hc1; have HA1 := Lib.hid ha1; have W1 := Lib.hid (WV.out.keeps k1 (by simp)); have K1 := Lib.hid (KV.out.trans k1); clear hF1 hc1 ha1 k1)
  clear v0 v1
  have f4 : w.heap.size < F ∧ w.heap.size < B ∧ w.heap.size < W := by omega
  clear f1 f2 f3
  go_wp2
  go_loopw [6, 7, 8, 9, 10, 12, 13, 14, 15] (fun wv ix _ _ _ _ _ _ _ wr => ∃ (j : Nat) (s : FS) (k i : Nat) (es : List Ent) (m bs : Nat) (ao2 : Option Addr) (cp2 : Nat), (F < bs ∧ B < bs ∧ W < bs) ∧ j ≤ n0 ∧ j ≤ 60 ∧ wv = .slice ao2 m cp2 ∧ ix = .int .i64 j ∧ i ≤ j + 1 ∧ Hid (m = es.length) ∧ Hid (FlashE wr F B W s) ∧ Hid (Cfg 16 0 3 k i j es s) ∧ Hid (s.armed = false) ∧ Hid (EntsAt bs wr (.slice ao2 m cp2) es) ∧ Hid (Whole wr w.heap.size 25 [.int .i64 0, .int .i64 3]) ∧ Hid (Keeps [] w wr)) (fun _ ix _ _ _ _ _ _ _ _ => 60 - (intOf ix).toNat)
  case atStart => exact ⟨0, s0, 0, 1, [], 0, F + B + W + 1, none, 0, by omega, by omega, by omega, rfl, rfl, by omega, Lib.hid rfl, HF1, HC1, HA1, Lib.hid (EntsAt.nil _ w1), W1, K1⟩
  case round =>
    obtain ⟨j, s, k, i, es, m, bs, ao2, cp2, hbs, hjn, hj60, rfl, rfl, hij, HM, HF, HC, HA, HE, WR, HKW⟩ := hrel
    clear HF1 HC1 HA1 W1 K1 WV KV HBG
    by_cases hlt : j < n0 ∧ j < 60
    · obtain ⟨h1, h2⟩ := hlt
      have hji : (j : Int) < (n0 : Int) := by omega
      have hj3 : (j : Int) < 60 := by omega
      obtain ⟨b, off, rfl, hops⟩ := HL.out.spot (by omega)
      obtain ⟨d, ar, kv1, vv1, mv1, ky1, vl1, ml1, Mk1, Mv1, Mm1, hop⟩ := hops j h1
      obtain ⟨hd1, _, hk1, hv1, _, rk1, bk1, rv1, bv1, rm1, _, _, c0, c1, c2, c3, c4⟩ := hop.keeps HKW.out (by simp)
      obtain ⟨ka1, kc1, rfl, _⟩ := rk1.shape
      obtain ⟨va1, vc1, rfl, _⟩ := rv1.shape
      obtain ⟨ma1, mc1, rfl, _⟩ := rm1.shape
      have hsz := HKW.out.size
      have HBK := Lib.hid (fun U (hU : Keeps [] w U) => BytesAt.of (hop.2.2.2.2.2.1.keeps hU (by simp)) bk1 hU.size)
      have HBV := Lib.hid (fun U (hU : Keeps [] w U) => BytesAt.of (hop.2.2.2.2.2.2.2.1.keeps hU (by simp)) bv1 hU.size)
      have hflt := HF.out.lt
      clear rm1 hop hops
      generalize hkn : ky1.length = kn1 at *
      generalize hvn1 : vl1.length = vn1 at *
      generalize ml1.length = mn1 at *
      clear hkn hvn1
      simp only [Addr.add_off, ← Nat.add_assoc] at c0 c1 c2 c3 c4
      have hm100 : m ≤ 100 := by have := wtL_length es; have := HC.out.room.1; have := HM.out; omega
      have hcp2 : m ≤ cp2 := by obtain ⟨_, _, hv, hl⟩ := HE.out.shape; simp at hv; omega
      go_upto_region 10 with (fail)
      generalize hX : World.alloc wr _ = X
      have kX : Keeps [] wr X := by rw [← hX]; exact Keeps.alloc [] _ _
      have wX : Whole X wr.heap.size 33 [.int .u8 d, (.slice ka1 kn1 kc1), (.slice va1 vn1 vc1), .int .u8 ar, (.slice ma1 mn1 mc1)] := by rw [← hX]; exact Whole.new wr 33 [_, _, _, _, _]
      have o1 := (wX.cell 1).trans (show _ = some (Value.slice ka1 kn1 kc1) from rfl)
      have o2 := (wX.cell 2).trans (show _ = some (Value.slice va1 vn1 vc1) from rfl)
      have hXlt := wX.lt
      have BK := Lib.hid ((BytesAt.of rk1 bk1 hsz).keeps kX (by simp))
      have BV := Lib.hid ((BytesAt.of rv1 bv1 hsz).keeps kX (by simp))
      have RK := Lib.hid (rk1.keeps kX (by simp))
      have RV := Lib.hid (rv1.keeps kX (by simp))
      have WX := Lib.hid wX
      have KX := Lib.hid (HKW.out.trans kX)
      have HEB := Lib.hid (HE.out.keeps kX (by simp))
      have HEX := Lib.hid (HEB.out.mono (Nat.zero_le _))
      have WRX := Lib.hid (WR.out.keeps kX (by simp))
      have HFX := Lib.hid (HF.out.keeps kX (by simp) (by simp) (by simp) (by simp))
      have hwX : w.heap.size < wr.heap.size := WR.out.lt
      have HWT := Lib.hid (fun U (hU : Keeps [] X U) => Weight_any U (.slice ka1 kn1 kc1) (.slice va1 vn1 vc1) ky1 vl1 0 0 (BK.out.keeps hU (by simp)) (BV.out.keeps hU (by simp)) (by have := hU.size; omega))
      clear hX kX wX rk1 bk1 rv1 bv1 c0 c1 c2 c3 c4 HE WR HF
      generalize wr.heap.size = OB at *
      go_upto_region 12 with (go_at_call 15; refine (HWT.out _ (Keeps.refl _ _)).mono ?_; rintro e w2 ⟨rfl, k2⟩; have K2X := Lib.hid k2; clear k2)
      have hwt0 : weightL ky1 vl1 ≤ 96 := by
        unfold weightL
        split
        · rename_i h; exact wE_le (e := (ky1, vl1)) ⟨h.1.1, h.1.2, h.2⟩
        · omega
      go_wp2
      go_loopw [9, 10, 12, 45] (fun nv sv _ ix wq => ∃ q : Nat, q ≤ m ∧ ix = .int .i64 q ∧ nv = .int .i64 (sumF ky1 vl1 es q : Nat) ∧ sv = .bool (sameF ky1 vl1 es q) ∧ Hid (Keeps [] X wq)) (fun _ _ _ ix _ => m - (intOf ix).toNat)
      case atStart => exact ⟨0, by omega, rfl, rfl, rfl, K2X⟩
      case round =>
        obtain ⟨q, hq, rfl, rfl, rfl, HKQ⟩ := hrel
        have hsl := sumF_le ky1 vl1 HC.out.room.1 q
        have WQ := Lib.hid (WX.out.keeps HKQ.out (by simp))
        by_cases hqm : q < m
        · have hqi : (q : Int) < (m : Int) := by omega
          obtain ⟨x, hx⟩ : ∃ x, es[q]? = some x := ⟨es[q]'(by have := HM.out; omega), List.getElem?_eq_getElem _⟩
          obtain ⟨g, k1, v1, rfl, _, hgl, c0, c1, b0, b1⟩ := (HEX.out.keeps HKQ.out (by simp)).at q x hx
          obtain ⟨p1, y1, rfl, _⟩ := b0.shape
          obtain ⟨p2, y2, rfl, _⟩ := b1.shape
          have HB0 := Lib.hid b0
          have HB1 := Lib.hid b1
          have hok := HC.out.good.ok x (List.mem_of_getElem? hx)
          have hww := weightL_ok (k := x.1) (v := x.2) hok
          have hwl := wE_le hok
          have hsum := fun hk => sumF_ne (ky := ky1) (vl := vl1) hx hk
          have hsame := fun hk => sumF_eq (ky := ky1) (vl := vl1) HC.out.good.rise hx hk
          have hsl1 := sumF_le ky1 vl1 HC.out.room.1 (q + 1)
          clear b0 b1 hx
          obtain ⟨xk, xv⟩ := x
          simp only at HB0 HB1 c0 c1 hww hsum hsame
          have HSUM := Lib.hid hsum
          have HSAME := Lib.hid hsame
          have HWW := Lib.hid hww
          clear hsum hsame hww
          generalize hxn : xk.length = xn at *
          generalize hvn : xv.length = vn at *
          clear hxn hvn
          go_upto_region 15 with (fail)
          generalize hY : World.alloc wr _ = Y
          have kY : Keeps [] wr Y := by rw [← hY]; exact Keeps.alloc [] _ _
          have wY : Whole Y wr.heap.size 60 [.slice p1 xn y1, .slice p2 vn y2] := by rw [← hY]; exact Whole.new wr 60 [_, _]
          have x0 := (wY.cell 0).trans (show _ = some (Value.slice p1 xn y1) from rfl)
          have x1 := (wY.cell 1).trans (show _ = some (Value.slice p2 vn y2) from rfl)
          have WQY := Lib.hid (WQ.out.keeps kY (by simp))
          have a1 := (WQY.out.cell 1).trans (show _ = some (Value.slice ka1 kn1 kc1) from rfl)
          have a2 := (WQY.out.cell 2).trans (show _ = some (Value.slice va1 vn1 vc1) from rfl)
          have KQY := Lib.hid (HKQ.out.trans kY)
          have BX0 := Lib.hid (HB0.out.keeps kY (by simp))
          have BX1 := Lib.hid (HB1.out.keeps kY (by simp))
          have hYlt := wY.lt
          clear hY kY wY c0 c1
          obtain ⟨M0, r0, _⟩ := BX0.out
          obtain ⟨M1, r1, _⟩ := BX1.out
          have HI0 := Lib.hid (Is_any Y (.slice p1 xn y1) (.slice ka1 kn1 kc1) xk ky1 M0 Mk1 r0 (RK.out.keeps KQY.out (by simp)))
          have HI1 := Lib.hid (Is_any Y (.slice p2 vn y2) (.slice va1 vn1 vc1) xv vl1 M1 Mv1 r1 (RV.out.keeps KQY.out (by simp)))
          have HWY := Lib.hid (Weight_any Y (.slice p1 xn y1) (.slice p2 vn y2) xk xv 0 0 BX0.out BX1.out (by omega))
          rw [HWW.out] at HWY
          clear r0 r1
          by_cases hek : xk = ky1
          · rw [show (xk == ky1) = true by simp [hek]] at HI0
            have HS2 := Lib.hid (HSAME.out hek)
            clear hek
            go_wp2_with (first
              | (go_at_call_of 14 (Value.slice ka1 kn1 kc1); refine HI0.out.mono ?_; rintro e w' ⟨rfl, rfl⟩)
              | (go_at_call_of 14 (Value.slice va1 vn1 vc1); refine HI1.out.mono ?_; rintro e w' ⟨rfl, rfl⟩))
            go_roundw
            case rel => exact ⟨q + 1, by omega, by go_num, by rw [HS2.out.1], by rw [HS2.out.2], KQY⟩
            case measure => simp [intOf]; omega
          · rw [show (xk == ky1) = false by simp [hek]] at HI0
            have HS2 := Lib.hid (HSUM.out hek)
            have hs3 := (HSUM.out hek).1
            clear hek
            go_wp2_with (first
              | (go_at_call_of 14 (Value.slice ka1 kn1 kc1); refine HI0.out.mono ?_; rintro e w' ⟨rfl, rfl⟩)
              | (go_at_call 15; refine HWY.out.mono ?_; rintro e w3 ⟨rfl, k3⟩; have K3 := Lib.hid (KQY.out.trans k3); clear k3))
            go_roundw
            case rel => exact ⟨q + 1, by omega, by go_num, by rw [HS2.out.1]; go_num, by rw [HS2.out.2], K3⟩
            case measure => simp [intOf]; omega
        · have hqi : ¬ (q : Int) < (m : Int) := by omega
          obtain ⟨s', k', i', q1, q2, q3, q4⟩ := HC.out.op_whole HA.out (by omega) d ky1 vl1
          have hch := changed6_any wr (HFX.out.keeps HKQ.out (by simp) (by simp) (by simp) (by simp)) HC.out (by omega) (by omega) d ar hd1 (.slice ka1 kn1 kc1) (.slice va1 vn1 vc1) (.slice ma1 mn1 mc1) ky1 vl1 (BK.out.keeps HKQ.out (by simp)) (BV.out.keeps HKQ.out (by simp))
          rw [q1] at hch
          have HCH := Lib.hid hch
          have HC2 := Lib.hid q3
          have HA2 := Lib.hid q2
          have HOP := Lib.hid (fun h3 h0 => opE_full es d ky1 vl1 q (by have := HM.out; omega) h3 h0)
          have HOS := Lib.hid (opE_same es d ky1 vl1)
          generalize (opE es d ky1 vl1).2 = er at *
          generalize (opE es d ky1 vl1).1 = es' at *
          generalize sumF ky1 vl1 es q = sf at *
          generalize sameF ky1 vl1 es q = sb at *
          generalize hwtl : weightL ky1 vl1 = wtl at *
          have HWTL := Lib.hid hwtl
          obtain ⟨m', hm'⟩ : ∃ m', m' = es'.length := ⟨_, rfl⟩
          have HM' := Lib.hid hm'
          have hm100' : m' ≤ 100 := by have := wtL_length es'; have := HC2.out.room.1; omega
          clear hch q1 q2 q3 hwtl hm'
          have WRQ := Lib.hid (WRX.out.keeps HKQ.out (by simp))
          have HEQ := Lib.hid (HEB.out.keeps HKQ.out (by simp))
          have KQ := Lib.hid (KX.out.trans HKQ.out)
          have t0 := (WQ.out.cell 0).trans (show _ = some (Value.int .u8 (d : Int)) from rfl)
          have t1 := (WQ.out.cell 1).trans (show _ = some (Value.slice ka1 kn1 kc1) from rfl)
          have t2 := (WQ.out.cell 2).trans (show _ = some (Value.slice va1 vn1 vc1) from rfl)
          have t3 := (WQ.out.cell 3).trans (show _ = some (Value.int .u8 (ar : Int)) from rfl)
          have t4 := (WQ.out.cell 4).trans (show _ = some (Value.slice ma1 mn1 mc1) from rfl)
          have r0 := (WRQ.out.cell 0).trans (show _ = some (Value.int .i64 0) from rfl)
          have r1 := (WRQ.out.cell 1).trans (show _ = some (Value.int .i64 3) from rfl)
          clear HKQ HEX HEB WRX HFX HWT BK BV RK RV KX WX K2X o1 o2
          go_upto_region 23 with (first
            | (go_at_call 13; refine HCH.out.mono ?_; rintro e w3 ⟨rfl, hf3, k3⟩; have HF3 := Lib.hid hf3; have hlt3 := hf3.lt; have K3 := Lib.hid (KQ.out.then k3 (S := []) (T := [F, B, W]) (fun x hx => by simp at hx; right; rcases hx with rfl | rfl | rfl <;> omega)); have W3 := Lib.hid (WQ.out.keeps k3 (by simp; omega)); have WR3 := Lib.hid (WRQ.out.keeps k3 (by simp; omega)); have E3 := Lib.hid (HEQ.out.keeps k3 (fun x hx => by simp at hx; omega)); have u0 := (WR3.out.cell 0).trans (show _ = some (Value.int .i64 0) from rfl); have u1 := (WR3.out.cell 1).trans (show _ = some (Value.int .i64 3) from rfl); clear hf3 k3 t0 t1 t2 t3 t4 r0 r1)
            | (go_at_call 17; refine (All_base w3 HF3.out HC2.out HM'.out).mono ?_; rintro e w4 ⟨ao3, cp3, rfl, hen, hcp3, k4⟩; have EN4 := Lib.hid hen; have E4 := Lib.hid (E3.out.keeps k4 (by simp)); have HF4 := Lib.hid (HF3.out.keeps k4 (by simp) (by simp) (by simp) (by simp)); have K4 := Lib.hid (K3.out.trans k4); have W4 := Lib.hid (W3.out.keeps k4 (by simp)); have WR4 := Lib.hid (WR3.out.keeps k4 (by simp)); clear hen k4 u0 u1))
          have y0 := (W4.out.cell 0).trans (show _ = some (Value.int .u8 (d : Int)) from rfl)
          have y1 := (W4.out.cell 1).trans (show _ = some (Value.slice ka1 kn1 kc1) from rfl)
          have y2 := (W4.out.cell 2).trans (show _ = some (Value.slice va1 vn1 vc1) from rfl)
          obtain ⟨z, hz⟩ : ∃ z, z = d % 4 := ⟨_, rfl⟩
          have e1 : (d : Int) % 4 = (z : Int) := by omega
          have e2 : (d : Int).tmod 4 = (z : Int) := by rw [Int.tmod_eq_emod_of_nonneg (by omega)]; exact e1
          have hz4 : z < 4 := by omega
          have HW4 := Lib.hid (Weight_any w4 (.slice ka1 kn1 kc1) (.slice va1 vn1 vc1) ky1 vl1 0 0 (HBK.out _ K4.out) (HBV.out _ K4.out) (by have := K4.out.size; omega))
          rw [HWTL.out] at HW4
          have HAE := Lib.hid (fun (h : er ≠ 0) => show ∀ U, Keeps [] w4 U → Calls Tryz.prog 18 #[.slice ao2 m cp2, .slice ao3 m' cp3] U fun e w' => e = .returned (.bool true) ∧ Keeps [] U w' from fun U hU => by
            have := AreEntries_any U _ _ es es' ((E4.out.mono (Nat.zero_le _)).keeps hU (by simp)) ((EN4.out.mono (Nat.zero_le _)).keeps hU (by simp)) (by have := HM.out; omega) (by have := HM'.out; omega)
            rw [decide_eq_true (HOS.out h).symm] at this
            exact this)
          have KR := Lib.hid (Keeps.refl [] w4)
          by_cases h3 : z = 3
          · have f1 : ((z : Int) != 3) = false := by simp; omega
            clear h3 hz
            by_cases er0 : er = 0
            · have ern : (er != 0) = false := by simp [er0]
              clear er0
              go_wp2_with (first
                | (go_at_call 15; refine HW4.out.mono ?_; rintro e w5 ⟨rfl, k5⟩; have KR := Lib.hid (KR.out.trans k5); have K4 := Lib.hid (K4.out.trans k5); have EN4 := Lib.hid (EN4.out.keeps k5 (by simp)); have HF4 := Lib.hid (HF4.out.keeps k5 (by simp) (by simp) (by simp) (by simp)); have WR4 := Lib.hid (WR4.out.keeps k5 (by simp)); clear k5)
                | (go_at_call 28; refine (Room_any _).mono ?_; rintro e w6 ⟨rfl, k5⟩; have KR := Lib.hid (KR.out.trans k5); have K4 := Lib.hid (K4.out.trans k5); have EN4 := Lib.hid (EN4.out.keeps k5 (by simp)); have HF4 := Lib.hid (HF4.out.keeps k5 (by simp) (by simp) (by simp) (by simp)); have WR4 := Lib.hid (WR4.out.keeps k5 (by simp)); clear k5)
                | (go_at_call 18; refine (HAX.out _ KR.out).mono ?_; rintro e w7 ⟨rfl, k5⟩; have KR := Lib.hid (KR.out.trans k5); have K4 := Lib.hid (K4.out.trans k5); have EN4 := Lib.hid (EN4.out.keeps k5 (by simp)); have HF4 := Lib.hid (HF4.out.keeps k5 (by simp) (by simp) (by simp) (by simp)); have WR4 := Lib.hid (WR4.out.keeps k5 (by simp)); clear k5))
              go_roundw
              case rel => exact ⟨j + 1, s', k', i', es', m', w3.heap.size, ao3, cp3, hlt3, by omega, by omega, rfl, by go_num, by omega, HM', HF4, HC2, HA2, EN4, WR4, K4⟩
              case measure => simp [intOf]; omega
            · have ern : (er != 0) = true := by simp [er0]
              have HAX := Lib.hid (HAE.out er0)
              clear er0
              go_wp2_with (first
                | (go_at_call 15; refine HW4.out.mono ?_; rintro e w5 ⟨rfl, k5⟩; have KR := Lib.hid (KR.out.trans k5); have K4 := Lib.hid (K4.out.trans k5); have EN4 := Lib.hid (EN4.out.keeps k5 (by simp)); have HF4 := Lib.hid (HF4.out.keeps k5 (by simp) (by simp) (by simp) (by simp)); have WR4 := Lib.hid (WR4.out.keeps k5 (by simp)); clear k5)
                | (go_at_call 28; refine (Room_any _).mono ?_; rintro e w6 ⟨rfl, k5⟩; have KR := Lib.hid (KR.out.trans k5); have K4 := Lib.hid (K4.out.trans k5); have EN4 := Lib.hid (EN4.out.keeps k5 (by simp)); have HF4 := Lib.hid (HF4.out.keeps k5 (by simp) (by simp) (by simp) (by simp)); have WR4 := Lib.hid (WR4.out.keeps k5 (by simp)); clear k5)
                | (go_at_call 18; refine (HAX.out _ KR.out).mono ?_; rintro e w7 ⟨rfl, k5⟩; have KR := Lib.hid (KR.out.trans k5); have K4 := Lib.hid (K4.out.trans k5); have EN4 := Lib.hid (EN4.out.keeps k5 (by simp)); have HF4 := Lib.hid (HF4.out.keeps k5 (by simp) (by simp) (by simp) (by simp)); have WR4 := Lib.hid (WR4.out.keeps k5 (by simp)); clear k5))
              go_roundw
              case rel => exact ⟨j + 1, s', k', i', es', m', w3.heap.size, ao3, cp3, hlt3, by omega, by omega, rfl, by go_num, by omega, HM', HF4, HC2, HA2, EN4, WR4, K4⟩
              case measure => simp [intOf]; omega
          have f1 : ((z : Int) != 3) = true := by simp; omega
          by_cases hw0 : wtl = 0
          · have g1 : decide ((0 : Int) < (wtl : Int)) = false := by simp; omega
            have g2 : decide (0 < wtl) = false := by simp; omega
            clear h3 hz
            by_cases er0 : er = 0
            · have ern : (er != 0) = false := by simp [er0]
              clear er0
              go_wp2_with (first
                | (go_at_call 15; refine HW4.out.mono ?_; rintro e w5 ⟨rfl, k5⟩; have KR := Lib.hid (KR.out.trans k5); have K4 := Lib.hid (K4.out.trans k5); have EN4 := Lib.hid (EN4.out.keeps k5 (by simp)); have HF4 := Lib.hid (HF4.out.keeps k5 (by simp) (by simp) (by simp) (by simp)); have WR4 := Lib.hid (WR4.out.keeps k5 (by simp)); clear k5)
                | (go_at_call 28; refine (Room_any _).mono ?_; rintro e w6 ⟨rfl, k5⟩; have KR := Lib.hid (KR.out.trans k5); have K4 := Lib.hid (K4.out.trans k5); have EN4 := Lib.hid (EN4.out.keeps k5 (by simp)); have HF4 := Lib.hid (HF4.out.keeps k5 (by simp) (by simp) (by simp) (by simp)); have WR4 := Lib.hid (WR4.out.keeps k5 (by simp)); clear k5)
                | (go_at_call 18; refine (HAX.out _ KR.out).mono ?_; rintro e w7 ⟨rfl, k5⟩; have KR := Lib.hid (KR.out.trans k5); have K4 := Lib.hid (K4.out.trans k5); have EN4 := Lib.hid (EN4.out.keeps k5 (by simp)); have HF4 := Lib.hid (HF4.out.keeps k5 (by simp) (by simp) (by simp) (by simp)); have WR4 := Lib.hid (WR4.out.keeps k5 (by simp)); clear k5))
              go_roundw
              case rel => exact ⟨j + 1, s', k', i', es', m', w3.heap.size, ao3, cp3, hlt3, by omega, by omega, rfl, by go_num, by omega, HM', HF4, HC2, HA2, EN4, WR4, K4⟩
              case measure => simp [intOf]; omega
            · have ern : (er != 0) = true := by simp [er0]
              have HAX := Lib.hid (HAE.out er0)
              clear er0
              go_wp2_with (first
                | (go_at_call 15; refine HW4.out.mono ?_; rintro e w5 ⟨rfl, k5⟩; have KR := Lib.hid (KR.out.trans k5); have K4 := Lib.hid (K4.out.trans k5); have EN4 := Lib.hid (EN4.out.keeps k5 (by simp)); have HF4 := Lib.hid (HF4.out.keeps k5 (by simp) (by simp) (by simp) (by simp)); have WR4 := Lib.hid (WR4.out.keeps k5 (by simp)); clear k5)
                | (go_at_call 28; refine (Room_any _).mono ?_; rintro e w6 ⟨rfl, k5⟩; have KR := Lib.hid (KR.out.trans k5); have K4 := Lib.hid (K4.out.trans k5); have EN4 := Lib.hid (EN4.out.keeps k5 (by simp)); have HF4 := Lib.hid (HF4.out.keeps k5 (by simp) (by simp) (by simp) (by simp)); have WR4 := Lib.hid (WR4.out.keeps k5 (by simp)); clear k5)
                | (go_at_call 18; refine (HAX.out _ KR.out).mono ?_; rintro e w7 ⟨rfl, k5⟩; have KR := Lib.hid (KR.out.trans k5); have K4 := Lib.hid (K4.out.trans k5); have EN4 := Lib.hid (EN4.out.keeps k5 (by simp)); have HF4 := Lib.hid (HF4.out.keeps k5 (by simp) (by simp) (by simp) (by simp)); have WR4 := Lib.hid (WR4.out.keeps k5 (by simp)); clear k5))
              go_roundw
              case rel => exact ⟨j + 1, s', k', i', es', m', w3.heap.size, ao3, cp3, hlt3, by omega, by omega, rfl, by go_num, by omega, HM', HF4, HC2, HA2, EN4, WR4, K4⟩
              case measure => simp [intOf]; omega
          have hwp : 0 < wtl := by omega
          have g1 : decide ((0 : Int) < (wtl : Int)) = true := by simp; omega
          have g2 : decide (0 < wtl) = true := by simp; omega
          have g3 : (0 : Int) < (wtl : Int) := by omega
          have hop := HOP.out (by omega) hwp
          clear h3 hz hw0
          by_cases hs : 236 < sf
          · have l1 : decide ((236 : Int) < (sf : Int)) = true := by simp; omega
            have l2 : decide (236 < sf) = true := by simp; omega
            have l3 : (236 : Int) < (sf : Int) := by omega
            cases sb with
            | false =>
              have er5 : er = 5 := hop.2 ⟨hs, rfl⟩
              have er5b : (er == 5) = true := by simp [er5]
              clear er5 hop hs
              by_cases er0 : er = 0
              · have ern : (er != 0) = false := by simp [er0]
                clear er0
                go_wp2_with (first
                  | (go_at_call 15; refine HW4.out.mono ?_; rintro e w5 ⟨rfl, k5⟩; have KR := Lib.hid (KR.out.trans k5); have K4 := Lib.hid (K4.out.trans k5); have EN4 := Lib.hid (EN4.out.keeps k5 (by simp)); have HF4 := Lib.hid (HF4.out.keeps k5 (by simp) (by simp) (by simp) (by simp)); have WR4 := Lib.hid (WR4.out.keeps k5 (by simp)); clear k5)
                  | (go_at_call 28; refine (Room_any _).mono ?_; rintro e w6 ⟨rfl, k5⟩; have KR := Lib.hid (KR.out.trans k5); have K4 := Lib.hid (K4.out.trans k5); have EN4 := Lib.hid (EN4.out.keeps k5 (by simp)); have HF4 := Lib.hid (HF4.out.keeps k5 (by simp) (by simp) (by simp) (by simp)); have WR4 := Lib.hid (WR4.out.keeps k5 (by simp)); clear k5)
                  | (go_at_call 18; refine (HAX.out _ KR.out).mono ?_; rintro e w7 ⟨rfl, k5⟩; have KR := Lib.hid (KR.out.trans k5); have K4 := Lib.hid (K4.out.trans k5); have EN4 := Lib.hid (EN4.out.keeps k5 (by simp)); have HF4 := Lib.hid (HF4.out.keeps k5 (by simp) (by simp) (by simp) (by simp)); have WR4 := Lib.hid (WR4.out.keeps k5 (by simp)); clear k5))
                go_roundw
                case rel => exact ⟨j + 1, s', k', i', es', m', w3.heap.size, ao3, cp3, hlt3, by omega, by omega, rfl, by go_num, by omega, HM', HF4, HC2, HA2, EN4, WR4, K4⟩
                case measure => simp [intOf]; omega
              · have ern : (er != 0) = true := by simp [er0]
                have HAX := Lib.hid (HAE.out er0)
                clear er0
                go_wp2_with (first
                  | (go_at_call 15; refine HW4.out.mono ?_; rintro e w5 ⟨rfl, k5⟩; have KR := Lib.hid (KR.out.trans k5); have K4 := Lib.hid (K4.out.trans k5); have EN4 := Lib.hid (EN4.out.keeps k5 (by simp)); have HF4 := Lib.hid (HF4.out.keeps k5 (by simp) (by simp) (by simp) (by simp)); have WR4 := Lib.hid (WR4.out.keeps k5 (by simp)); clear k5)
                  | (go_at_call 28; refine (Room_any _).mono ?_; rintro e w6 ⟨rfl, k5⟩; have KR := Lib.hid (KR.out.trans k5); have K4 := Lib.hid (K4.out.trans k5); have EN4 := Lib.hid (EN4.out.keeps k5 (by simp)); have HF4 := Lib.hid (HF4.out.keeps k5 (by simp) (by simp) (by simp) (by simp)); have WR4 := Lib.hid (WR4.out.keeps k5 (by simp)); clear k5)
                  | (go_at_call 18; refine (HAX.out _ KR.out).mono ?_; rintro e w7 ⟨rfl, k5⟩; have KR := Lib.hid (KR.out.trans k5); have K4 := Lib.hid (K4.out.trans k5); have EN4 := Lib.hid (EN4.out.keeps k5 (by simp)); have HF4 := Lib.hid (HF4.out.keeps k5 (by simp) (by simp) (by simp) (by simp)); have WR4 := Lib.hid (WR4.out.keeps k5 (by simp)); clear k5))
                go_roundw
                case rel => exact ⟨j + 1, s', k', i', es', m', w3.heap.size, ao3, cp3, hlt3, by omega, by omega, rfl, by go_num, by omega, HM', HF4, HC2, HA2, EN4, WR4, K4⟩
                case measure => simp [intOf]; omega
            | true =>
              have er5 : er ≠ 5 := fun h => by have := (hop.1 h).2; cases this
              have er5b : (er == 5) = false := by simp [er5]
              clear er5 hop hs
              by_cases er0 : er = 0
              · have ern : (er != 0) = false := by simp [er0]
                clear er0
                go_wp2_with (first
                  | (go_at_call 15; refine HW4.out.mono ?_; rintro e w5 ⟨rfl, k5⟩; have KR := Lib.hid (KR.out.trans k5); have K4 := Lib.hid (K4.out.trans k5); have EN4 := Lib.hid (EN4.out.keeps k5 (by simp)); have HF4 := Lib.hid (HF4.out.keeps k5 (by simp) (by simp) (by simp) (by simp)); have WR4 := Lib.hid (WR4.out.keeps k5 (by simp)); clear k5)
                  | (go_at_call 28; refine (Room_any _).mono ?_; rintro e w6 ⟨rfl, k5⟩; have KR := Lib.hid (KR.out.trans k5); have K4 := Lib.hid (K4.out.trans k5); have EN4 := Lib.hid (EN4.out.keeps k5 (by simp)); have HF4 := Lib.hid (HF4.out.keeps k5 (by simp) (by simp) (by simp) (by simp)); have WR4 := Lib.hid (WR4.out.keeps k5 (by simp)); clear k5)
                  | (go_at_call 18; refine (HAX.out _ KR.out).mono ?_; rintro e w7 ⟨rfl, k5⟩; have KR := Lib.hid (KR.out.trans k5); have K4 := Lib.hid (K4.out.trans k5); have EN4 := Lib.hid (EN4.out.keeps k5 (by simp)); have HF4 := Lib.hid (HF4.out.keeps k5 (by simp) (by simp) (by simp) (by simp)); have WR4 := Lib.hid (WR4.out.keeps k5 (by simp)); clear k5))
                go_roundw
                case rel => exact ⟨j + 1, s', k', i', es', m', w3.heap.size, ao3, cp3, hlt3, by omega, by omega, rfl, by go_num, by omega, HM', HF4, HC2, HA2, EN4, WR4, K4⟩
                case measure => simp [intOf]; omega
              · have ern : (er != 0) = true := by simp [er0]
                have HAX := Lib.hid (HAE.out er0)
                clear er0
                go_wp2_with (first
                  | (go_at_call 15; refine HW4.out.mono ?_; rintro e w5 ⟨rfl, k5⟩; have KR := Lib.hid (KR.out.trans k5); have K4 := Lib.hid (K4.out.trans k5); have EN4 := Lib.hid (EN4.out.keeps k5 (by simp)); have HF4 := Lib.hid (HF4.out.keeps k5 (by simp) (by simp) (by simp) (by simp)); have WR4 := Lib.hid (WR4.out.keeps k5 (by simp)); clear k5)
                  | (go_at_call 28; refine (Room_any _).mono ?_; rintro e w6 ⟨rfl, k5⟩; have KR := Lib.hid (KR.out.trans k5); have K4 := Lib.hid (K4.out.trans k5); have EN4 := Lib.hid (EN4.out.keeps k5 (by simp)); have HF4 := Lib.hid (HF4.out.keeps k5 (by simp) (by simp) (by simp) (by simp)); have WR4 := Lib.hid (WR4.out.keeps k5 (by simp)); clear k5)
                  | (go_at_call 18; refine (HAX.out _ KR.out).mono ?_; rintro e w7 ⟨rfl, k5⟩; have KR := Lib.hid (KR.out.trans k5); have K4 := Lib.hid (K4.out.trans k5); have EN4 := Lib.hid (EN4.out.keeps k5 (by simp)); have HF4 := Lib.hid (HF4.out.keeps k5 (by simp) (by simp) (by simp) (by simp)); have WR4 := Lib.hid (WR4.out.keeps k5 (by simp)); clear k5))
                go_roundw
                case rel => exact ⟨j + 1, s', k', i', es', m', w3.heap.size, ao3, cp3, hlt3, by omega, by omega, rfl, by go_num, by omega, HM', HF4, HC2, HA2, EN4, WR4, K4⟩
                case measure => simp [intOf]; omega
          · have l1 : decide ((236 : Int) < (sf : Int)) = false := by simp; omega
            have l2 : decide (236 < sf) = false := by simp; omega
            have er5 : er ≠ 5 := fun h => hs (hop.1 h).1
            have er5b : (er == 5) = false := by simp [er5]
            clear er5 hop hs
            by_cases er0 : er = 0
            · have ern : (er != 0) = false := by simp [er0]
              clear er0
              go_wp2_with (first
                | (go_at_call 15; refine HW4.out.mono ?_; rintro e w5 ⟨rfl, k5⟩; have KR := Lib.hid (KR.out.trans k5); have K4 := Lib.hid (K4.out.trans k5); have EN4 := Lib.hid (EN4.out.keeps k5 (by simp)); have HF4 := Lib.hid (HF4.out.keeps k5 (by simp) (by simp) (by simp) (by simp)); have WR4 := Lib.hid (WR4.out.keeps k5 (by simp)); clear k5)
                | (go_at_call 28; refine (Room_any _).mono ?_; rintro e w6 ⟨rfl, k5⟩; have KR := Lib.hid (KR.out.trans k5); have K4 := Lib.hid (K4.out.trans k5); have EN4 := Lib.hid (EN4.out.keeps k5 (by simp)); have HF4 := Lib.hid (HF4.out.keeps k5 (by simp) (by simp) (by simp) (by simp)); have WR4 := Lib.hid (WR4.out.keeps k5 (by simp)); clear k5)
                | (go_at_call 18; refine (HAX.out _ KR.out).mono ?_; rintro e w7 ⟨rfl, k5⟩; have KR := Lib.hid (KR.out.trans k5); have K4 := Lib.hid (K4.out.trans k5); have EN4 := Lib.hid (EN4.out.keeps k5 (by simp)); have HF4 := Lib.hid (HF4.out.keeps k5 (by simp) (by simp) (by simp) (by simp)); have WR4 := Lib.hid (WR4.out.keeps k5 (by simp)); clear k5))
              go_roundw
              case rel => exact ⟨j + 1, s', k', i', es', m', w3.heap.size, ao3, cp3, hlt3, by omega, by omega, rfl, by go_num, by omega, HM', HF4, HC2, HA2, EN4, WR4, K4⟩
              case measure => simp [intOf]; omega
            · have ern : (er != 0) = true := by simp [er0]
              have HAX := Lib.hid (HAE.out er0)
              clear er0
              go_wp2_with (first
                | (go_at_call 15; refine HW4.out.mono ?_; rintro e w5 ⟨rfl, k5⟩; have KR := Lib.hid (KR.out.trans k5); have K4 := Lib.hid (K4.out.trans k5); have EN4 := Lib.hid (EN4.out.keeps k5 (by simp)); have HF4 := Lib.hid (HF4.out.keeps k5 (by simp) (by simp) (by simp) (by simp)); have WR4 := Lib.hid (WR4.out.keeps k5 (by simp)); clear k5)
                | (go_at_call 28; refine (Room_any _).mono ?_; rintro e w6 ⟨rfl, k5⟩; have KR := Lib.hid (KR.out.trans k5); have K4 := Lib.hid (K4.out.trans k5); have EN4 := Lib.hid (EN4.out.keeps k5 (by simp)); have HF4 := Lib.hid (HF4.out.keeps k5 (by simp) (by simp) (by simp) (by simp)); have WR4 := Lib.hid (WR4.out.keeps k5 (by simp)); clear k5)
                | (go_at_call 18; refine (HAX.out _ KR.out).mono ?_; rintro e w7 ⟨rfl, k5⟩; have KR := Lib.hid (KR.out.trans k5); have K4 := Lib.hid (K4.out.trans k5); have EN4 := Lib.hid (EN4.out.keeps k5 (by simp)); have HF4 := Lib.hid (HF4.out.keeps k5 (by simp) (by simp) (by simp) (by simp)); have WR4 := Lib.hid (WR4.out.keeps k5 (by simp)); clear k5))
              go_roundw
              case rel => exact ⟨j + 1, s', k', i', es', m', w3.heap.size, ao3, cp3, hlt3, by omega, by omega, rfl, by go_num, by omega, HM', HF4, HC2, HA2, EN4, WR4, K4⟩
              case measure => simp [intOf]; omega
    · have HK0 := HKW
      have hex : (n0 ≤ j) ∨ (j < n0 ∧ ¬ j < 60) := by omega
      clear hlt
      have hgx : (j < n0 → (j : Int) < n0) := by omega
      rcases hex with hx | ⟨hx, hx'⟩
      · have dd1 : decide ((j : Int) < (n0 : Int)) = false := by simp; omega
        have dd2 : decide (j < n0) = false := by simp; omega
        clear hgx
        go_wp2_with (go_at_call 21; refine (awake6_any _).mono ?_; rintro e w15 ⟨rfl, k15⟩; have K15 := Lib.hid k15; clear k15)
        go_ret
        exact ⟨rfl, HK0.out.trans K15.out⟩
      · have hji := hgx hx
        have dd1 : decide ((j : Int) < (60 : Int)) = false := by simp; omega
        have dd2 : decide (j < 60) = false := by simp; omega
        clear hgx
        go_wp2_with (go_at_call 21; refine (awake6_any _).mono ?_; rintro e w15 ⟨rfl, k15⟩; have K15 := Lib.hid k15; clear k15)
        go_ret
        exact ⟨rfl, HK0.out.trans K15.out⟩
end Go.Proofs.YtcmjecnbmdhjlaaGreat
