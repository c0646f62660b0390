/-
  Keys and values: what is behind a change.
-/
import Derived.Test.YtcmjecnbmdhjlaaGreatCfgAre
namespace Go.Proofs.YtcmjecnbmdhjlaaGreat
open Go.RowKit Go.Deep

theorem value6_some (w : World) (v kv : Value) (es : List Ent) (ky u : List UInt8) (Mk : Nat) (h : EntsAt 0 w v es) (hn : es.length ≤ 100000) (hk : Reads w kv ky Mk) (hg : getK ky es = some u) :
    Calls Tryz.prog 31 #[v, kv] w fun e w' => e = .returned (.tuple #[.string ⟨u.toArray⟩, .bool true]) ∧ Keeps [] w w' := by
  have := value6_any w v kv es ky Mk h hn hk
  rw [hg] at this
  exact this

theorem value6_none (w : World) (v kv : Value) (es : List Ent) (ky : List UInt8) (Mk : Nat) (h : EntsAt 0 w v es) (hn : es.length ≤ 100000) (hk : Reads w kv ky Mk) (hg : getK ky es = none) :
    Calls Tryz.prog 31 #[v, kv] w fun e w' => e = .returned (.tuple #[.string ⟨([] : List UInt8).toArray⟩, .bool false]) ∧ Keeps [] w w' := by
  have := value6_any w v kv es ky Mk h hn hk
  rw [hg] at this
  exact this

theorem value6_some2 (w : World) (v kv : Value) (es : List Ent) (ky : List UInt8) (Mk : Nat) (h : EntsAt 0 w v es) (hn : es.length ≤ 100000) (hk : Reads w kv ky Mk) :
    Calls Tryz.prog 31 #[v, kv] w fun e w' => ∃ (sv : ByteArray) (b : Bool), e = .returned (.tuple #[.string sv, .bool b]) ∧ Keeps [] w w' :=
  (value6_any w v kv es ky Mk h hn hk).mono fun _ _ ⟨h1, h2⟩ => ⟨_, _, h1, h2⟩

theorem othersB_drop {was now : List Ent} {ky : List UInt8} {j : Nat} {x : Ent} (hx : was[j]? = some x) : othersB ky (was.drop j) now = ((x.1 == ky || getK x.1 now == some x.2) && othersB ky (was.drop (j + 1)) now) := by
  rw [List.drop_eq_getElem?_toList_append, hx]
  rfl

set_option maxRecDepth 100000 in
set_option maxHeartbeats 1000000 in
theorem behind6_any (w : World) (d ar : Nat) (hd : d < 256) (kv vv mv : Value) (ky vl : List UInt8) (Mk Mv : Nat) (hk : Reads w kv ky Mk) (hv : Reads w vv vl Mv) (va vb : Value) (was now : List Ent) (ha : EntsAt 0 w va was) (hb : EntsAt 0 w vb now) (h1 : was.length ≤ 100000) (h2 : now.length ≤ 100000) :
    Calls Tryz.prog 27 #[.agg #[.int .u8 d, kv, vv, .int .u8 ar, mv], va, vb] w fun e w' => e = .returned (.bool (behindB d ky vl was now)) ∧ Keeps [] w w' := by
  obtain ⟨ao, ca, rfl, hca⟩ := ha.shape
  obtain ⟨bo, cb, rfl, hcb⟩ := hb.shape
  have HA := Lib.hid ha
  have HB := Lib.hid hb
  have HK := Lib.hid hk
  have HV := Lib.hid hv
  obtain ⟨n, hN⟩ : ∃ n, n = was.length := ⟨_, rfl⟩
  obtain ⟨m, hM⟩ : ∃ m, m = now.length := ⟨_, rfl⟩
  have HNL := Lib.hid hN
  have HML := Lib.hid hM
  rw [← hN] at hca h1 HA ⊢
  rw [← hM] at hcb h2 HB ⊢
  obtain ⟨q, hq⟩ : ∃ q, q = d % 4 := ⟨_, rfl⟩
  have e1 : (d : Int) % 4 = (q : Int) := by omega
  have e2 : (d : Int).tmod 4 = (q : Int) := by rw [Int.tmod_eq_emod_of_nonneg (by omega)]; exact e1
  have hq4 : q < 4 := by omega
  rw [show behindB d ky vl was now = ((if q = 3 then (getK ky now).isNone else getK ky now == some vl) && (othersB ky was now && decide (m + (if (getK ky was).isSome then 1 else 0) = n + (if q = 3 then 0 else 1)))) from by unfold behindB; rw [← hq, ← hN, ← hM]]
  clear hq ha hb hN hM hk hv
  have HVW := Lib.hid (fun U (hU : Keeps [] w U) => value6_any U _ kv was ky Mk (HA.out.keeps hU (by simp)) (by have := HNL.out; omega) (HK.out.keeps hU (by simp)))
  have HVN := Lib.hid (fun U (hU : Keeps [] w U) => value6_any U _ kv now ky Mk (HB.out.keeps hU (by simp)) (by have := HML.out; omega) (HK.out.keeps hU (by simp)))
  generalize hA : getK ky was = A at HVW ⊢
  generalize hB : getK ky now = B at HVN ⊢
  have HGA := Lib.hid hA
  have HGB := Lib.hid hB
  clear hA hB
  go_enter Tryz.func27, Tryz.ntmps27
  go_upto_region 1 with (fail)
  generalize hX : World.alloc w _ = V
  have kV : Keeps [] w V := by rw [← hX]; exact Keeps.alloc [] _ _
  have wO : Whole V w.heap.size 33 [.int .u8 d, kv, vv, .int .u8 ar, mv] := by
    rw [← hX]; exact (Whole.new w 33 [_, _, _, _, _])
  have o0 := (wO.cell 0).trans (show _ = some (Value.int .u8 (d : Int)) from rfl)
  have o1 := (wO.cell 1).trans (show _ = some kv from rfl)
  have o2 := (wO.cell 2).trans (show _ = some vv from rfl)
  have KV := Lib.hid kV
  have WO := Lib.hid wO
  clear hX kV wO
  have HGO := Lib.hid (fun (b : Bool) => Bool.and_true b)
  by_cases h3 : q = 3
  case pos =>
    subst h3
    cases B with
    | some b =>
      simp only [Option.isSome_some, Option.getD_some] at HVN
      cases A with
      | none =>
        simp only [Option.isSome_none, Option.getD_none] at HVW
        go_wp2_with (first
          | (go_at_call_of 31 (Value.slice ao n ca); refine (HVW.out _ KV.out).mono ?_; rintro e w1 ⟨rfl, k1⟩; have K1 := Lib.hid (KV.out.trans k1); have W1 := Lib.hid (WO.out.keeps k1 (by simp)); have p1 := (W1.out.cell 1).trans (show _ = some kv from rfl); clear k1)
          | (go_at_call_of 31 (Value.slice bo m cb); refine (HVN.out _ K1.out).mono ?_; rintro e w2 ⟨rfl, k2⟩; have K2 := Lib.hid (K1.out.trans k2); have W2 := Lib.hid (W1.out.keeps k2 (by simp)); have q0 := (W2.out.cell 0).trans (show _ = some (Value.int .u8 (d : Int)) from rfl); have q2 := (W2.out.cell 2).trans (show _ = some vv from rfl); have hcv := conv_reads (HV.out.keeps K2.out (by simp)); clear k2))
        go_ret
        exact ⟨by simp, K2.out⟩
      | some a =>
        simp only [Option.isSome_some, Option.getD_some] at HVW
        go_wp2_with (first
          | (go_at_call_of 31 (Value.slice ao n ca); refine (HVW.out _ KV.out).mono ?_; rintro e w1 ⟨rfl, k1⟩; have K1 := Lib.hid (KV.out.trans k1); have W1 := Lib.hid (WO.out.keeps k1 (by simp)); have p1 := (W1.out.cell 1).trans (show _ = some kv from rfl); clear k1)
          | (go_at_call_of 31 (Value.slice bo m cb); refine (HVN.out _ K1.out).mono ?_; rintro e w2 ⟨rfl, k2⟩; have K2 := Lib.hid (K1.out.trans k2); have W2 := Lib.hid (W1.out.keeps k2 (by simp)); have q0 := (W2.out.cell 0).trans (show _ = some (Value.int .u8 (d : Int)) from rfl); have q2 := (W2.out.cell 2).trans (show _ = some vv from rfl); have hcv := conv_reads (HV.out.keeps K2.out (by simp)); clear k2))
        go_ret
        exact ⟨by simp, K2.out⟩
    | none =>
      simp only [Option.isSome_none, Option.getD_none] at HVN
      cases A with
      | none =>
        simp only [Option.isSome_none, Option.getD_none] at HVW
        go_wp2_with (first
          | (go_at_call_of 31 (Value.slice ao n ca); refine (HVW.out _ KV.out).mono ?_; rintro e w1 ⟨rfl, k1⟩; have K1 := Lib.hid (KV.out.trans k1); have W1 := Lib.hid (WO.out.keeps k1 (by simp)); have p1 := (W1.out.cell 1).trans (show _ = some kv from rfl); clear k1)
          | (go_at_call_of 31 (Value.slice bo m cb); refine (HVN.out _ K1.out).mono ?_; rintro e w2 ⟨rfl, k2⟩; have K2 := Lib.hid (K1.out.trans k2); have W2 := Lib.hid (W1.out.keeps k2 (by simp)); have q0 := (W2.out.cell 0).trans (show _ = some (Value.int .u8 (d : Int)) from rfl); have q2 := (W2.out.cell 2).trans (show _ = some vv from rfl); have hcv := conv_reads (HV.out.keeps K2.out (by simp)); clear k2))
        go_loopw [13, 14, 15, 53] (fun _ _ _ ix wr => ∃ j : Nat, j ≤ n ∧ ix = .int .i64 j ∧ othersB ky was now = othersB ky (was.drop j) now ∧ Hid (Whole wr w.heap.size 33 [.int .u8 d, kv, vv, .int .u8 ar, mv]) ∧ Hid (Keeps [] w wr)) (fun _ _ _ ix _ => n - (intOf ix).toNat)
        case atStart => exact ⟨0, by omega, rfl, rfl, W2, K2⟩
        case round =>
          clear p1 q0 q2 hcv o0 o1 o2 W1 W2 K1 K2 HVW HVN WO KV
          obtain ⟨j, hj, rfl, hg, WR, HKW⟩ := hrel
          have HG := Lib.hid hg
          clear hg
          by_cases hlt : j < n
          · have hji : (j : Int) < (n : Int) := by omega
            obtain ⟨x, hx⟩ : ∃ x, was[j]? = some x := ⟨was[j]'(by have := HNL.out; omega), List.getElem?_eq_getElem _⟩
            obtain ⟨g, k1, v1, rfl, _, hgl, c0, c1, b0, b1⟩ := (HA.out.keeps HKW.out (by simp)).at j x hx
            have hstep := othersB_drop (ky := ky) (now := now) hx
            obtain ⟨xk, xv⟩ := x
            simp only at b0 b1 hstep
            obtain ⟨ka, kc, rfl, _⟩ := b0.shape
            obtain ⟨va, vc, rfl, _⟩ := b1.shape
            obtain ⟨M0, r0, _⟩ := b0
            obtain ⟨M1, r1, _⟩ := b1
            generalize hxn : xk.length = xn at *
            generalize hvn : xv.length = vn at *
            have HXN := Lib.hid hxn
            have HVNL := Lib.hid hvn
            clear hxn hvn
            go_upto_region 15 with (fail)
            generalize hX : World.alloc wr _ = X
            have kX : Keeps [] wr X := by rw [← hX]; exact Keeps.alloc [] _ _
            have wX : Whole X wr.heap.size 60 [.slice ka xn kc, .slice va vn vc] := by rw [← hX]; exact Whole.new wr 60 [_, _]
            have x0 := (wX.cell 0).trans (show _ = some (Value.slice ka xn kc) from rfl)
            have HIS := Lib.hid (fun U (hU : Keeps [] X U) => Is_any U (.slice ka xn kc) kv xk ky M0 Mk (r0.keeps (kX.trans hU) (by simp)) (HK.out.keeps (HKW.out.trans (kX.trans hU)) (by simp)))
            have HVX := Lib.hid (value6_any X (.slice bo m cb) (.slice ka xn kc) now xk M0 (HB.out.keeps (HKW.out.trans kX) (by simp)) (by have := HML.out; omega) (r0.keeps kX (by simp)))
            have HCV := Lib.hid (fun U (hU : Keeps [] X U) => conv_reads (r1.keeps (kX.trans hU) (by simp)))
            have HST := Lib.hid hstep
            have WX := Lib.hid wX
            have WR2 := Lib.hid (WR.out.keeps kX (by simp))
            have KX := Lib.hid (HKW.out.trans kX)
            have hs1 := WX.out.lt
            have hs2 := WR.out.lt
            clear hX kX wX hstep r0 r1 hx c0 c1
            generalize wr.heap.size = XB at *
            by_cases e1 : xk = ky
            · rw [show (xk == ky) = true by simp [e1]] at HIS
              have HE := Lib.hid (show othersB ky was now = othersB ky (was.drop (j + 1)) now from by rw [HG.out, HST.out, show (xk == ky) = true by simp [e1]]; rfl)
              generalize hG : getK xk now = G at HVX
              generalize (G.getD []).toArray = sv at HVX
              generalize G.isSome = bb at HVX
              clear e1 hG
              go_wp2_with (first
                | (go_at_call 31; refine HVX.out.mono ?_; rintro e w3 ⟨rfl, k3⟩; have K3X := Lib.hid k3; have K3 := Lib.hid (KX.out.trans k3); have W3 := Lib.hid (WR2.out.keeps k3 (by simp)); have y0 := ((WX.out.keeps k3 (by simp)).cell 0).trans (show _ = some (Value.slice ka xn kc) from rfl); have y1 := (W3.out.cell 1).trans (show _ = some kv from rfl); clear k3)
                | (go_at_call 14; refine (HIS.out _ K3X.out).mono ?_; rintro e w' ⟨rfl, rfl⟩))
              go_roundw
              case rel => exact ⟨j + 1, by omega, by go_num, HE.out, W3, K3⟩
              case measure => simp [intOf]; omega
            · rw [show (xk == ky) = false by simp [e1]] at HIS
              have HE1 := Lib.hid (show othersB ky was now = ((getK xk now == some xv) && othersB ky (was.drop (j + 1)) now) from by rw [HG.out, HST.out, show (xk == ky) = false by simp [e1], Bool.false_or])
              clear e1
              cases hG : getK xk now with
              | none =>
                rw [hG] at HVX HE1
                simp only [Option.isSome_none, Option.getD_none] at HVX
                have HE := Lib.hid (show othersB ky was now = false from by rw [HE1.out]; rfl)
                clear hG
                go_wp2_with (first
                  | (go_at_call 31; refine HVX.out.mono ?_; rintro e w3 ⟨rfl, k3⟩; have K3X := Lib.hid k3; have K3 := Lib.hid (KX.out.trans k3); have W3 := Lib.hid (WR2.out.keeps k3 (by simp)); have y0 := ((WX.out.keeps k3 (by simp)).cell 0).trans (show _ = some (Value.slice ka xn kc) from rfl); have y1 := (W3.out.cell 1).trans (show _ = some kv from rfl); clear k3)
                  | (go_at_call 14; refine (HIS.out _ K3X.out).mono ?_; rintro e w' ⟨rfl, rfl⟩))
                go_ret
                exact ⟨by rw [HE.out]; simp, K3.out⟩
              | some u =>
                rw [hG] at HVX HE1
                simp only [Option.isSome_some, Option.getD_some] at HVX
                clear hG
                by_cases e2 : u = xv
                · subst e2
                  have HE := Lib.hid (show othersB ky was now = othersB ky (was.drop (j + 1)) now from by rw [HE1.out]; simp)
                  go_wp2_with (first
                    | (go_at_call 31; refine HVX.out.mono ?_; rintro e w3 ⟨rfl, k3⟩; have K3X := Lib.hid k3; have K3 := Lib.hid (KX.out.trans k3); have W3 := Lib.hid (WR2.out.keeps k3 (by simp)); have y0 := ((WX.out.keeps k3 (by simp)).cell 0).trans (show _ = some (Value.slice ka xn kc) from rfl); have y2 := ((WX.out.keeps k3 (by simp)).cell 1).trans (show _ = some (Value.slice va vn vc) from rfl); have y1 := (W3.out.cell 1).trans (show _ = some kv from rfl); have hcv := HCV.out _ k3; clear k3)
                    | (go_at_call 14; refine (HIS.out _ K3X.out).mono ?_; rintro e w' ⟨rfl, rfl⟩))
                  go_roundw
                  case rel => exact ⟨j + 1, by omega, by go_num, HE.out, W3, K3⟩
                  case measure => simp [intOf]; omega
                · have HE := Lib.hid (show othersB ky was now = false from by rw [HE1.out]; simp [e2])
                  have e2b : (u == xv) = false := by simp [e2]
                  go_wp2_with (first
                    | (go_at_call 31; refine HVX.out.mono ?_; rintro e w3 ⟨rfl, k3⟩; have K3X := Lib.hid k3; have K3 := Lib.hid (KX.out.trans k3); have W3 := Lib.hid (WR2.out.keeps k3 (by simp)); have y0 := ((WX.out.keeps k3 (by simp)).cell 0).trans (show _ = some (Value.slice ka xn kc) from rfl); have y2 := ((WX.out.keeps k3 (by simp)).cell 1).trans (show _ = some (Value.slice va vn vc) from rfl); have y1 := (W3.out.cell 1).trans (show _ = some kv from rfl); have hcv := HCV.out _ k3; clear k3)
                    | (go_at_call 14; refine (HIS.out _ K3X.out).mono ?_; rintro e w' ⟨rfl, rfl⟩))
                  go_ret
                  exact ⟨by rw [HE.out]; simp, K3.out⟩
          · obtain rfl : j = n := by omega
            rw [List.drop_of_length_le (by have := HNL.out; omega)] at HG
            go_wp2
            go_ret
            exact ⟨by rw [HG.out]; by_cases e : m = j <;> simp [e, othersB] <;> omega, HKW.out⟩
      | some a =>
        simp only [Option.isSome_some, Option.getD_some] at HVW
        go_wp2_with (first
          | (go_at_call_of 31 (Value.slice ao n ca); refine (HVW.out _ KV.out).mono ?_; rintro e w1 ⟨rfl, k1⟩; have K1 := Lib.hid (KV.out.trans k1); have W1 := Lib.hid (WO.out.keeps k1 (by simp)); have p1 := (W1.out.cell 1).trans (show _ = some kv from rfl); clear k1)
          | (go_at_call_of 31 (Value.slice bo m cb); refine (HVN.out _ K1.out).mono ?_; rintro e w2 ⟨rfl, k2⟩; have K2 := Lib.hid (K1.out.trans k2); have W2 := Lib.hid (W1.out.keeps k2 (by simp)); have q0 := (W2.out.cell 0).trans (show _ = some (Value.int .u8 (d : Int)) from rfl); have q2 := (W2.out.cell 2).trans (show _ = some vv from rfl); have hcv := conv_reads (HV.out.keeps K2.out (by simp)); clear k2))
        go_loopw [13, 14, 15, 53] (fun _ _ _ ix wr => ∃ j : Nat, j ≤ n ∧ ix = .int .i64 j ∧ othersB ky was now = othersB ky (was.drop j) now ∧ Hid (Whole wr w.heap.size 33 [.int .u8 d, kv, vv, .int .u8 ar, mv]) ∧ Hid (Keeps [] w wr)) (fun _ _ _ ix _ => n - (intOf ix).toNat)
        case atStart => exact ⟨0, by omega, rfl, rfl, W2, K2⟩
        case round =>
          clear p1 q0 q2 hcv o0 o1 o2 W1 W2 K1 K2 HVW HVN WO KV
          obtain ⟨j, hj, rfl, hg, WR, HKW⟩ := hrel
          have HG := Lib.hid hg
          clear hg
          by_cases hlt : j < n
          · have hji : (j : Int) < (n : Int) := by omega
            obtain ⟨x, hx⟩ : ∃ x, was[j]? = some x := ⟨was[j]'(by have := HNL.out; omega), List.getElem?_eq_getElem _⟩
            obtain ⟨g, k1, v1, rfl, _, hgl, c0, c1, b0, b1⟩ := (HA.out.keeps HKW.out (by simp)).at j x hx
            have hstep := othersB_drop (ky := ky) (now := now) hx
            obtain ⟨xk, xv⟩ := x
            simp only at b0 b1 hstep
            obtain ⟨ka, kc, rfl, _⟩ := b0.shape
            obtain ⟨va, vc, rfl, _⟩ := b1.shape
            obtain ⟨M0, r0, _⟩ := b0
            obtain ⟨M1, r1, _⟩ := b1
            generalize hxn : xk.length = xn at *
            generalize hvn : xv.length = vn at *
            have HXN := Lib.hid hxn
            have HVNL := Lib.hid hvn
            clear hxn hvn
            go_upto_region 15 with (fail)
            generalize hX : World.alloc wr _ = X
            have kX : Keeps [] wr X := by rw [← hX]; exact Keeps.alloc [] _ _
            have wX : Whole X wr.heap.size 60 [.slice ka xn kc, .slice va vn vc] := by rw [← hX]; exact Whole.new wr 60 [_, _]
            have x0 := (wX.cell 0).trans (show _ = some (Value.slice ka xn kc) from rfl)
            have HIS := Lib.hid (fun U (hU : Keeps [] X U) => Is_any U (.slice ka xn kc) kv xk ky M0 Mk (r0.keeps (kX.trans hU) (by simp)) (HK.out.keeps (HKW.out.trans (kX.trans hU)) (by simp)))
            have HVX := Lib.hid (value6_any X (.slice bo m cb) (.slice ka xn kc) now xk M0 (HB.out.keeps (HKW.out.trans kX) (by simp)) (by have := HML.out; omega) (r0.keeps kX (by simp)))
            have HCV := Lib.hid (fun U (hU : Keeps [] X U) => conv_reads (r1.keeps (kX.trans hU) (by simp)))
            have HST := Lib.hid hstep
            have WX := Lib.hid wX
            have WR2 := Lib.hid (WR.out.keeps kX (by simp))
            have KX := Lib.hid (HKW.out.trans kX)
            have hs1 := WX.out.lt
            have hs2 := WR.out.lt
            clear hX kX wX hstep r0 r1 hx c0 c1
            generalize wr.heap.size = XB at *
            by_cases e1 : xk = ky
            · rw [show (xk == ky) = true by simp [e1]] at HIS
              have HE := Lib.hid (show othersB ky was now = othersB ky (was.drop (j + 1)) now from by rw [HG.out, HST.out, show (xk == ky) = true by simp [e1]]; rfl)
              generalize hG : getK xk now = G at HVX
              generalize (G.getD []).toArray = sv at HVX
              generalize G.isSome = bb at HVX
              clear e1 hG
              go_wp2_with (first
                | (go_at_call 31; refine HVX.out.mono ?_; rintro e w3 ⟨rfl, k3⟩; have K3X := Lib.hid k3; have K3 := Lib.hid (KX.out.trans k3); have W3 := Lib.hid (WR2.out.keeps k3 (by simp)); have y0 := ((WX.out.keeps k3 (by simp)).cell 0).trans (show _ = some (Value.slice ka xn kc) from rfl); have y1 := (W3.out.cell 1).trans (show _ = some kv from rfl); clear k3)
                | (go_at_call 14; refine (HIS.out _ K3X.out).mono ?_; rintro e w' ⟨rfl, rfl⟩))
              go_roundw
              case rel => exact ⟨j + 1, by omega, by go_num, HE.out, W3, K3⟩
              case measure => simp [intOf]; omega
            · rw [show (xk == ky) = false by simp [e1]] at HIS
              have HE1 := Lib.hid (show othersB ky was now = ((getK xk now == some xv) && othersB ky (was.drop (j + 1)) now) from by rw [HG.out, HST.out, show (xk == ky) = false by simp [e1], Bool.false_or])
              clear e1
              cases hG : getK xk now with
              | none =>
                rw [hG] at HVX HE1
                simp only [Option.isSome_none, Option.getD_none] at HVX
                have HE := Lib.hid (show othersB ky was now = false from by rw [HE1.out]; rfl)
                clear hG
                go_wp2_with (first
                  | (go_at_call 31; refine HVX.out.mono ?_; rintro e w3 ⟨rfl, k3⟩; have K3X := Lib.hid k3; have K3 := Lib.hid (KX.out.trans k3); have W3 := Lib.hid (WR2.out.keeps k3 (by simp)); have y0 := ((WX.out.keeps k3 (by simp)).cell 0).trans (show _ = some (Value.slice ka xn kc) from rfl); have y1 := (W3.out.cell 1).trans (show _ = some kv from rfl); clear k3)
                  | (go_at_call 14; refine (HIS.out _ K3X.out).mono ?_; rintro e w' ⟨rfl, rfl⟩))
                go_ret
                exact ⟨by rw [HE.out]; simp, K3.out⟩
              | some u =>
                rw [hG] at HVX HE1
                simp only [Option.isSome_some, Option.getD_some] at HVX
                clear hG
                by_cases e2 : u = xv
                · subst e2
                  have HE := Lib.hid (show othersB ky was now = othersB ky (was.drop (j + 1)) now from by rw [HE1.out]; simp)
                  go_wp2_with (first
                    | (go_at_call 31; refine HVX.out.mono ?_; rintro e w3 ⟨rfl, k3⟩; have K3X := Lib.hid k3; have K3 := Lib.hid (KX.out.trans k3); have W3 := Lib.hid (WR2.out.keeps k3 (by simp)); have y0 := ((WX.out.keeps k3 (by simp)).cell 0).trans (show _ = some (Value.slice ka xn kc) from rfl); have y2 := ((WX.out.keeps k3 (by simp)).cell 1).trans (show _ = some (Value.slice va vn vc) from rfl); have y1 := (W3.out.cell 1).trans (show _ = some kv from rfl); have hcv := HCV.out _ k3; clear k3)
                    | (go_at_call 14; refine (HIS.out _ K3X.out).mono ?_; rintro e w' ⟨rfl, rfl⟩))
                  go_roundw
                  case rel => exact ⟨j + 1, by omega, by go_num, HE.out, W3, K3⟩
                  case measure => simp [intOf]; omega
                · have HE := Lib.hid (show othersB ky was now = false from by rw [HE1.out]; simp [e2])
                  have e2b : (u == xv) = false := by simp [e2]
                  go_wp2_with (first
                    | (go_at_call 31; refine HVX.out.mono ?_; rintro e w3 ⟨rfl, k3⟩; have K3X := Lib.hid k3; have K3 := Lib.hid (KX.out.trans k3); have W3 := Lib.hid (WR2.out.keeps k3 (by simp)); have y0 := ((WX.out.keeps k3 (by simp)).cell 0).trans (show _ = some (Value.slice ka xn kc) from rfl); have y2 := ((WX.out.keeps k3 (by simp)).cell 1).trans (show _ = some (Value.slice va vn vc) from rfl); have y1 := (W3.out.cell 1).trans (show _ = some kv from rfl); have hcv := HCV.out _ k3; clear k3)
                    | (go_at_call 14; refine (HIS.out _ K3X.out).mono ?_; rintro e w' ⟨rfl, rfl⟩))
                  go_ret
                  exact ⟨by rw [HE.out]; simp, K3.out⟩
          · obtain rfl : j = n := by omega
            rw [List.drop_of_length_le (by have := HNL.out; omega)] at HG
            go_wp2
            go_ret
            exact ⟨by rw [HG.out]; by_cases e : m + 1 = j <;> simp [e, othersB] <;> omega, HKW.out⟩
  case neg =>
    have h3' : ¬ (q : Int) = 3 := by omega
    have h3b : ((q : Int) != 3) = true := by simp; omega
    cases B with
    | none =>
      simp only [Option.isSome_none, Option.getD_none] at HVN
      cases A with
      | none =>
        simp only [Option.isSome_none, Option.getD_none] at HVW
        go_wp2_with (first
          | (go_at_call_of 31 (Value.slice ao n ca); refine (HVW.out _ KV.out).mono ?_; rintro e w1 ⟨rfl, k1⟩; have K1 := Lib.hid (KV.out.trans k1); have W1 := Lib.hid (WO.out.keeps k1 (by simp)); have p1 := (W1.out.cell 1).trans (show _ = some kv from rfl); clear k1)
          | (go_at_call_of 31 (Value.slice bo m cb); refine (HVN.out _ K1.out).mono ?_; rintro e w2 ⟨rfl, k2⟩; have K2 := Lib.hid (K1.out.trans k2); have W2 := Lib.hid (W1.out.keeps k2 (by simp)); have q0 := (W2.out.cell 0).trans (show _ = some (Value.int .u8 (d : Int)) from rfl); have q2 := (W2.out.cell 2).trans (show _ = some vv from rfl); have hcv := conv_reads (HV.out.keeps K2.out (by simp)); clear k2))
        go_ret
        exact ⟨by simp, K2.out⟩
      | some a =>
        simp only [Option.isSome_some, Option.getD_some] at HVW
        go_wp2_with (first
          | (go_at_call_of 31 (Value.slice ao n ca); refine (HVW.out _ KV.out).mono ?_; rintro e w1 ⟨rfl, k1⟩; have K1 := Lib.hid (KV.out.trans k1); have W1 := Lib.hid (WO.out.keeps k1 (by simp)); have p1 := (W1.out.cell 1).trans (show _ = some kv from rfl); clear k1)
          | (go_at_call_of 31 (Value.slice bo m cb); refine (HVN.out _ K1.out).mono ?_; rintro e w2 ⟨rfl, k2⟩; have K2 := Lib.hid (K1.out.trans k2); have W2 := Lib.hid (W1.out.keeps k2 (by simp)); have q0 := (W2.out.cell 0).trans (show _ = some (Value.int .u8 (d : Int)) from rfl); have q2 := (W2.out.cell 2).trans (show _ = some vv from rfl); have hcv := conv_reads (HV.out.keeps K2.out (by simp)); clear k2))
        go_ret
        exact ⟨by simp, K2.out⟩
    | some b =>
      simp only [Option.isSome_some, Option.getD_some] at HVN
      by_cases e2 : b = vl
      case neg =>
        have e2b : (b == vl) = false := by simp [e2]
        cases A with
        | none =>
          simp only [Option.isSome_none, Option.getD_none] at HVW
          go_wp2_with (first
            | (go_at_call_of 31 (Value.slice ao n ca); refine (HVW.out _ KV.out).mono ?_; rintro e w1 ⟨rfl, k1⟩; have K1 := Lib.hid (KV.out.trans k1); have W1 := Lib.hid (WO.out.keeps k1 (by simp)); have p1 := (W1.out.cell 1).trans (show _ = some kv from rfl); clear k1)
            | (go_at_call_of 31 (Value.slice bo m cb); refine (HVN.out _ K1.out).mono ?_; rintro e w2 ⟨rfl, k2⟩; have K2 := Lib.hid (K1.out.trans k2); have W2 := Lib.hid (W1.out.keeps k2 (by simp)); have q0 := (W2.out.cell 0).trans (show _ = some (Value.int .u8 (d : Int)) from rfl); have q2 := (W2.out.cell 2).trans (show _ = some vv from rfl); have hcv := conv_reads (HV.out.keeps K2.out (by simp)); clear k2))
          go_ret
          exact ⟨by simp, K2.out⟩
        | some a =>
          simp only [Option.isSome_some, Option.getD_some] at HVW
          go_wp2_with (first
            | (go_at_call_of 31 (Value.slice ao n ca); refine (HVW.out _ KV.out).mono ?_; rintro e w1 ⟨rfl, k1⟩; have K1 := Lib.hid (KV.out.trans k1); have W1 := Lib.hid (WO.out.keeps k1 (by simp)); have p1 := (W1.out.cell 1).trans (show _ = some kv from rfl); clear k1)
            | (go_at_call_of 31 (Value.slice bo m cb); refine (HVN.out _ K1.out).mono ?_; rintro e w2 ⟨rfl, k2⟩; have K2 := Lib.hid (K1.out.trans k2); have W2 := Lib.hid (W1.out.keeps k2 (by simp)); have q0 := (W2.out.cell 0).trans (show _ = some (Value.int .u8 (d : Int)) from rfl); have q2 := (W2.out.cell 2).trans (show _ = some vv from rfl); have hcv := conv_reads (HV.out.keeps K2.out (by simp)); clear k2))
          go_ret
          exact ⟨by simp, K2.out⟩
      case pos =>
        subst e2
        cases A with
        | none =>
          simp only [Option.isSome_none, Option.getD_none] at HVW
          go_wp2_with (first
            | (go_at_call_of 31 (Value.slice ao n ca); refine (HVW.out _ KV.out).mono ?_; rintro e w1 ⟨rfl, k1⟩; have K1 := Lib.hid (KV.out.trans k1); have W1 := Lib.hid (WO.out.keeps k1 (by simp)); have p1 := (W1.out.cell 1).trans (show _ = some kv from rfl); clear k1)
            | (go_at_call_of 31 (Value.slice bo m cb); refine (HVN.out _ K1.out).mono ?_; rintro e w2 ⟨rfl, k2⟩; have K2 := Lib.hid (K1.out.trans k2); have W2 := Lib.hid (W1.out.keeps k2 (by simp)); have q0 := (W2.out.cell 0).trans (show _ = some (Value.int .u8 (d : Int)) from rfl); have q2 := (W2.out.cell 2).trans (show _ = some vv from rfl); have hcv := conv_reads (HV.out.keeps K2.out (by simp)); clear k2))
          generalize hmz : (n : Int) + 1 = mz
          have HMZ := Lib.hid hmz
          clear hmz
          go_loopw [13, 14, 15, 53] (fun _ _ _ ix wr => ∃ j : Nat, j ≤ n ∧ ix = .int .i64 j ∧ othersB ky was now = othersB ky (was.drop j) now ∧ Hid (Whole wr w.heap.size 33 [.int .u8 d, kv, vv, .int .u8 ar, mv]) ∧ Hid (Keeps [] w wr)) (fun _ _ _ ix _ => n - (intOf ix).toNat)
          case atStart => exact ⟨0, by omega, rfl, rfl, W2, K2⟩
          case round =>
            clear p1 q0 q2 hcv o0 o1 o2 W1 W2 K1 K2 HVW HVN WO KV
            obtain ⟨j, hj, rfl, hg, WR, HKW⟩ := hrel
            have HG := Lib.hid hg
            clear hg
            by_cases hlt : j < n
            · have hji : (j : Int) < (n : Int) := by omega
              obtain ⟨x, hx⟩ : ∃ x, was[j]? = some x := ⟨was[j]'(by have := HNL.out; omega), List.getElem?_eq_getElem _⟩
              obtain ⟨g, k1, v1, rfl, _, hgl, c0, c1, b0, b1⟩ := (HA.out.keeps HKW.out (by simp)).at j x hx
              have hstep := othersB_drop (ky := ky) (now := now) hx
              obtain ⟨xk, xv⟩ := x
              simp only at b0 b1 hstep
              obtain ⟨ka, kc, rfl, _⟩ := b0.shape
              obtain ⟨va, vc, rfl, _⟩ := b1.shape
              obtain ⟨M0, r0, _⟩ := b0
              obtain ⟨M1, r1, _⟩ := b1
              generalize hxn : xk.length = xn at *
              generalize hvn : xv.length = vn at *
              have HXN := Lib.hid hxn
              have HVNL := Lib.hid hvn
              clear hxn hvn
              go_upto_region 15 with (fail)
              generalize hX : World.alloc wr _ = X
              have kX : Keeps [] wr X := by rw [← hX]; exact Keeps.alloc [] _ _
              have wX : Whole X wr.heap.size 60 [.slice ka xn kc, .slice va vn vc] := by rw [← hX]; exact Whole.new wr 60 [_, _]
              have x0 := (wX.cell 0).trans (show _ = some (Value.slice ka xn kc) from rfl)
              have HIS := Lib.hid (fun U (hU : Keeps [] X U) => Is_any U (.slice ka xn kc) kv xk ky M0 Mk (r0.keeps (kX.trans hU) (by simp)) (HK.out.keeps (HKW.out.trans (kX.trans hU)) (by simp)))
              have HVX := Lib.hid (value6_any X (.slice bo m cb) (.slice ka xn kc) now xk M0 (HB.out.keeps (HKW.out.trans kX) (by simp)) (by have := HML.out; omega) (r0.keeps kX (by simp)))
              have HCV := Lib.hid (fun U (hU : Keeps [] X U) => conv_reads (r1.keeps (kX.trans hU) (by simp)))
              have HST := Lib.hid hstep
              have WX := Lib.hid wX
              have WR2 := Lib.hid (WR.out.keeps kX (by simp))
              have KX := Lib.hid (HKW.out.trans kX)
              have hs1 := WX.out.lt
              have hs2 := WR.out.lt
              clear hX kX wX hstep r0 r1 hx c0 c1
              generalize wr.heap.size = XB at *
              by_cases e1 : xk = ky
              · rw [show (xk == ky) = true by simp [e1]] at HIS
                have HE := Lib.hid (show othersB ky was now = othersB ky (was.drop (j + 1)) now from by rw [HG.out, HST.out, show (xk == ky) = true by simp [e1]]; rfl)
                generalize hG : getK xk now = G at HVX
                generalize (G.getD []).toArray = sv at HVX
                generalize G.isSome = bb at HVX
                clear e1 hG
                go_wp2_with (first
                  | (go_at_call 31; refine HVX.out.mono ?_; rintro e w3 ⟨rfl, k3⟩; have K3X := Lib.hid k3; have K3 := Lib.hid (KX.out.trans k3); have W3 := Lib.hid (WR2.out.keeps k3 (by simp)); have y0 := ((WX.out.keeps k3 (by simp)).cell 0).trans (show _ = some (Value.slice ka xn kc) from rfl); have y1 := (W3.out.cell 1).trans (show _ = some kv from rfl); clear k3)
                  | (go_at_call 14; refine (HIS.out _ K3X.out).mono ?_; rintro e w' ⟨rfl, rfl⟩))
                go_roundw
                case rel => exact ⟨j + 1, by omega, by go_num, HE.out, W3, K3⟩
                case measure => simp [intOf]; omega
              · rw [show (xk == ky) = false by simp [e1]] at HIS
                have HE1 := Lib.hid (show othersB ky was now = ((getK xk now == some xv) && othersB ky (was.drop (j + 1)) now) from by rw [HG.out, HST.out, show (xk == ky) = false by simp [e1], Bool.false_or])
                clear e1
                cases hG : getK xk now with
                | none =>
                  rw [hG] at HVX HE1
                  simp only [Option.isSome_none, Option.getD_none] at HVX
                  have HE := Lib.hid (show othersB ky was now = false from by rw [HE1.out]; rfl)
                  clear hG
                  go_wp2_with (first
                    | (go_at_call 31; refine HVX.out.mono ?_; rintro e w3 ⟨rfl, k3⟩; have K3X := Lib.hid k3; have K3 := Lib.hid (KX.out.trans k3); have W3 := Lib.hid (WR2.out.keeps k3 (by simp)); have y0 := ((WX.out.keeps k3 (by simp)).cell 0).trans (show _ = some (Value.slice ka xn kc) from rfl); have y1 := (W3.out.cell 1).trans (show _ = some kv from rfl); clear k3)
                    | (go_at_call 14; refine (HIS.out _ K3X.out).mono ?_; rintro e w' ⟨rfl, rfl⟩))
                  go_ret
                  exact ⟨by rw [HE.out]; simp, K3.out⟩
                | some u =>
                  rw [hG] at HVX HE1
                  simp only [Option.isSome_some, Option.getD_some] at HVX
                  clear hG
                  by_cases e2 : u = xv
                  · subst e2
                    have HE := Lib.hid (show othersB ky was now = othersB ky (was.drop (j + 1)) now from by rw [HE1.out]; simp)
                    go_wp2_with (first
                      | (go_at_call 31; refine HVX.out.mono ?_; rintro e w3 ⟨rfl, k3⟩; have K3X := Lib.hid k3; have K3 := Lib.hid (KX.out.trans k3); have W3 := Lib.hid (WR2.out.keeps k3 (by simp)); have y0 := ((WX.out.keeps k3 (by simp)).cell 0).trans (show _ = some (Value.slice ka xn kc) from rfl); have y2 := ((WX.out.keeps k3 (by simp)).cell 1).trans (show _ = some (Value.slice va vn vc) from rfl); have y1 := (W3.out.cell 1).trans (show _ = some kv from rfl); have hcv := HCV.out _ k3; clear k3)
                      | (go_at_call 14; refine (HIS.out _ K3X.out).mono ?_; rintro e w' ⟨rfl, rfl⟩))
                    go_roundw
                    case rel => exact ⟨j + 1, by omega, by go_num, HE.out, W3, K3⟩
                    case measure => simp [intOf]; omega
                  · have HE := Lib.hid (show othersB ky was now = false from by rw [HE1.out]; simp [e2])
                    have e2b : (u == xv) = false := by simp [e2]
                    go_wp2_with (first
                      | (go_at_call 31; refine HVX.out.mono ?_; rintro e w3 ⟨rfl, k3⟩; have K3X := Lib.hid k3; have K3 := Lib.hid (KX.out.trans k3); have W3 := Lib.hid (WR2.out.keeps k3 (by simp)); have y0 := ((WX.out.keeps k3 (by simp)).cell 0).trans (show _ = some (Value.slice ka xn kc) from rfl); have y2 := ((WX.out.keeps k3 (by simp)).cell 1).trans (show _ = some (Value.slice va vn vc) from rfl); have y1 := (W3.out.cell 1).trans (show _ = some kv from rfl); have hcv := HCV.out _ k3; clear k3)
                      | (go_at_call 14; refine (HIS.out _ K3X.out).mono ?_; rintro e w' ⟨rfl, rfl⟩))
                    go_ret
                    exact ⟨by rw [HE.out]; simp, K3.out⟩
            · obtain rfl : j = n := by omega
              rw [List.drop_of_length_le (by have := HNL.out; omega)] at HG
              go_wp2
              go_ret
              exact ⟨by rw [HG.out]; have hz := HMZ.out; by_cases e : m = j + 1 <;> simp [e, othersB] <;> omega, HKW.out⟩
        | some a =>
          simp only [Option.isSome_some, Option.getD_some] at HVW
          go_wp2_with (first
            | (go_at_call_of 31 (Value.slice ao n ca); refine (HVW.out _ KV.out).mono ?_; rintro e w1 ⟨rfl, k1⟩; have K1 := Lib.hid (KV.out.trans k1); have W1 := Lib.hid (WO.out.keeps k1 (by simp)); have p1 := (W1.out.cell 1).trans (show _ = some kv from rfl); clear k1)
            | (go_at_call_of 31 (Value.slice bo m cb); refine (HVN.out _ K1.out).mono ?_; rintro e w2 ⟨rfl, k2⟩; have K2 := Lib.hid (K1.out.trans k2); have W2 := Lib.hid (W1.out.keeps k2 (by simp)); have q0 := (W2.out.cell 0).trans (show _ = some (Value.int .u8 (d : Int)) from rfl); have q2 := (W2.out.cell 2).trans (show _ = some vv from rfl); have hcv := conv_reads (HV.out.keeps K2.out (by simp)); clear k2))
          go_loopw [13, 14, 15, 53] (fun _ _ _ ix wr => ∃ j : Nat, j ≤ n ∧ ix = .int .i64 j ∧ othersB ky was now = othersB ky (was.drop j) now ∧ Hid (Whole wr w.heap.size 33 [.int .u8 d, kv, vv, .int .u8 ar, mv]) ∧ Hid (Keeps [] w wr)) (fun _ _ _ ix _ => n - (intOf ix).toNat)
          case atStart => exact ⟨0, by omega, rfl, rfl, W2, K2⟩
          case round =>
            clear p1 q0 q2 hcv o0 o1 o2 W1 W2 K1 K2 HVW HVN WO KV
            obtain ⟨j, hj, rfl, hg, WR, HKW⟩ := hrel
            have HG := Lib.hid hg
            clear hg
            by_cases hlt : j < n
            · have hji : (j : Int) < (n : Int) := by omega
              obtain ⟨x, hx⟩ : ∃ x, was[j]? = some x := ⟨was[j]'(by have := HNL.out; omega), List.getElem?_eq_getElem _⟩
              obtain ⟨g, k1, v1, rfl, _, hgl, c0, c1, b0, b1⟩ := (HA.out.keeps HKW.out (by simp)).at j x hx
              have hstep := othersB_drop (ky := ky) (now := now) hx
              obtain ⟨xk, xv⟩ := x
              simp only at b0 b1 hstep
              obtain ⟨ka, kc, rfl, _⟩ := b0.shape
              obtain ⟨va, vc, rfl, _⟩ := b1.shape
              obtain ⟨M0, r0, _⟩ := b0
              obtain ⟨M1, r1, _⟩ := b1
              generalize hxn : xk.length = xn at *
              generalize hvn : xv.length = vn at *
              have HXN := Lib.hid hxn
              have HVNL := Lib.hid hvn
              clear hxn hvn
              go_upto_region 15 with (fail)
              generalize hX : World.alloc wr _ = X
              have kX : Keeps [] wr X := by rw [← hX]; exact Keeps.alloc [] _ _
              have wX : Whole X wr.heap.size 60 [.slice ka xn kc, .slice va vn vc] := by rw [← hX]; exact Whole.new wr 60 [_, _]
              have x0 := (wX.cell 0).trans (show _ = some (Value.slice ka xn kc) from rfl)
              have HIS := Lib.hid (fun U (hU : Keeps [] X U) => Is_any U (.slice ka xn kc) kv xk ky M0 Mk (r0.keeps (kX.trans hU) (by simp)) (HK.out.keeps (HKW.out.trans (kX.trans hU)) (by simp)))
              have HVX := Lib.hid (value6_any X (.slice bo m cb) (.slice ka xn kc) now xk M0 (HB.out.keeps (HKW.out.trans kX) (by simp)) (by have := HML.out; omega) (r0.keeps kX (by simp)))
              have HCV := Lib.hid (fun U (hU : Keeps [] X U) => conv_reads (r1.keeps (kX.trans hU) (by simp)))
              have HST := Lib.hid hstep
              have WX := Lib.hid wX
              have WR2 := Lib.hid (WR.out.keeps kX (by simp))
              have KX := Lib.hid (HKW.out.trans kX)
              have hs1 := WX.out.lt
              have hs2 := WR.out.lt
              clear hX kX wX hstep r0 r1 hx c0 c1
              generalize wr.heap.size = XB at *
              by_cases e1 : xk = ky
              · rw [show (xk == ky) = true by simp [e1]] at HIS
                have HE := Lib.hid (show othersB ky was now = othersB ky (was.drop (j + 1)) now from by rw [HG.out, HST.out, show (xk == ky) = true by simp [e1]]; rfl)
                generalize hG : getK xk now = G at HVX
                generalize (G.getD []).toArray = sv at HVX
                generalize G.isSome = bb at HVX
                clear e1 hG
                go_wp2_with (first
                  | (go_at_call 31; refine HVX.out.mono ?_; rintro e w3 ⟨rfl, k3⟩; have K3X := Lib.hid k3; have K3 := Lib.hid (KX.out.trans k3); have W3 := Lib.hid (WR2.out.keeps k3 (by simp)); have y0 := ((WX.out.keeps k3 (by simp)).cell 0).trans (show _ = some (Value.slice ka xn kc) from rfl); have y1 := (W3.out.cell 1).trans (show _ = some kv from rfl); clear k3)
                  | (go_at_call 14; refine (HIS.out _ K3X.out).mono ?_; rintro e w' ⟨rfl, rfl⟩))
                go_roundw
                case rel => exact ⟨j + 1, by omega, by go_num, HE.out, W3, K3⟩
                case measure => simp [intOf]; omega
              · rw [show (xk == ky) = false by simp [e1]] at HIS
                have HE1 := Lib.hid (show othersB ky was now = ((getK xk now == some xv) && othersB ky (was.drop (j + 1)) now) from by rw [HG.out, HST.out, show (xk == ky) = false by simp [e1], Bool.false_or])
                clear e1
                cases hG : getK xk now with
                | none =>
                  rw [hG] at HVX HE1
                  simp only [Option.isSome_none, Option.getD_none] at HVX
                  have HE := Lib.hid (show othersB ky was now = false from by rw [HE1.out]; rfl)
                  clear hG
                  go_wp2_with (first
                    | (go_at_call 31; refine HVX.out.mono ?_; rintro e w3 ⟨rfl, k3⟩; have K3X := Lib.hid k3; have K3 := Lib.hid (KX.out.trans k3); have W3 := Lib.hid (WR2.out.keeps k3 (by simp)); have y0 := ((WX.out.keeps k3 (by simp)).cell 0).trans (show _ = some (Value.slice ka xn kc) from rfl); have y1 := (W3.out.cell 1).trans (show _ = some kv from rfl); clear k3)
                    | (go_at_call 14; refine (HIS.out _ K3X.out).mono ?_; rintro e w' ⟨rfl, rfl⟩))
                  go_ret
                  exact ⟨by rw [HE.out]; simp, K3.out⟩
                | some u =>
                  rw [hG] at HVX HE1
                  simp only [Option.isSome_some, Option.getD_some] at HVX
                  clear hG
                  by_cases e2 : u = xv
                  · subst e2
                    have HE := Lib.hid (show othersB ky was now = othersB ky (was.drop (j + 1)) now from by rw [HE1.out]; simp)
                    go_wp2_with (first
                      | (go_at_call 31; refine HVX.out.mono ?_; rintro e w3 ⟨rfl, k3⟩; have K3X := Lib.hid k3; have K3 := Lib.hid (KX.out.trans k3); have W3 := Lib.hid (WR2.out.keeps k3 (by simp)); have y0 := ((WX.out.keeps k3 (by simp)).cell 0).trans (show _ = some (Value.slice ka xn kc) from rfl); have y2 := ((WX.out.keeps k3 (by simp)).cell 1).trans (show _ = some (Value.slice va vn vc) from rfl); have y1 := (W3.out.cell 1).trans (show _ = some kv from rfl); have hcv := HCV.out _ k3; clear k3)
                      | (go_at_call 14; refine (HIS.out _ K3X.out).mono ?_; rintro e w' ⟨rfl, rfl⟩))
                    go_roundw
                    case rel => exact ⟨j + 1, by omega, by go_num, HE.out, W3, K3⟩
                    case measure => simp [intOf]; omega
                  · have HE := Lib.hid (show othersB ky was now = false from by rw [HE1.out]; simp [e2])
                    have e2b : (u == xv) = false := by simp [e2]
                    go_wp2_with (first
                      | (go_at_call 31; refine HVX.out.mono ?_; rintro e w3 ⟨rfl, k3⟩; have K3X := Lib.hid k3; have K3 := Lib.hid (KX.out.trans k3); have W3 := Lib.hid (WR2.out.keeps k3 (by simp)); have y0 := ((WX.out.keeps k3 (by simp)).cell 0).trans (show _ = some (Value.slice ka xn kc) from rfl); have y2 := ((WX.out.keeps k3 (by simp)).cell 1).trans (show _ = some (Value.slice va vn vc) from rfl); have y1 := (W3.out.cell 1).trans (show _ = some kv from rfl); have hcv := HCV.out _ k3; clear k3)
                      | (go_at_call 14; refine (HIS.out _ K3X.out).mono ?_; rintro e w' ⟨rfl, rfl⟩))
                    go_ret
                    exact ⟨by rw [HE.out]; simp, K3.out⟩
            · obtain rfl : j = n := by omega
              rw [List.drop_of_length_le (by have := HNL.out; omega)] at HG
              go_wp2
              go_ret
              exact ⟨by rw [HG.out]; by_cases e : m = j <;> simp [e, othersB] <;> omega, HKW.out⟩
end Go.Proofs.YtcmjecnbmdhjlaaGreat
