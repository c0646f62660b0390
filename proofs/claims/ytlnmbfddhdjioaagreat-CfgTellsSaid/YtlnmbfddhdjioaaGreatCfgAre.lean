/-
  Keys and values: lists of entries compared.
-/
import Derived.Test.YtlnmbfddhdjioaaGreatCfgSee
namespace Go.Proofs.YtlnmbfddhdjioaaGreat
open Go.RowKit Go.Deep

set_option maxRecDepth 100000 in
set_option maxHeartbeats 2000000 in
theorem AreEntries_any (w : World) (va vb : Value) (xs ys : List Ent) (ha : EntsAt 0 w va xs) (hb : EntsAt 0 w vb ys) (h1 : xs.length ≤ 100000) (h2 : ys.length ≤ 100000) :
    Calls Tryz.prog 14 #[va, vb] w fun e w' => e = .returned (.bool (decide (xs = ys))) ∧ Keeps [] w w' := by
  obtain ⟨ao, ca, rfl, hca⟩ := ha.shape
  obtain ⟨bo, cb, rfl, hcb⟩ := hb.shape
  have HA := Lib.hid ha
  have HB := Lib.hid hb
  obtain ⟨n, hN⟩ : ∃ n, n = xs.length := ⟨_, rfl⟩
  obtain ⟨m, hM⟩ : ∃ m, m = ys.length := ⟨_, rfl⟩
  have HNL := Lib.hid hN
  have HML := Lib.hid hM
  rw [← hN] at hca h1 HA ⊢
  rw [← hM] at hcb h2 HB ⊢
  clear ha hb hN hM
  go_enter Tryz.func14, Tryz.ntmps14
  go_wp2
  go_loopw [5, 8] (fun _ ix wr => ∃ j : Nat, j ≤ n ∧ ix = .int .i64 j ∧ j ≤ m ∧ xs.take j = ys.take j ∧ Hid (Keeps [] w wr)) (fun _ ix _ => n - (intOf ix).toNat)
  case atStart => exact ⟨0, by omega, rfl, by omega, rfl, Lib.hid (Keeps.refl _ _)⟩
  case round =>
    obtain ⟨j, hj, rfl, hjm, hg, HKW⟩ := hrel
    have HG := Lib.hid hg
    clear hg
    by_cases hlt : j < n
    · have hji : (j : Int) < (n : Int) := by omega
      obtain ⟨x, hx⟩ : ∃ x, xs[j]? = some x := ⟨xs[j]'(by have := HNL.out; omega), List.getElem?_eq_getElem _⟩
      obtain ⟨ga, k1, v1, rfl, _, hga, a0, a1, ka, va⟩ := (HA.out.keeps HKW.out (by simp)).at j x hx
      by_cases hjm2 : j < m
      · have dd1 : decide ((m : Int) ≤ (j : Int)) = false := by simp; omega
        have dd2 : decide (m ≤ j) = false := by simp; omega
        have hjm3 : (j : Int) < (m : Int) := by omega
        obtain ⟨y, hy⟩ : ∃ y, ys[j]? = some y := ⟨ys[j]'(by have := HML.out; omega), List.getElem?_eq_getElem _⟩
        obtain ⟨gb, k2, v2, rfl, _, hgb, b0, b1, kb, vb⟩ := (HB.out.keeps HKW.out (by simp)).at j y hy
        obtain ⟨p1, q1, rfl, _⟩ := ka.shape
        obtain ⟨p2, q2, rfl, _⟩ := va.shape
        obtain ⟨p3, q3, rfl, _⟩ := kb.shape
        obtain ⟨p4, q4, rfl, _⟩ := vb.shape
        obtain ⟨M1, r1, _⟩ := ka
        obtain ⟨M2, r2, _⟩ := va
        obtain ⟨M3, r3, _⟩ := kb
        obtain ⟨M4, r4, _⟩ := vb
        have HI1 := Lib.hid (fun U (hU : Keeps [] wr U) => Is_any U _ _ x.1 y.1 M1 M3 (r1.keeps hU (by simp)) (r3.keeps hU (by simp)))
        have HI2 := Lib.hid (fun U (hU : Keeps [] wr U) => Is_any U _ _ x.2 y.2 M2 M4 (r2.keeps hU (by simp)) (r4.keeps hU (by simp)))
        have HT := Lib.hid (show xs.take (j + 1) = ys.take (j + 1) ↔ x = y from by
          rw [List.take_add_one, List.take_add_one, HG.out, hx, hy]; simp)
        have HX := Lib.hid hx
        have HY := Lib.hid hy
        clear r1 r2 r3 r4 hx hy
        obtain ⟨xk, xv⟩ := x
        obtain ⟨yk, yv⟩ := y
        simp only at HI1 HI2
        by_cases e1 : xk = yk
        · have d1 : (xk == yk) = true := by simp [e1]
          rw [d1] at HI1
          have HE1 := Lib.hid e1
          clear d1 e1
          by_cases e2 : xv = yv
          · have d2 : (xv == yv) = true := by simp [e2]
            rw [d2] at HI2
            have HE2 := Lib.hid e2
            clear d2 e2
            go_wp2
            go_quiet (first | (go_at_call_of 10 (Value.slice p1 xk.length q1); (first | exact quiet_same6 (HI1.out _ (Keeps.drewN _ _ _)) | exact quiet_none (HI1.out _ (Keeps.drewN _ _ _)))) | (go_at_call_of 10 (Value.slice p2 xv.length q2); (first | exact quiet_same6 (HI2.out _ (Keeps.drewN _ _ _)) | exact quiet_none (HI2.out _ (Keeps.drewN _ _ _)))))
            go_wp2
            go_roundw
            case rel => exact ⟨j + 1, by omega, by go_num, by omega, HT.out.2 (by rw [HE1.out, HE2.out]), Lib.hid (HKW.out.trans (Keeps.drewN _ _ _))⟩
            case measure => simp [intOf]; omega
          · have d2 : (xv == yv) = false := by simp [e2]
            rw [d2] at HI2
            have HNE := Lib.hid (show decide (xs = ys) = false from decide_eq_false (fun hh => e2 (by have := HT.out.1 (by rw [hh]); exact congrArg Prod.snd this)))
            clear d2 e2
            go_wp2
            go_quiet (first | (go_at_call_of 10 (Value.slice p1 xk.length q1); (first | exact quiet_same6 (HI1.out _ (Keeps.drewN _ _ _)) | exact quiet_none (HI1.out _ (Keeps.drewN _ _ _)))) | (go_at_call_of 10 (Value.slice p2 xv.length q2); (first | exact quiet_same6 (HI2.out _ (Keeps.drewN _ _ _)) | exact quiet_none (HI2.out _ (Keeps.drewN _ _ _)))))
            go_wp2
            go_ret
            exact ⟨by rw [HNE.out]; rfl, HKW.out.trans (Keeps.drewN _ _ _)⟩
        · have d1 : (xk == yk) = false := by simp [e1]
          rw [d1] at HI1
          have HNE := Lib.hid (show decide (xs = ys) = false from decide_eq_false (fun hh => e1 (by have := HT.out.1 (by rw [hh]); exact congrArg Prod.fst this)))
          clear d1 e1
          go_wp2
          go_quiet ((go_at_call_of 10 (Value.slice p1 xk.length q1); (first | exact quiet_same6 (HI1.out _ (Keeps.drewN _ _ _)) | exact quiet_none (HI1.out _ (Keeps.drewN _ _ _)))))
          go_wp2
          go_ret
          exact ⟨by rw [HNE.out]; rfl, HKW.out.trans (Keeps.drewN _ _ _)⟩
      · obtain rfl : j = m := by omega
        have dd1 : decide ((j : Int) ≤ (j : Int)) = true := by simp
        have dd2 : decide (j ≤ j) = true := by simp
        have HNE := Lib.hid (show xs ≠ ys from fun h => by have := HNL.out; have := HML.out; rw [h] at *; omega)
        obtain ⟨p1, q1, rfl, _⟩ := ka.shape
        obtain ⟨p2, q2, rfl, _⟩ := va.shape
        go_wp2
        go_quiet (fail)
        go_wp2
        go_ret
        exact ⟨by rw [decide_eq_false HNE.out]; rfl, HKW.out.trans (Keeps.drewN _ _ _)⟩
    · obtain rfl : j = n := by omega
      have HQ := Lib.hid (show ((j : Int) == (m : Int)) = decide (xs = ys) from by
        have h1 := HNL.out
        have h2 := HML.out
        have h3 := HG.out
        rw [List.take_of_length_le (by omega)] at h3
        by_cases e : j = m
        · have : xs = ys := by rw [h3, List.take_of_length_le (by omega)]
          simp [e, this]
        · have : xs ≠ ys := fun h => e (by rw [h1, h2, h])
          simp [this]; omega)
      go_wp2
      go_ret
      exact ⟨by rw [HQ.out]; rfl, HKW.out⟩
end Go.Proofs.YtlnmbfddhdjioaaGreat
