/-
  PlainNone, walked.
-/
import Derived.Test.YtobpfcdfhegbdaaGreatPlAw
namespace Go.Proofs.YtobpfcdfhegbdaaGreat
open Go.RowKit
set_option linter.unusedVariables false

set_option maxRecDepth 100000 in
set_option maxHeartbeats 1000000 in
theorem PlainNone_any (w : World) (n : Nat) (hn : n < 4294967296) : Calls Tryz.prog 7 #[.int .u32 (n : Int)] w fun e w' => e = .returned (.bool true) ∧ Keeps [] w w' := by
  by_cases h : 1 ≤ n ∧ n ≤ 73
  · have HD := Lib.hid (fun W => Do_nil W (n - 1) (by omega) n (by omega))
    have l1 : ¬ (n : Int) < 1 := by omega
    have l2 : ¬ (n : Int) > 73 := by omega
    go_enter Tryz.func7, Tryz.ntmps7
    go_wp2_with (first
      | (go_at_call 12; refine (HD.out _).mono ?_; rintro e w1 ⟨rfl, hk⟩; have HK1 := Lib.hid hk; clear hk)
      | (go_at_call 14; refine (awake12_any _).mono ?_; rintro e w2 ⟨rfl, hk⟩; have HK2 := Lib.hid hk; clear hk))
    go_ret
    exact ⟨by first | rfl | exact congrArg (fun b => Ending.returned (.bool b)) (by simp; omega) | exact congrArg (fun b => Ending.returned (.bool b)) (by simp [l1]) | exact congrArg (fun b => Ending.returned (.bool b)) (by simp [l2]), HK1.out.trans HK2.out⟩
  · have HD := Lib.hid (fun W => Do_word W n h none none none)
    by_cases l1 : (n : Int) < 1
    · go_enter Tryz.func7, Tryz.ntmps7
      go_wp2_with (first
        | (go_at_call 12; refine (HD.out _).mono ?_; rintro e w1 ⟨rfl, hk⟩; have HK1 := Lib.hid hk; clear hk)
        | (go_at_call 14; refine (awake12_any _).mono ?_; rintro e w2 ⟨rfl, hk⟩; have HK2 := Lib.hid hk; clear hk))
      go_ret
      exact ⟨by first | rfl | exact congrArg (fun b => Ending.returned (.bool b)) (by simp; omega) | exact congrArg (fun b => Ending.returned (.bool b)) (by simp [l1]) | exact congrArg (fun b => Ending.returned (.bool b)) (by simp [l2]), HK1.out.trans HK2.out⟩
    · have l2 : (n : Int) > 73 := by omega
      go_enter Tryz.func7, Tryz.ntmps7
      go_wp2_with (first
        | (go_at_call 12; refine (HD.out _).mono ?_; rintro e w1 ⟨rfl, hk⟩; have HK1 := Lib.hid hk; clear hk)
        | (go_at_call 14; refine (awake12_any _).mono ?_; rintro e w2 ⟨rfl, hk⟩; have HK2 := Lib.hid hk; clear hk))
      go_ret
      exact ⟨by first | rfl | exact congrArg (fun b => Ending.returned (.bool b)) (by simp; omega) | exact congrArg (fun b => Ending.returned (.bool b)) (by simp [l1]) | exact congrArg (fun b => Ending.returned (.bool b)) (by simp [l2]), HK1.out.trans HK2.out⟩
end Go.Proofs.YtobpfcdfhegbdaaGreat
