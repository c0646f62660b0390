/-
  RingTells, walked.
-/
import Derived.Test.YtdcfcljgennipaaRtFlash
import Derived.Test.YtdcfcljgennipaaGround
namespace Go.Proofs.Ytdcfcljgennipaa
open Go.RowKit Go.Deep

set_option maxRecDepth 100000 in
set_option maxHeartbeats 2000000 in
theorem RingTells_bad (w : World) (v : Value) (n : Nat) (hp : Puts5 w w.heap.size v n) (first count but : Int) (hc : count ≤ 9223372036854775807) (hc0 : -9223372036854775808 ≤ count) (h : count < 3 ∨ first < 0 ∨ 16 - count < first) :
    Calls Try.prog 5 #[v, .int .i64 first, .int .i64 count, .int .i64 but] w fun e w' => e = .returned (.bool true) ∧ Keeps [] w w' := by
  have HD := Lib.hid (done5_any w v n hp)
  clear hp
  go_enter Try.func5, Try.ntmps5
  go_wp2_with fail
  refine HD.out.mono ?_
  rintro e w1 ⟨F, B, W, M, s, rfl, hF, hu, k1, _⟩
  have hlk := Look_bad w1 hF (by rw [hu.wl]; decide) first count hc (by rw [hu.wl]; exact h)
  have HLK := Lib.hid hlk
  have K1 := Lib.hid k1
  clear hF hu k1 hlk HD
  go_wp2_with fail
  refine HLK.out.mono ?_
  rintro e w' ⟨rfl, rfl⟩
  by_cases c1 : count < 3
  · clear h
    go_wp2_with (go_at_call 29; refine (awake5_any _).mono ?_; rintro e wf ⟨rfl, kf⟩; have KF := Lib.hid kf; clear kf)
    go_ret
    exact ⟨rfl, K1.out.trans KF.out⟩
  · by_cases c2 : 16 < count
    · clear h
      go_wp2_with (go_at_call 29; refine (awake5_any _).mono ?_; rintro e wf ⟨rfl, kf⟩; have KF := Lib.hid kf; clear kf)
      go_ret
      exact ⟨rfl, K1.out.trans KF.out⟩
    · by_cases c3 : first < 0
      · clear h
        go_wp2_with (go_at_call 29; refine (awake5_any _).mono ?_; rintro e wf ⟨rfl, kf⟩; have KF := Lib.hid kf; clear kf)
        go_ret
        exact ⟨rfl, K1.out.trans KF.out⟩
      · have c4 : 16 - count < first := by omega
        clear h
        go_wp2_with (go_at_call 29; refine (awake5_any _).mono ?_; rintro e wf ⟨rfl, kf⟩; have KF := Lib.hid kf; clear kf)
        go_ret
        exact ⟨rfl, K1.out.trans KF.out⟩
end Go.Proofs.Ytdcfcljgennipaa
