/-
  The document's Check.
-/
import Derived.Test.YtfnjjanknfmibaaPmRefG
namespace Go.Proofs.Ytfnjjanknfmibaa
open Go.RowKit Go.Deep
set_option linter.unusedVariables false

set_option maxRecDepth 100000 in
set_option maxHeartbeats 4000000 in
theorem r11Check_any (w : World) (P : Nat → Prop) (v : Value) (l : List Wd) (hw : WordsIn w P v l) (hl : l.length ≤ 1000000) (hcl : ∀ x ∈ l, x.code.length ≤ 2000000) (r : Int) (hr : checkL l = r) :
    Calls Try.prog 17 #[v] w fun e w' => e = .returned (.int .i64 r) ∧ Keeps [] w w' := by
  have HR1 := Lib.hid (fun W (hk : Keeps [] w W) i (hi : i < l.length) => r11Right_any W P v l (hw.next hk) hl hcl i hi)
  obtain ⟨a, cap, rfl, hcap, hml⟩ := hw.shape
  obtain ⟨n, hn⟩ : ∃ n, n = l.length := ⟨_, rfl⟩
  have HN := Lib.hid hn
  have HR := Lib.hid hr
  rw [← hn] at hl hcap hml HR1 ⊢
  clear hw hr hn hcl
  go_enter Try.func17, Try.ntmps17
  go_wp2
  go_loopw [3] (fun x wr => ∃ k : Nat, k ≤ n ∧ x = .int .i64 (k : Int) ∧ Hid (∀ j, j < k → rightAt l j = true) ∧ Hid (Keeps [] w wr)) (fun x _ => n - (intOf x).toNat)
  case atStart => exact ⟨0, by omega, rfl, fun j hj => by omega, Keeps.refl _ _⟩
  case round =>
    obtain ⟨k, hk, rfl, HALL, HKR⟩ := hrel
    by_cases hlt : k < n
    · have hlt' : (k : Int) < (n : Int) := by omega
      have HRT := Lib.hid (HR1.out wr HKR.out k hlt)
      cases hq : rightAt l k with
      | false =>
        rw [hq] at HRT
        have HE := Lib.hid (show r = (k : Int) by rw [← HR.out]; exact firstBad_at HALL.out hq (by have := HN.out; omega))
        clear hq
        go_wp2_with (go_at_call 38; refine HRT.out.mono ?_; rintro e w7 ⟨rfl, hk7⟩; have HK7 := Lib.hid hk7; clear hk7)
        go_ret
        exact ⟨by rw [HE.out]; rfl, HKR.out.trans HK7.out⟩
      | true =>
        rw [hq] at HRT
        have HQ := Lib.hid hq
        clear hq
        go_wp2_with (go_at_call 38; refine HRT.out.mono ?_; rintro e w7 ⟨rfl, hk7⟩; have HK7 := Lib.hid hk7; clear hk7)
        go_roundw
        case rel => exact ⟨k + 1, by omega, by go_num, fun j hj => by
          by_cases he : j = k
          · subst he; exact HQ.out
          · exact HALL.out j (by omega), HKR.out.trans HK7.out⟩
        case measure => simp [intOf]; omega
    · obtain rfl : k = n := by omega
      have hlt' : ¬ (k : Int) < (k : Int) := by omega
      have HE := Lib.hid (show r = -1 by rw [← HR.out]; exact firstBad_all (fun j hj => HALL.out j (by have := HN.out; omega)))
      clear hlt
      go_wp2
      go_ret
      exact ⟨by rw [HE.out]; rfl, HKR.out⟩
end Go.Proofs.Ytfnjjanknfmibaa
