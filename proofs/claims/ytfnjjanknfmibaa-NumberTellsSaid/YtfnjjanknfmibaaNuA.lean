/-
  Package number: digits, bases, signs.
-/
import Derived.Test.YtfnjjanknfmibaaImStr
import Derived.Test.YtfnjjanknfmibaaNuMath
import Derived.Test.YtfnjjanknfmibaaCellC
import Derived.Laws.RangeString
import Derived.Laws.Runes
namespace Go.Proofs.Ytfnjjanknfmibaa
open Go.RowKit Go.Deep
set_option linter.unusedVariables false

theorem nIsBase_any (w : World) (b : Nat) : Calls Try.prog 45 #[.int .u32 (b : Int)] w fun e w' => e = .returned (.bool (decide (2 ≤ b ∧ b ≤ 36))) ∧ w = w' := by
  by_cases h1 : 2 ≤ b
  · by_cases h2 : b ≤ 36
    · rw [decide_eq_true ⟨h1, h2⟩]
      have h1' : (2 : Int) ≤ (b : Int) := by omega
      have h2' : (b : Int) ≤ 36 := by omega
      go_enter Try.func45, Try.ntmps45
      go_wp2
      go_ret
      exact ⟨rfl, rfl⟩
    · rw [decide_eq_false (fun h => h2 h.2)]
      have h1' : (2 : Int) ≤ (b : Int) := by omega
      have h2' : ¬ (b : Int) ≤ 36 := by omega
      go_enter Try.func45, Try.ntmps45
      go_wp2
      go_ret
      exact ⟨rfl, rfl⟩
  · rw [decide_eq_false (fun h => h1 h.1)]
    have h1' : ¬ (2 : Int) ≤ (b : Int) := by omega
    go_enter Try.func45, Try.ntmps45
    go_wp2
    go_ret
    exact ⟨rfl, rfl⟩

theorem ret_pair {k : IntKind} {a b : Int} {x : Value} (h : a = b) : Ending.returned (.tuple #[.int k a, x]) = .returned (.tuple #[.int k b, x]) := by rw [h]

theorem nValueOf_any (w : World) (c : Nat) (hc : c < 256) : Calls Try.prog 44 #[.int .u8 (c : Int)] w fun e w' => e = .returned (.tuple #[.int .u32 (((worthN c).getD 0 : Nat) : Int), .bool (worthN c).isSome]) ∧ w = w' := by
  unfold worthN
  by_cases h1 : 48 ≤ c ∧ c ≤ 57
  · rw [if_pos h1]
    have a1 : (48 : Int) ≤ (c : Int) := by omega
    have a2 : (c : Int) ≤ 57 := by omega
    go_enter Try.func44, Try.ntmps44
    go_wp2
    exact bodyPost_ret (v := .tuple #[.int .u32 ((c : Int) - 48), .bool true]) (by simp [results, Try.results44, go_sem]) rfl ⟨ret_pair (show (c : Int) - 48 = ((c - 48 : Nat) : Int) by omega), rfl⟩
  · rw [if_neg h1]
    by_cases h2 : 65 ≤ c ∧ c ≤ 90
    · rw [if_pos h2]
      have a1 : (65 : Int) ≤ (c : Int) := by omega
      have a2 : (c : Int) ≤ 90 := by omega
      have a3 : (48 : Int) ≤ (c : Int) := by omega
      have a4 : ¬ (c : Int) ≤ 57 := by omega
      go_enter Try.func44, Try.ntmps44
      go_wp2
      exact bodyPost_ret (v := .tuple #[.int .u32 ((c : Int) - 65 + 10), .bool true]) (by simp [results, Try.results44, go_sem]) rfl ⟨ret_pair (show (c : Int) - 65 + 10 = ((c - 55 : Nat) : Int) by omega), rfl⟩
    · rw [if_neg h2]
      by_cases h3 : 97 ≤ c ∧ c ≤ 122
      · rw [if_pos h3]
        have a1 : (97 : Int) ≤ (c : Int) := by omega
        have a2 : (c : Int) ≤ 122 := by omega
        have a3 : (48 : Int) ≤ (c : Int) := by omega
        have a4 : ¬ (c : Int) ≤ 57 := by omega
        have a5 : (65 : Int) ≤ (c : Int) := by omega
        have a6 : ¬ (c : Int) ≤ 90 := by omega
        go_enter Try.func44, Try.ntmps44
        go_wp2
        exact bodyPost_ret (v := .tuple #[.int .u32 ((c : Int) - 97 + 10), .bool true]) (by simp [results, Try.results44, go_sem]) rfl ⟨ret_pair (show (c : Int) - 97 + 10 = ((c - 87 : Nat) : Int) by omega), rfl⟩
      · rw [if_neg h3]
        by_cases b1 : 48 ≤ c <;> by_cases b2 : 65 ≤ c <;> by_cases b3 : 97 ≤ c
        all_goals (try (exfalso; omega))
        all_goals
          have a1 : (48 ≤ c) = ((48 : Int) ≤ (c : Int)) := propext ⟨fun _ => by omega, fun _ => by omega⟩
          have a2 : (65 ≤ c) = ((65 : Int) ≤ (c : Int)) := propext ⟨fun _ => by omega, fun _ => by omega⟩
          have a3 : (97 ≤ c) = ((97 : Int) ≤ (c : Int)) := propext ⟨fun _ => by omega, fun _ => by omega⟩
          rw [a1] at b1
          rw [a2] at b2
          rw [a3] at b3
          clear a1 a2 a3
        all_goals go_enter Try.func44, Try.ntmps44
        · have a6 : ¬ (c : Int) ≤ 122 := by omega
          have a7 : ¬ (c : Int) ≤ 90 := by omega
          have a8 : ¬ (c : Int) ≤ 57 := by omega
          go_wp2
          exact bodyPost_ret (v := .tuple #[.int .u32 0, .bool false]) (by simp [results, Try.results44, go_sem]) rfl ⟨rfl, rfl⟩
        · have a7 : ¬ (c : Int) ≤ 90 := by omega
          have a8 : ¬ (c : Int) ≤ 57 := by omega
          go_wp2
          exact bodyPost_ret (v := .tuple #[.int .u32 0, .bool false]) (by simp [results, Try.results44, go_sem]) rfl ⟨rfl, rfl⟩
        · have a8 : ¬ (c : Int) ≤ 57 := by omega
          go_wp2
          exact bodyPost_ret (v := .tuple #[.int .u32 0, .bool false]) (by simp [results, Try.results44, go_sem]) rfl ⟨rfl, rfl⟩
        · go_wp2
          exact bodyPost_ret (v := .tuple #[.int .u32 0, .bool false]) (by simp [results, Try.results44, go_sem]) rfl ⟨rfl, rfl⟩

theorem worth_lt (c v : Nat) (hc : c < 256) (h : worthN c = some v) : v < 36 := by
  unfold worthN at h
  split at h
  · injection h; omega
  · split at h
    · injection h; omega
    · split at h
      · injection h; omega
      · cases h

theorem nDigit_any (w : World) (c b : Nat) (hc : c < 256) : Calls Try.prog 24 #[.int .u8 (c : Int), .int .u32 (b : Int)] w fun e w' => e = .returned (.tuple #[.int .u32 (((digN b c).getD 0 : Nat) : Int), .bool (digN b c).isSome]) ∧ w = w' := by
  have HV := Lib.hid (nValueOf_any w c hc)
  have HB := Lib.hid (nIsBase_any w b)
  unfold digN
  cases hv : worthN c with
  | none =>
    rw [hv] at HV
    go_enter Try.func24, Try.ntmps24
    go_wp2_with (go_at_call 44; refine HV.out.mono ?_; rintro e w' ⟨rfl, rfl⟩)
    exact bodyPost_ret (v := .tuple #[.int .u32 0, .bool false]) (by simp [results, Try.results24, go_sem]) rfl ⟨rfl, rfl⟩
  | some v =>
    rw [hv] at HV
    have hv36 := worth_lt c v hc hv
    simp only [Option.bind]
    by_cases hb : 2 ≤ b ∧ b ≤ 36
    · rw [decide_eq_true hb] at HB
      by_cases hlt : v < b
      · rw [if_pos ⟨hb.1, hb.2, hlt⟩]
        have hge : decide (b ≤ v) = false := decide_eq_false (by omega)
        have hge2 : decide ((b : Int) ≤ (v : Int)) = false := decide_eq_false (by omega)
        clear hb hlt hv
        go_enter Try.func24, Try.ntmps24
        go_wp2_with (first
          | (go_at_call 44; refine HV.out.mono ?_; rintro e w' ⟨rfl, rfl⟩)
          | (go_at_call 45; refine HB.out.mono ?_; rintro e w' ⟨rfl, rfl⟩))
        exact bodyPost_ret (v := .tuple #[.int .u32 (v : Int), .bool true]) (by simp [results, Try.results24, go_sem]) rfl ⟨rfl, rfl⟩
      · rw [if_neg (fun h => hlt h.2.2)]
        have hge : decide (b ≤ v) = true := decide_eq_true (by omega)
        have hge2 : decide ((b : Int) ≤ (v : Int)) = true := decide_eq_true (by omega)
        clear hb hlt hv
        go_enter Try.func24, Try.ntmps24
        go_wp2_with (first
          | (go_at_call 44; refine HV.out.mono ?_; rintro e w' ⟨rfl, rfl⟩)
          | (go_at_call 45; refine HB.out.mono ?_; rintro e w' ⟨rfl, rfl⟩))
        exact bodyPost_ret (v := .tuple #[.int .u32 0, .bool false]) (by simp [results, Try.results24, go_sem]) rfl ⟨rfl, rfl⟩
    · rw [decide_eq_false hb] at HB
      rw [if_neg (fun h => hb ⟨h.1, h.2.1⟩)]
      clear hb hv
      go_enter Try.func24, Try.ntmps24
      go_wp2_with (first
        | (go_at_call 44; refine HV.out.mono ?_; rintro e w' ⟨rfl, rfl⟩)
        | (go_at_call 45; refine HB.out.mono ?_; rintro e w' ⟨rfl, rfl⟩))
      exact bodyPost_ret (v := .tuple #[.int .u32 0, .bool false]) (by simp [results, Try.results24, go_sem]) rfl ⟨rfl, rfl⟩

end Go.Proofs.Ytfnjjanknfmibaa
