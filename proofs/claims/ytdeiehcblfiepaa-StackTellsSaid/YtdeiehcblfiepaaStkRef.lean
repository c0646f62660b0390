/-
  The document's stack: what its functions answer.
-/
import Derived.Test.YtdeiehcblfiepaaStkBackA
namespace Go.Proofs.Ytdeiehcblfiepaa
open Go.RowKit
set_option linter.unusedVariables false

section
variable {most over under : Int} {l : List (BitVec 32)}

set_option maxRecDepth 100000 in
set_option maxHeartbeats 2000000 in
theorem r8Peek_any (w : World) (a : Option Addr) (c : Nat) (M o : Nat) (h : UReads w (.slice a l.length c) l M o) (hl : l.length ≤ 4096) (hu : -2147483648 ≤ under ∧ under < 0) (i : Int) :
    Calls Try.prog 16 #[.agg #[.slice a l.length c, .int .i64 most, .int .i32 over, .int .i32 under], .int .i64 i] w fun e w' => e = .returned (.tuple #[uv (peekX l i), .int .i32 (peekT l i under)]) ∧ Keeps [] w w' := by
  obtain ⟨hu1, hu2⟩ := hu
  unfold peekX peekT
  by_cases hi : 0 ≤ i ∧ i < l.length
  · rw [if_pos hi, if_pos hi]
    obtain ⟨h0, h1⟩ := hi
    obtain ⟨k, rfl⟩ := Int.eq_ofNat_of_zero_le h0
    have hk : k < l.length := by omega
    obtain ⟨c', e1, _, hc⟩ := h.cells (by intro e; simp [e] at hk)
    injection e1 with e1 _ e2
    subst e1 e2
    have hp : l.length - 1 - k < l.length := by omega
    have q := hc (l.length - 1 - k) (l.getD (l.length - 1 - k) 0#32) (by rw [List.getD_eq_getElem?_getD, List.getElem?_eq_getElem hp]; rfl)
    rw [Int.toNat_natCast]
    generalize l.getD (l.length - 1 - k) 0#32 = x at *
    obtain ⟨p, hpe⟩ : ∃ p, p = l.length - 1 - k := ⟨_, rfl⟩
    rw [← hpe] at q hp
    have hpi : (l.length : Int) - 1 - (k : Int) = (p : Int) := by omega
    have hMl := h.lt (by intro e; simp [e] at hk)
    clear h hc hpe
    generalize l.length = n at *
    unfold uv at *
    generalize (x.toNat : Int) = y at *
    go_enter Try.func16, Try.ntmps16
    go_wp2
    go_ret2
    exact ⟨rfl, Keeps.alloc [] _ _⟩
  · rw [if_neg hi, if_neg hi]
    clear h
    generalize l.length = n at *
    by_cases h0 : i < 0
    · clear hi
      go_enter Try.func16, Try.ntmps16
      go_wp2_with (first | go_quiet (fail))
      go_ret2
      exact ⟨rfl, (Keeps.alloc [] _ _).trans (Keeps.drewN _ _ _)⟩
    · have h1 : (n : Int) ≤ i := by omega
      clear hi
      go_enter Try.func16, Try.ntmps16
      go_wp2_with (first | go_quiet (fail))
      go_ret2
      exact ⟨rfl, (Keeps.alloc [] _ _).trans (Keeps.drewN _ _ _)⟩

set_option maxRecDepth 100000 in
set_option maxHeartbeats 4000000 in
theorem r8May_any (w : World) (a : Option Addr) (c : Nat) (hl : (l.length : Int) ≤ most) (hm : most ≤ 4096) (takes gives : Int) (t0 : -9223372036854775808 ≤ takes) (t1 : takes ≤ 9223372036854775807) (g0 : -9223372036854775808 ≤ gives) (g1 : gives ≤ 9223372036854775807) :
    Calls Try.prog 25 #[.agg #[.slice a l.length c, .int .i64 most, .int .i32 over, .int .i32 under], .int .i64 takes, .int .i64 gives] w fun e w' => e = .returned (.int .i32 (mayT most over under l takes gives)) ∧ Keeps [] w w' := by
  unfold mayT
  generalize l.length = n at *
  obtain ⟨A, hA⟩ : ∃ A, A = max takes 0 := ⟨_, rfl⟩
  obtain ⟨B, hB⟩ : ∃ B, B = max gives 0 := ⟨_, rfl⟩
  have a0 : 0 ≤ A ∧ A ≤ 9223372036854775807 ∧ (takes < 0 ∧ A = 0 ∨ 0 ≤ takes ∧ A = takes) := by omega
  have b0 : 0 ≤ B ∧ B ≤ 9223372036854775807 ∧ (gives < 0 ∧ B = 0 ∨ 0 ≤ gives ∧ B = gives) := by omega
  rw [← hA, ← hB]
  clear hA hB
  obtain ⟨a0, a1, a2⟩ := a0
  obtain ⟨b0, b1, b2⟩ := b0
  rcases a2 with ⟨a2, rfl⟩ | ⟨a2, e2⟩
  · rcases b2 with ⟨b2, rfl⟩ | ⟨b2, e3⟩
    · by_cases h1 : (n : Int) < 0
      · rw [if_pos h1]
        first
        | (exfalso; omega)
        | (go_enter Try.func25, Try.ntmps25
           go_wp2
           go_ret
           exact ⟨rfl, Keeps.alloc [] _ _⟩)
      · rw [if_neg h1]
        by_cases h2 : most - n < 0 - 0
        · have h3 : most - ((n : Int) - 0) < 0 := by omega
          rw [if_pos h2]
          first
          | (exfalso; omega)
          | (clear h2
             go_enter Try.func25, Try.ntmps25
             go_wp2
             go_ret
             exact ⟨rfl, Keeps.alloc [] _ _⟩)
        · have h3 : 0 ≤ most - ((n : Int) - 0) := by omega
          rw [if_neg h2]
          clear h2
          go_enter Try.func25, Try.ntmps25
          go_wp2
          go_ret
          exact ⟨rfl, Keeps.alloc [] _ _⟩
    · subst e3
      by_cases h1 : (n : Int) < 0
      · rw [if_pos h1]
        first
        | (exfalso; omega)
        | (go_enter Try.func25, Try.ntmps25
           go_wp2
           go_ret
           exact ⟨rfl, Keeps.alloc [] _ _⟩)
      · rw [if_neg h1]
        by_cases h2 : most - n < B - 0
        · have h3 : most - ((n : Int) - 0) < B := by omega
          rw [if_pos h2]
          first
          | (exfalso; omega)
          | (clear h2
             go_enter Try.func25, Try.ntmps25
             go_wp2
             go_ret
             exact ⟨rfl, Keeps.alloc [] _ _⟩)
        · have h3 : B ≤ most - ((n : Int) - 0) := by omega
          rw [if_neg h2]
          clear h2
          go_enter Try.func25, Try.ntmps25
          go_wp2
          go_ret
          exact ⟨rfl, Keeps.alloc [] _ _⟩
  · subst e2
    rcases b2 with ⟨b2, rfl⟩ | ⟨b2, e3⟩
    · by_cases h1 : (n : Int) < A
      · rw [if_pos h1]
        first
        | (exfalso; omega)
        | (go_enter Try.func25, Try.ntmps25
           go_wp2
           go_ret
           exact ⟨rfl, Keeps.alloc [] _ _⟩)
      · rw [if_neg h1]
        by_cases h2 : most - n < 0 - A
        · have h3 : most - ((n : Int) - A) < 0 := by omega
          rw [if_pos h2]
          first
          | (exfalso; omega)
          | (clear h2
             go_enter Try.func25, Try.ntmps25
             go_wp2
             go_ret
             exact ⟨rfl, Keeps.alloc [] _ _⟩)
        · have h3 : 0 ≤ most - ((n : Int) - A) := by omega
          rw [if_neg h2]
          clear h2
          go_enter Try.func25, Try.ntmps25
          go_wp2
          go_ret
          exact ⟨rfl, Keeps.alloc [] _ _⟩
    · subst e3
      by_cases h1 : (n : Int) < A
      · rw [if_pos h1]
        first
        | (exfalso; omega)
        | (go_enter Try.func25, Try.ntmps25
           go_wp2
           go_ret
           exact ⟨rfl, Keeps.alloc [] _ _⟩)
      · rw [if_neg h1]
        by_cases h2 : most - n < B - A
        · have h3 : most - ((n : Int) - A) < B := by omega
          rw [if_pos h2]
          first
          | (exfalso; omega)
          | (clear h2
             go_enter Try.func25, Try.ntmps25
             go_wp2
             go_ret
             exact ⟨rfl, Keeps.alloc [] _ _⟩)
        · have h3 : B ≤ most - ((n : Int) - A) := by omega
          rw [if_neg h2]
          clear h2
          go_enter Try.func25, Try.ntmps25
          go_wp2
          go_ret
          exact ⟨rfl, Keeps.alloc [] _ _⟩
end
end Go.Proofs.Ytdeiehcblfiepaa
