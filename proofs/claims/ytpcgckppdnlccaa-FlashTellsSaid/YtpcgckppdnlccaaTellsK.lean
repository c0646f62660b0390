/-
  FlashTells, walked: sectors that may not be, and those that are let by.
-/
import Derived.Test.YtpcgckppdnlccaaTellsJ
import Derived.Test.YtpcgckppdnlccaaAwakeB
namespace Go.Proofs.Ytpcgckppdnlccaa
open Go.RowKit Go.Deep

set_option maxRecDepth 100000 in
set_option maxHeartbeats 2000000 in
theorem FlashTells_aside (w : World) (n : Int) (v : Value) (h1 : 12 < n) (h2 : n ≤ 256) :
    Calls Try.prog 3 #[.int .i64 n, v] w fun e w' => e = .returned (.bool true) ∧ Keeps [] w w' := by
  go_enter Try.func3, Try.ntmps3
  go_wp2_with (go_at_call 10; refine (awake_any _).mono ?_; rintro e w1 ⟨rfl, k1⟩; have K1 := Lib.hid k1; clear k1)
  go_ret
  exact ⟨rfl, K1.out⟩

set_option maxRecDepth 100000 in
set_option maxHeartbeats 2000000 in
theorem FlashTells_bad (w : World) (n : Int) (v : Value) (h : n < 8 ∨ 256 < n) :
    Calls Try.prog 3 #[.int .i64 n, v] w fun e w' => e = .returned (.bool true) ∧ Keeps [] w w' := by
  have HN := Lib.hid h
  by_cases h12 : 12 < n
  · have h256 : decide (n ≤ 256) = false := by apply decide_eq_false; omega
    clear h
    go_enter Try.func3, Try.ntmps3
    go_wp2_with (first | (go_at_call 11; refine (New_bad _ _ HN.out).mono ?_; rintro e w' ⟨rfl, rfl⟩) | (go_at_call 12; refine (RNew_bad _ _ HN.out).mono ?_; rintro e w' ⟨rfl, rfl⟩) | (go_at_call 10; refine (awake_any _).mono ?_; rintro e w1 ⟨rfl, k1⟩; have K1 := Lib.hid k1; clear k1))
    go_ret
    exact ⟨rfl, K1.out⟩
  · have h12' : decide (12 < n) = false := decide_eq_false h12
    clear h
    go_enter Try.func3, Try.ntmps3
    go_wp2_with (first | (go_at_call 11; refine (New_bad _ _ HN.out).mono ?_; rintro e w' ⟨rfl, rfl⟩) | (go_at_call 12; refine (RNew_bad _ _ HN.out).mono ?_; rintro e w' ⟨rfl, rfl⟩) | (go_at_call 10; refine (awake_any _).mono ?_; rintro e w1 ⟨rfl, k1⟩; have K1 := Lib.hid k1; clear k1))
    go_ret
    exact ⟨rfl, K1.out⟩

theorem FlashAt.anyMask {w : World} {F B W M : Nat} {s : FS} (h : FlashAt w F B W M s) (hm : s.mask = []) (M' : Nat) (hM : M' ≠ F ∧ M' ≠ B ∧ M' ≠ W) : FlashAt w F B W M' s := by
  obtain ⟨cb, cw, mv, f, b, c, m⟩ := h.here
  rw [hm] at m
  exact { h with nM := hM, here := ⟨cb, cw, mv, f, b, c, by rw [hm]; exact m.anyBlock _⟩ }

/-- Both are made. -/
theorem both_new {w1 w2 : World} {F B W M R C V N n : Nat} (h1 : FlashAt w1 F B W M (FS.new n)) (k : Keeps [] w1 w2) (h2 : RefAt w2 R C V N (FS.new n) []) (gR : w1.heap.size ≤ R) (gC : w1.heap.size ≤ C) (gV : w1.heap.size ≤ V) (gN : w1.heap.size ≤ N) :
    ∃ M', Both w2 F B W M' R C V N (FS.new n) [] := by
  have l1 := h1.lt
  have f2 := h1.keeps k (by simp) (by simp) (by simp) (by simp)
  refine ⟨F + B + W + R + C + V + 1, { f := f2.anyMask rfl _ ⟨by omega, by omega, by omega⟩, r := h2, aF := ⟨by omega, by omega, by omega⟩, aB := ⟨by omega, by omega, by omega⟩, aW := ⟨by omega, by omega, by omega⟩, aM := ⟨by omega, by omega, by omega⟩, aN := ⟨by omega, by omega, by omega⟩ }⟩

theorem RefAt.anyMask {w : World} {R C W M : Nat} {s : FS} (h : RefAt w R C W M s []) (M' : Nat) (hM : M' ≠ R ∧ M' ≠ C ∧ M' ≠ W) : RefAt w R C W M' s [] := by
  obtain ⟨cb, cw, mv, f, b, c, m⟩ := h.here
  exact { h with nM := hM, here := ⟨cb, cw, mv, f, b, c, m.anyBlock _⟩ }

theorem Reads.old {w : World} {v : Value} {l : List UInt8} {M : Nat} (h : Reads w v l M) (hl : l ≠ []) : M < w.heap.size := by
  obtain ⟨off, cap, _, _, hc⟩ := h.at hl
  have h0 : 0 < l.length := List.length_pos_iff.2 hl
  exact World.block_lt_of_cell? w _ (hc 0 l[0] (List.getElem?_eq_getElem h0))

/-- Masks that have no bytes lie wherever they are wanted. -/
theorem Both.away {w : World} {F B W M R C V N : Nat} {s : FS} {ms : List UInt8} (h : Both w F B W M R C V N s ms) (O O' : Nat) (hO : w.heap.size ≤ O) (hO' : w.heap.size ≤ O') :
    ∃ M' N', Both w F B W M' R C V N' s ms ∧ M' ≠ O ∧ M' ≠ O' ∧ N' ≠ O ∧ N' ≠ O' := by
  have hf : ∃ M', FlashAt w F B W M' s ∧ (M' ≠ R ∧ M' ≠ C ∧ M' ≠ V) ∧ M' ≠ O ∧ M' ≠ O' := by
    by_cases hm : s.mask = []
    · exact ⟨F + B + W + R + C + V + O + O' + 1, h.f.anyMask hm _ ⟨by omega, by omega, by omega⟩, ⟨by omega, by omega, by omega⟩, by omega, by omega⟩
    · obtain ⟨_, _, _, _, _, _, m⟩ := h.f.here
      have := m.old hm
      exact ⟨M, h.f, h.aM, by omega, by omega⟩
  have hr : ∃ N', RefAt w R C V N' s ms ∧ (N' ≠ F ∧ N' ≠ B ∧ N' ≠ W) ∧ N' ≠ O ∧ N' ≠ O' := by
    by_cases hm : ms = []
    · subst hm
      exact ⟨F + B + W + R + C + V + O + O' + 1, h.r.anyMask _ ⟨by omega, by omega, by omega⟩, ⟨by omega, by omega, by omega⟩, by omega, by omega⟩
    · obtain ⟨_, _, _, _, _, _, m⟩ := h.r.here
      have := m.old hm
      exact ⟨N, h.r, h.aN, by omega, by omega⟩
  obtain ⟨M', f1, f2, f3, f4⟩ := hf
  obtain ⟨N', r1, r2, r3, r4⟩ := hr
  exact ⟨M', N', { h with f := f1, r := r1, aM := f2, aN := r2 }, f3, f4, r3, r4⟩

theorem wear_new (n : Nat) : WearB (FS.new n) 0 := by
  intro x hx
  have : x = 0 := List.eq_of_mem_replicate hx
  subst this
  exact ⟨Int.le_refl _, Int.le_refl _⟩
end Go.Proofs.Ytpcgckppdnlccaa
