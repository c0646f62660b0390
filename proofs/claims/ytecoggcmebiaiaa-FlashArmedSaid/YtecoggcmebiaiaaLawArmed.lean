/-
  FlashArmed: what the walk needs.
-/
import Derived.Test.YtecoggcmebiaiaaLawCopy
namespace Go.Proofs.Ytecoggcmebiaiaa
open Go.RowKit Go.Deep

/-- A flash of eight sectors that was armed with many, of which done were asked for; no sector was erased more than k times. -/
structure Arm8 (s : FS) (many done k : Nat) : Prop where
  len : s.bs.length = 2048
  wlen : s.wear.length = 8
  wear : ∀ x ∈ s.wear, 0 ≤ x ∧ x ≤ k
  on : done ≤ many → s.down = false ∧ s.armed = true ∧ s.left = (many : Int) - done
  off : many < done → s.down = true

theorem Arm8.down {s : FS} {many done k : Nat} (h : Arm8 s many done k) : s.down = decide (many < done) := by
  by_cases hd : many < done
  · rw [h.off hd]; simp [hd]
  · rw [(h.on (by omega)).1]; simp [hd]

theorem Arm8.more {s : FS} {many done k k' : Nat} (h : Arm8 s many done k) (hk : k ≤ k') : Arm8 s many done k' :=
  ⟨h.len, h.wlen, fun x hx => ⟨(h.wear x hx).1, by have := (h.wear x hx).2; omega⟩, h.on, h.off⟩

theorem Arm8.small {s : FS} {many done k : Nat} (h : Arm8 s many done k) (hk : k ≤ 1000) : ∀ x ∈ s.wear, 0 ≤ x ∧ x < 9223372036854775807 :=
  fun x hx => ⟨(h.wear x hx).1, by have := (h.wear x hx).2; omega⟩

theorem Arm8.let {s : FS} {many done k : Nat} (h : Arm8 s many done k) (hd : done ≤ many) (a n : Nat) (g : UInt8 → Nat → UInt8 → UInt8) :
    Arm8 (s.let a n g).1 many (done + 1) k ∧ (s.let a n g).2 = if done < many then 0 else 12 := by
  obtain ⟨h1, h2, h3⟩ := h.on hd
  by_cases hlt : done < many
  · rw [FS.let_spend h2 (by omega), if_pos hlt]
    exact ⟨⟨by show (span _ _ _ _).length = _; rw [span_length, h.len], h.wlen, h.wear, fun _ => ⟨h1, h2, by show s.left - 1 = _; omega⟩, fun q => by omega⟩, rfl⟩
  · rw [FS.let_torn h2 (by omega), if_neg hlt]
    exact ⟨⟨by dsimp only; rw [span_length, h.len], h.wlen, h.wear, fun q => by omega, fun _ => rfl⟩, rfl⟩

theorem Arm8.program {s : FS} {many done k : Nat} (h : Arm8 s many done k) (a : Nat) (b : List UInt8) (ha : a % 4 = 0) (hb : b.length % 4 = 0) (hl : a + b.length ≤ 2048) (hn : b ≠ []) :
    ∃ s', s.program a b = (s', if done < many then 0 else 12) ∧ Arm8 s' many (done + 1) k := by
  by_cases hd : done ≤ many
  · obtain ⟨h1, _, _⟩ := h.on hd
    have hm : s.mayProgram a b.length = 0 := FS.mayProgram_ok h1 (by unfold FS.has; rw [h.len]; omega) (by omega) (by omega)
    obtain ⟨q1, q2⟩ := h.let hd (a : Int).toNat b.length (gClear b)
    exact ⟨_, by rw [FS.program_let hm hn, ← q2], q1⟩
  · have hdn := h.off (by omega)
    refine ⟨s, ?_, h.len, h.wlen, h.wear, fun q => by omega, fun _ => hdn⟩
    rw [FS.program_no (e := 12) (by unfold FS.mayProgram; rw [if_pos hdn]) (by decide), if_neg (by omega)]

theorem Arm8.erase {s : FS} {many done k : Nat} (h : Arm8 s many done k) (a : Nat) (ha : a < 8) :
    ∃ s', s.erase a = (s', if done < many then 0 else 12) ∧ Arm8 s' many (done + 1) (k + 1) := by
  by_cases hd : done ≤ many
  · obtain ⟨h1, h2, h3⟩ := h.on hd
    have hget : s.wear.getD a 0 ∈ s.wear := by
      have hal : a < s.wear.length := by rw [h.wlen]; exact ha
      rw [List.getD_eq_getElem?_getD, List.getElem?_eq_getElem hal]
      exact List.getElem_mem _
    have h' : Arm8 { s with wear := s.wear.set a (s.wear.getD a 0 + 1) } many done (k + 1) :=
      ⟨h.len, by simpa using h.wlen, fun x hx => by
        rcases List.mem_or_eq_of_mem_set hx with q | q
        · have := h.wear x q; omega
        · have := h.wear _ hget; omega, h.on, h.off⟩
    obtain ⟨q1, q2⟩ := h'.let hd (a * 256) 256 gSet
    refine ⟨_, ?_, q1⟩
    rw [FS.erase_let h1 (by rw [h.wlen]; omega), ← q2]
    rfl
  · have hdn := h.off (by omega)
    refine ⟨s, ?_, h.len, h.wlen, fun x hx => by have := h.wear x hx; omega, fun q => by omega, fun _ => hdn⟩
    unfold FS.erase
    have he : s.mayErase a = 12 := by unfold FS.mayErase; rw [if_pos hdn]
    rw [he, if_pos (by decide), if_neg (by omega)]

theorem Arm8.refused {s : FS} {many done k : Nat} (h : Arm8 s many done k) : ∃ e, s.program 2 [0, 0, 0, 0] = (s, e) ∧ (e == 0) = false := by
  by_cases hd : done ≤ many
  · obtain ⟨h1, _, _⟩ := h.on hd
    exact ⟨11, FS.program_no (FS.mayProgram_align h1 (by unfold FS.has; rw [h.len]; decide) (by decide)) (by decide), rfl⟩
  · have hdn := h.off (by omega)
    exact ⟨12, FS.program_no (by unfold FS.mayProgram; rw [if_pos hdn]) (by decide), rfl⟩

theorem Arm8.refusedErase {s : FS} {many done k : Nat} (h : Arm8 s many done k) : ∃ e, s.erase 8 = (s, e) ∧ (e == 0) = false := by
  by_cases hd : done ≤ many
  · obtain ⟨h1, _, _⟩ := h.on hd
    have he : s.mayErase 8 = 10 := by unfold FS.mayErase; rw [if_neg (by simp [h1]), if_pos (by rw [h.wlen]; decide)]
    exact ⟨10, by unfold FS.erase; rw [he, if_pos (by decide)], rfl⟩
  · have hdn := h.off (by omega)
    have he : s.mayErase 8 = 12 := by unfold FS.mayErase; rw [if_pos hdn]
    exact ⟨12, by unfold FS.erase; rw [he, if_pos (by decide)], rfl⟩

theorem downErase {s : FS} (h : s.down = true) (a : Int) : s.erase a = (s, 12) := by
  have he : s.mayErase a = 12 := by unfold FS.mayErase; rw [if_pos h]
  unfold FS.erase; rw [he, if_pos (by decide)]

theorem arm8_start (many : Nat) : Arm8 ((FS.new 8).arm many []) many 0 0 :=
  ⟨start_new.len, rfl, by show ∀ x ∈ ([0, 0, 0, 0, 0, 0, 0, 0] : List Int), _; decide, fun _ => ⟨rfl, rfl, by show (many : Int) = _; omega⟩, fun h => by omega⟩

/-- A flash of eight sectors, on, and not armed, no sector erased more than k times. -/
structure On8 (s : FS) (k : Nat) : Prop where
  len : s.bs.length = 2048
  wlen : s.wear.length = 8
  wear : ∀ x ∈ s.wear, 0 ≤ x ∧ x ≤ k
  down : s.down = false
  armed : s.armed = false

theorem Arm8.up {s : FS} {many done k : Nat} (h : Arm8 s many done k) : On8 s.up k := ⟨h.len, h.wlen, h.wear, rfl, rfl⟩

theorem On8.erase {s : FS} {k : Nat} (h : On8 s k) (a : Nat) (ha : a < 8) : ∃ s', s.erase a = (s', 0) ∧ On8 s' (k + 1) := by
  have hget : s.wear.getD a 0 ∈ s.wear := by
    have hal : a < s.wear.length := by rw [h.wlen]; exact ha
    rw [List.getD_eq_getElem?_getD, List.getElem?_eq_getElem hal]
    exact List.getElem_mem _
  refine ⟨{ s with wear := s.wear.set a (s.wear.getD a 0 + 1), bs := span s.bs (a * 256) 256 (gSet 255) }, ?_, by show (span _ _ _ _).length = _; rw [span_length, h.len], by simpa using h.wlen, fun x hx => ?_, h.down, h.armed⟩
  · rw [FS.erase_let h.down (by rw [h.wlen]; omega), FS.let_whole]
    · rfl
    · exact h.armed
  · rcases List.mem_or_eq_of_mem_set hx with q | q
    · have := h.wear x q; omega
    · have := h.wear _ hget; omega
theorem On8.small {s : FS} {k : Nat} (h : On8 s k) (hk : k ≤ 1000) : ∀ x ∈ s.wear, 0 ≤ x ∧ x < 9223372036854775807 :=
  fun x hx => ⟨(h.wear x hx).1, by have := (h.wear x hx).2; omega⟩
end Go.Proofs.Ytecoggcmebiaiaa
