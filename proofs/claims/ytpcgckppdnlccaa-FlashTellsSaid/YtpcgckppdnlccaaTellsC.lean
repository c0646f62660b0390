/-
  Contract: the document's Program, for whatever it is given.
-/
import Derived.Test.YtpcgckppdnlccaaTellsB
namespace Go.Proofs.Ytpcgckppdnlccaa
open Go.RowKit Go.Deep

set_option maxHeartbeats 1000000 in
/-- What it answers when it does nothing. -/
theorem RProgram_no {R C W M : Nat} {s : FS} {ms : List UInt8} (w : World) (h : RefAt w R C W M s ms) (a : Int) (ao : Option Addr) (n cap : Nat) (hn : n ≤ 9223372036854775807) (hno : s.mayProgram a n ≠ 0 ∨ n = 0) :
    Calls Try.prog 33 #[.pointer (some ⟨R, 0, none⟩), .int .i64 a, .slice ao n cap] w fun e w' => e = .returned (.int .i64 (s.mayProgram a n)) ∧ w = w' := by
  obtain ⟨cc, cw, mv, c0, c1, c2, c3, c4, cf, rC, rW, rM⟩ := h.cells
  have hlen := h.len
  have hfew := h.few
  have hbs : s.bs.length ≤ 65536 := by omega
  have hth := Rthere_any w h a n
  clear cf rC rW rM h hlen c0 c1 c2 c3
  cases hd : s.down with
  | true =>
    rw [hd] at c4
    have Hr := Lib.hid (show s.mayProgram a n = 12 by simp [FS.mayProgram, hd])
    clear hd hth hno
    go_enter Try.func33, Try.ntmps33
    go_wp2
    go_ret
    exact ⟨by rw [Hr.out]; rfl, rfl⟩
  | false =>
    rw [hd] at c4
    by_cases hh : s.has a n
    · rw [decide_eq_true hh] at hth
      have HTH := Lib.hid hth
      obtain ⟨h0, h1, h2⟩ := id hh
      have hta : a.tmod 4 = a % 4 := Int.tmod_eq_emod_of_nonneg h0
      have htn : (n : Int).tmod 4 = (n : Int) % 4 := Int.tmod_eq_emod_of_nonneg h1
      by_cases ha : a % 4 = 0
      · by_cases hb : (n : Int) % 4 = 0
        · have hr : s.mayProgram a n = 0 := by simp [FS.mayProgram, hd, hh, ha, hb]
          have hn0 : n = 0 := by rcases hno with q | q; exact absurd hr q; exact q
          subst hn0
          have Hr := Lib.hid hr
          rw [ha] at hta
          clear hd ha hb hth hno hr htn hh
          go_enter Try.func33, Try.ntmps33
          go_wp2_with (first | (go_at_call 52; refine HTH.out.mono ?_; rintro e w' ⟨rfl, rfl⟩) | fail)
          go_ret
          exact ⟨by rw [Hr.out]; rfl, rfl⟩
        · have Hr := Lib.hid (show s.mayProgram a n = 11 by simp [FS.mayProgram, hd, hh, hb])
          have hb' : ((n : Int) % 4 != 0) = true := by simp [hb]
          rw [ha] at hta
          clear hd ha hb hth hno htn hh
          go_enter Try.func33, Try.ntmps33
          go_wp2_with (first | (go_at_call 52; refine HTH.out.mono ?_; rintro e w' ⟨rfl, rfl⟩) | fail)
          go_ret
          exact ⟨by rw [Hr.out]; rfl, rfl⟩
      · have Hr := Lib.hid (show s.mayProgram a n = 11 by simp [FS.mayProgram, hd, hh, ha])
        have ha' : (a % 4 != 0) = true := by simp [ha]
        clear hd ha hth hno htn hta hh
        go_enter Try.func33, Try.ntmps33
        go_wp2_with (first | (go_at_call 52; refine HTH.out.mono ?_; rintro e w' ⟨rfl, rfl⟩) | fail)
        go_ret
        exact ⟨by rw [Hr.out]; rfl, rfl⟩
    · rw [decide_eq_false hh] at hth
      have HTH := Lib.hid hth
      have Hr := Lib.hid (show s.mayProgram a n = 10 by simp [FS.mayProgram, hd, hh])
      clear hd hth hno hh
      go_enter Try.func33, Try.ntmps33
      go_wp2_with (first | (go_at_call 52; refine HTH.out.mono ?_; rintro e w' ⟨rfl, rfl⟩) | fail)
      go_ret
      exact ⟨by rw [Hr.out]; rfl, rfl⟩

theorem RProgram_any {R C W M : Nat} {s : FS} {ms : List UInt8} (w : World) (h : RefAt w R C W M s ms) (a : Int) (v : Value) (b : List UInt8) (Mb : Nat) (hr : Reads w v b Mb) (hM : Mb ≠ R ∧ Mb ≠ C) (hb : b.length ≤ 9223372036854775807) :
    Calls Try.prog 33 #[.pointer (some ⟨R, 0, none⟩), .int .i64 a, v] w
      fun e w' => e = .returned (.int .i64 (s.program a b).2) ∧ RefAt w' R C W M (s.program a b).1 ms ∧ Keeps [R, C] w w' := by
  by_cases hno : s.mayProgram a b.length ≠ 0 ∨ b = []
  · obtain ⟨ao, cap, rfl⟩ := readsShape hr
    have hp : s.program a b = (s, s.mayProgram a b.length) := by unfold FS.program; rw [if_pos hno]
    rw [hp]
    exact (RProgram_no w h a ao b.length cap hb (by rcases hno with q | q; exact .inl q; rw [q]; exact .inr rfl)).mono fun _ w' q => ⟨q.1, q.2 ▸ h, q.2 ▸ Keeps.refl _ _⟩
  · have h0 : s.mayProgram a b.length = 0 := Decidable.not_not.1 fun q => hno (.inl q)
    have hnil : b ≠ [] := fun q => hno (.inr q)
    have hp : s.program a b = s.let a.toNat b.length (gClear b) := by unfold FS.program; rw [if_neg hno]
    rw [hp]
    obtain ⟨off, cap', hv, _, hc⟩ := hr.at hnil
    obtain ⟨_, ha, _, _⟩ := FS.mayProgram_zero h0
    obtain ⟨A, rfl⟩ := Int.eq_ofNat_of_zero_le ha
    rw [hv]
    exact RProgram_some w h A Mb off b.length cap' b rfl (by cases b with | nil => exact absurd rfl hnil | cons _ _ => simp) h0 hc hM
end Go.Proofs.Ytpcgckppdnlccaa
