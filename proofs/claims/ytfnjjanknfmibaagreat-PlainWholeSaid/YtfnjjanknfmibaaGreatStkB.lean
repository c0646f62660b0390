/-
  Stacks of cells: May, Peek, Pop, Cut, All, Push.
-/
import Derived.Test.YtfnjjanknfmibaaGreatStkA
namespace Go.Proofs.YtfnjjanknfmibaaGreat
open Go.RowKit
set_option linter.unusedVariables false

section
variable {w : World} {base g : Nat} {most over under : Int} {v : Value} {l : List (BitVec 32)}

theorem run_maxI (w : World) (ts : Array TypeId) (t : TypeId) (a b m : Int) (h : m = max a b) :
    (Builtin.max_ ts t #[.int .i64 a, .int .i64 b]).run Tryz.prog w = .ok (.int .i64 m) w := by
  rw [run_max_int2, h]
  congr 2
  rw [Int.max_def]
  split <;> split <;> omega

set_option maxRecDepth 100000 in
set_option maxHeartbeats 1000000 in
theorem May_at (h : StackAt w base g most over under v l) (takes gives : Int) (t1 : takes ≤ 9223372036854775807) (g1 : gives ≤ 9223372036854775807) :
    Calls Tryz.prog 21 #[.pointer (some ⟨g, 0, none⟩), .int .i64 takes, .int .i64 gives] w fun e w' => e = .returned (.int .i32 (mayT most over under l takes gives)) ∧ Keeps [] w w' := by
  have c0 := h.cell 0 _ rfl
  have c1 := h.cell 1 _ rfl
  have c2 := h.cell 2 _ rfl
  have c3 := h.cell 3 _ rfl
  have c4 := h.cell 4 _ rfl
  have hf := h.fits
  have hm := h.most2
  have hm1 := h.most1
  obtain ⟨a, cap, rfl, _⟩ := h.shape
  clear h
  unfold mayT
  generalize l.length = n at *
  obtain ⟨A, hA⟩ : ∃ A, A = max takes 0 := ⟨_, rfl⟩
  obtain ⟨B, hB⟩ : ∃ B, B = max gives 0 := ⟨_, rfl⟩
  have mA := fun w ts t => run_maxI w ts t takes 0 A hA
  have mB := fun w ts t => run_maxI w ts t gives 0 B hB
  have a0 : 0 ≤ A ∧ A ≤ 9223372036854775807 := by omega
  have b0 : 0 ≤ B ∧ B ≤ 9223372036854775807 := by omega
  rw [← hA, ← hB]
  clear hA hB
  obtain ⟨a0, a1⟩ := a0
  obtain ⟨b0, b1⟩ := b0
  by_cases h1 : (n : Int) < A
  · rw [if_pos h1]
    go_enter Tryz.func21, Tryz.ntmps21
    go_wp2_with (first | (go_at_call 15; refine (made_at _ _ c0).mono ?_; rintro e w' ⟨rfl, rfl⟩))
    go_ret
    exact ⟨rfl, Keeps.refl _ _⟩
  · rw [if_neg h1]
    by_cases h2 : most - n < B - A
    · rw [if_pos h2]
      go_enter Tryz.func21, Tryz.ntmps21
      go_wp2_with (first | (go_at_call 15; refine (made_at _ _ c0).mono ?_; rintro e w' ⟨rfl, rfl⟩) | go_quiet (fail))
      go_ret
      exact ⟨rfl, Keeps.drewN _ _ _⟩
    · rw [if_neg h2]
      go_enter Tryz.func21, Tryz.ntmps21
      go_wp2_with (first | (go_at_call 15; refine (made_at _ _ c0).mono ?_; rintro e w' ⟨rfl, rfl⟩) | go_quiet (fail))
      go_ret
      exact ⟨rfl, Keeps.drewN _ _ _⟩

theorem May_not (w : World) (p : Option Addr) (h : NotStack w p) (a b : Int) : Calls Tryz.prog 21 #[.pointer p, .int .i64 a, .int .i64 b] w fun e w' => e = .returned (.int .i32 (-4)) ∧ w = w' := by
  go_enter Tryz.func21, Tryz.ntmps21
  go_wp2_with (go_at_call 15; refine (made_not _ _ h).mono ?_; rintro e w' ⟨rfl, rfl⟩)
  go_ret
  exact ⟨rfl, rfl⟩

theorem place_not (w : World) (p : Option Addr) (h : NotStack w p) (i : Int) : Calls Tryz.prog 111 #[.pointer p, .int .i64 i] w fun e w' => e = .returned (.tuple #[.int .i64 0, .int .i32 (-4)]) ∧ w = w' := by
  go_enter Tryz.func111, Tryz.ntmps111
  go_wp2_with (go_at_call 15; refine (made_not _ _ h).mono ?_; rintro e w' ⟨rfl, rfl⟩)
  go_ret2
  exact ⟨rfl, rfl⟩

/-- A cell of the row. -/
theorem StackAt.get (h : StackAt w base g most over under v l) (p : Nat) (hp : p < l.length) : ∃ b cap, v = .slice (some ⟨b, 0, none⟩) l.length cap ∧ l.length ≤ cap ∧ w.cell? ⟨b, p, none⟩ = some (uv (l.getD p 0#32)) := by
  obtain ⟨M, hr, _⟩ := UReads.owns h.row
  obtain ⟨cap, rfl, hc, hcell⟩ := hr.cells (by intro e; simp [e] at hp)
  refine ⟨M, cap, rfl, hc, ?_⟩
  have := hcell p (l.getD p 0#32) (by rw [List.getD_eq_getElem?_getD, List.getElem?_eq_getElem hp]; rfl)
  rwa [Nat.zero_add] at this

set_option maxRecDepth 100000 in
set_option maxHeartbeats 1000000 in
theorem Peek_at (h : StackAt w base g most over under v l) (i : Int) :
    Calls Tryz.prog 39 #[.pointer (some ⟨g, 0, none⟩), .int .i64 i] w fun e w' => e = .returned (.tuple #[uv (peekX l i), .int .i32 (peekT l i under)]) ∧ Keeps [] w w' := by
  unfold peekX peekT
  by_cases hi : 0 ≤ i ∧ i < l.length
  · rw [if_pos hi, if_pos hi]
    obtain ⟨h0, h1⟩ := hi
    obtain ⟨k, rfl⟩ := Int.eq_ofNat_of_zero_le h0
    have hk : k < l.length := by omega
    have HP := Lib.hid (place_in h k hk)
    have c1 := h.cell 1 _ rfl
    obtain ⟨b, cap, rfl, hcap, hcell⟩ := h.get (l.length - 1 - k) (by omega)
    rw [Int.toNat_natCast]
    have hlt : l.length - 1 - k < l.length := by omega
    clear h
    generalize l.getD (l.length - 1 - k) 0#32 = x at *
    generalize l.length - 1 - k = p at *
    generalize l.length = n at *
    unfold uv at *
    generalize (x.toNat : Int) = y at *
    go_enter Tryz.func39, Tryz.ntmps39
    go_wp2_with (first | (go_at_call 111; refine HP.out.mono ?_; rintro e w' ⟨rfl, rfl⟩))
    go_ret2
    exact ⟨rfl, Keeps.refl _ _⟩
  · rw [if_neg hi, if_neg hi]
    have HP := Lib.hid (place_out h i hi)
    have hu := h.under0.2
    clear h hi
    go_enter Tryz.func39, Tryz.ntmps39
    go_wp2_with (first | (go_at_call 111; refine HP.out.mono ?_; rintro e w' ⟨rfl, hk⟩; have HK := Lib.hid hk; clear hk))
    go_ret2
    exact ⟨rfl, HK.out⟩

theorem Peek_not (w : World) (p : Option Addr) (h : NotStack w p) (i : Int) : Calls Tryz.prog 39 #[.pointer p, .int .i64 i] w fun e w' => e = .returned (.tuple #[.int .u32 0, .int .i32 (-4)]) ∧ w = w' := by
  go_enter Tryz.func39, Tryz.ntmps39
  go_wp2_with (go_at_call 111; refine (place_not _ _ h _).mono ?_; rintro e w' ⟨rfl, rfl⟩)
  go_ret2
  exact ⟨rfl, rfl⟩

/-- The lowest cells of a row of one's own. -/
theorem owns_take {T : TypeId} {b n cap : Nat} {xs : List Value} (h : w.ownsRow base T 1 (.slice (some ⟨b, 0, none⟩) n cap) n xs) (k : Nat) (hk : k ≤ n) : w.ownsRow base T 1 (.slice (some ⟨b, 0, none⟩) k cap) k (xs.take k) := by
  obtain ⟨hl, h2⟩ := h
  rw [Nat.mul_one] at hl
  rcases h2 with ⟨h, _⟩ | ⟨g, c, cur, hv, hb, hg, hn, hm, hs, ht⟩
  · cases h
  · injection hv with e1 _ e3
    injection e1 with e1
    injection e1 with e1
    subst e1 e3
    refine ⟨by simp; omega, .inr ⟨b, cap, cur, rfl, hb, hg, by omega, hm, hs, ?_⟩⟩
    rw [Nat.mul_one] at ht ⊢
    rw [← ht, List.take_take, Nat.min_eq_left hk]

/-- The field of the cells is set. -/
theorem StackAt.put (h : StackAt w base g most over under v l) {w' : World} {l' : List (BitVec 32)} (u : Value) (hk : Keeps v.ownBlock.toList w w') (hr : w'.ownsRow base 24 1 u l'.length (l'.map uv)) (hf : (l'.length : Int) ≤ most) :
    StackAt (w'.setCell ⟨g, 1, none⟩ u) base g most over under u l' ∧ Keeps (g :: v.ownBlock.toList) w (w'.setCell ⟨g, 1, none⟩ u) := by
  have hg : g ∉ v.ownBlock.toList := by
    intro hm
    have := (h.lt g (by simpa using hm)).1
    have := h.above
    omega
  have hkk : Keeps (g :: v.ownBlock.toList) w (w'.setCell ⟨g, 1, none⟩ u) := (hk.mono (T := g :: v.ownBlock.toList) (fun x hx => by simp at hx ⊢; exact .inr hx)).trans (Keeps.setCell _ (by simp) _)
  refine ⟨⟨?_, ?_, h.above, Nat.le_trans h.base_le hkk.size, h.most1, h.most2, hf, h.over0, h.under0⟩, hkk⟩
  · exact ((h.whole.keeps hk hg).set 1 u)
  · refine World.ownsRow.keeps hr (Keeps.setCell (S := [g]) _ (by simp) _) (fun k hk hm => ?_)
    have := (hr.lt k hk).1
    have := h.above
    simp at hm
    omega

set_option maxRecDepth 100000 in
set_option maxHeartbeats 1000000 in
theorem Cut_at (h : StackAt w base g most over under v l) (k : Int) :
    Calls Tryz.prog 24 #[.pointer (some ⟨g, 0, none⟩), .int .i64 k] w fun e w' => ∃ v', e = .returned (.int .i32 (cutT l k under)) ∧ StackAt w' base g most over under v' (cutL l k) ∧ Keeps (g :: v.ownBlock.toList) w w' ∧ v'.ownBlock = v.ownBlock := by
  have c0 := h.cell 0 _ rfl
  have c1 := h.cell 1 _ rfl
  have c4 := h.cell 4 _ rfl
  have hf := h.fits
  have hm := h.most2
  have H := Lib.hid h
  unfold cutT cutL
  by_cases hi : 0 ≤ k ∧ k ≤ l.length
  · rw [if_pos hi, if_pos hi]
    obtain ⟨h0, h1⟩ := hi
    obtain ⟨j, rfl⟩ := Int.eq_ofNat_of_zero_le h0
    have hj : j ≤ l.length := by omega
    rw [Int.toNat_natCast]
    obtain ⟨a, cap, rfl, hcap⟩ := h.shape
    have hcut := fun w => run_cutU_h w a l.length cap j (by omega)
    have HF := Lib.hid (show w.ownsRow base 24 1 (.slice a j cap) (l.take j).length ((l.take j).map uv) from by
      have hlt : (l.take j).length = j := by simp; omega
      rw [hlt]
      have hrow := h.row
      rcases hrow.2 with ⟨he, hl0⟩ | ⟨b, c, cur, he, _⟩
      · injection he with e1 e2 e3
        subst e1 e3
        have : j = 0 := by omega
        subst this
        exact ⟨by simp, .inl ⟨rfl, rfl⟩⟩
      · injection he with e1 e2 e3
        subst e1 e3
        rw [List.map_take]; exact owns_take hrow j hj)
    have hs : sliced a 0 j cap 1 = .slice a j cap := by
      have hlt : (l.take j).length = j := by simp; omega
      obtain ⟨M, hr, _⟩ := UReads.owns h.row
      have hs := (hr.head j hj).1
      rwa [hlt] at hs
    rw [hs] at hcut
    clear h hs
    generalize hn : l.length = n at *
    have hfr : w.frozen? ⟨g, 1, none⟩ = false := H.out.whole.frozen 1
    go_enter Tryz.func24, Tryz.ntmps24
    go_wp2_with (first | (go_at_call 15; refine (made_at _ _ c0).mono ?_; rintro e w' ⟨rfl, rfl⟩))
    go_ret
    obtain ⟨h1, h2⟩ := H.out.put _ (l' := l.take j) (Keeps.refl _ _) HF.out (by simp; omega)
    exact ⟨_, rfl, h1, h2, by cases a <;> rfl⟩
  · rw [if_neg hi, if_neg hi]
    obtain ⟨a, cap, rfl, hcap⟩ := h.shape
    clear h
    by_cases h0 : k < 0
    · clear hi
      generalize hn : l.length = n at *
      go_enter Tryz.func24, Tryz.ntmps24
      go_wp2_with (first | (go_at_call 15; refine (made_at _ _ c0).mono ?_; rintro e w' ⟨rfl, rfl⟩))
      go_ret
      exact ⟨_, rfl, H.out, Keeps.refl _ _, rfl⟩
    · have h1 : (l.length : Int) < k := by omega
      clear hi
      generalize hn : l.length = n at *
      go_enter Tryz.func24, Tryz.ntmps24
      go_wp2_with (first | (go_at_call 15; refine (made_at _ _ c0).mono ?_; rintro e w' ⟨rfl, rfl⟩))
      go_ret
      exact ⟨_, rfl, H.out, Keeps.refl _ _, rfl⟩

theorem Cut_not (w : World) (p : Option Addr) (h : NotStack w p) (i : Int) : Calls Tryz.prog 24 #[.pointer p, .int .i64 i] w fun e w' => e = .returned (.int .i32 (-4)) ∧ w = w' := by
  go_enter Tryz.func24, Tryz.ntmps24
  go_wp2_with (go_at_call 15; refine (made_not _ _ h).mono ?_; rintro e w' ⟨rfl, rfl⟩)
  go_ret
  exact ⟨rfl, rfl⟩
theorem Roll_not (w : World) (p : Option Addr) (h : NotStack w p) (i : Int) : Calls Tryz.prog 152 #[.pointer p, .int .i64 i] w fun e w' => e = .returned (.int .i32 (-4)) ∧ w = w' := by
  go_enter Tryz.func152, Tryz.ntmps152
  go_wp2_with (go_at_call 111; refine (place_not _ _ h _).mono ?_; rintro e w' ⟨rfl, rfl⟩)
  go_ret
  exact ⟨rfl, rfl⟩
theorem Pop_not (w : World) (p : Option Addr) (h : NotStack w p) : Calls Tryz.prog 88 #[.pointer p] w fun e w' => e = .returned (.tuple #[.int .u32 0, .int .i32 (-4)]) ∧ w = w' := by
  go_enter Tryz.func88, Tryz.ntmps88
  go_wp2_with (go_at_call 111; refine (place_not _ _ h _).mono ?_; rintro e w' ⟨rfl, rfl⟩)
  go_ret2
  exact ⟨rfl, rfl⟩
theorem All_not (w : World) (p : Option Addr) (h : NotStack w p) : Calls Tryz.prog 5 #[.pointer p] w fun e w' => e = .returned (.slice none 0 0) ∧ w = w' := by
  go_enter Tryz.func5, Tryz.ntmps5
  go_wp2_with (go_at_call 15; refine (made_not _ _ h).mono ?_; rintro e w' ⟨rfl, rfl⟩)
  go_ret
  exact ⟨rfl, rfl⟩
theorem Push_not (w : World) (p : Option Addr) (h : NotStack w p) (a : Option Addr) (n c : Nat) : Calls Tryz.prog 14 #[.pointer p, .slice a n c] w fun e w' => e = .returned (.int .i32 (-4)) ∧ w = w' := by
  go_enter Tryz.func14, Tryz.ntmps14
  go_wp2_with (go_at_call 21; refine (May_not _ _ h _ _).mono ?_; rintro e w' ⟨rfl, rfl⟩)
  go_ret
  exact ⟨rfl, rfl⟩
end
end Go.Proofs.YtfnjjanknfmibaaGreat
