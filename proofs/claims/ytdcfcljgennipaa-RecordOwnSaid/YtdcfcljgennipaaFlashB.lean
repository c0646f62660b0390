/-
  Contracts: clones, Read, Sectors, Wear, Down, Up, Arm, mayProgram, mayErase.
-/
import Derived.Test.YtdcfcljgennipaaFlashA
import Derived.Test.YtdcfcljgennipaaWords
namespace Go.Proofs.Ytdcfcljgennipaa
open Go.RowKit

set_option maxRecDepth 100000 in
set_option maxHeartbeats 400000 in
theorem cloneB_nil (w : World) (n c : Nat) : Calls Try.prog 60 #[.slice none n c] w fun e w' => e = .returned (.slice none 0 0) ∧ w = w' := by
  have hn := fun w => Lib.run_eql_slice_nil (P := Try.prog) w 22 5 none n c 0 0 Try.underlying22
  go_enter Try.func60, Try.ntmps60
  go_wp2
  go_ret
  exact ⟨rfl, rfl⟩

set_option maxRecDepth 100000 in
set_option maxHeartbeats 400000 in
theorem cloneB_some (w : World) (ad : Addr) (cap n : Nat) (xs : List Value) (hx : xs.length = n) (hl : n ≤ 65536) (h1 : ∀ u ∈ xs, u.oneCell' = true) (hc : ∀ i u, xs[i]? = some u → w.cell? (ad.add i) = some u) :
    Calls Try.prog 60 #[.slice (some ad) n cap] w fun e w' => ∃ b c, e = .returned (.slice (some ⟨b, 0, none⟩) n c) ∧ w.heap.size ≤ b ∧ Row w' b 5 xs c ∧ Keeps [] w w' := by
  have Hx := Lib.hid hx
  clear hx
  have hn := fun w => Lib.run_eql_slice_nil (P := Try.prog) w 22 5 (some ad) n cap 0 0 Try.underlying22
  obtain ⟨i0, hi, hz0, hz1, hz2⟩ := info_parts infoByte
  go_enter Try.func60, Try.ntmps60
  go_wp2_with (at_builtin; refine wpList_append_own _ rfl _ _ 22 rfl w.heap.size 5 i0 (.int .u8 0) 1 1 Try.underlying22 hi hz0 hz1 hz2 rfl (by decide) (.slice (some ⟨w.heap.size, 0, none⟩) 0 0) 0 [] rfl ?own ad n cap xs rfl ?hl ?hnews h1 ?c3 ?c4 ?c5 ?_)
  case own => exact World.ownsRow_made w #[] 0 (Nat.le_refl _) (Nat.zero_le _) rfl
  case hl => rw [Hx.out, Nat.mul_one]
  case hnews =>
    intro j u hu
    exact (Keeps.alloc [] w _).cell (hc j u hu) (by simp)
  case c3 => unfold maxLen; omega
  case c4 => omega
  case c5 => simp
  intro v' w1 hown hg hv
  obtain ⟨b, c, rfl, hb, hr⟩ := Row.ofOwns hown hv
  have hk : Keeps [] w w1 := (Keeps.alloc [] w (.cells #[] 5)).then (Keeps.grown (S := [w.heap.size]) hg (fun k hk => by simp [Value.ownBlock] at hk; simp [hk])) (fun x hx => .inr (by simp at hx; omega))
  clear hown hg hv hn
  go_wp2
  go_ret
  exact ⟨b, c, rfl, hb, hr, hk⟩

/-- What a row of bytes at the head of a block has behind a place. -/
theorem Row.part {w : World} {b : Nat} {T : TypeId} {xs : List Value} {cap : Nat} (h : Row w b T xs cap) (a n : Nat) : ∀ i u, ((xs.drop a).take n)[i]? = some u → w.cell? ⟨b, a + i, none⟩ = some u := by
  intro i u hu
  rw [List.getElem?_take] at hu
  split at hu
  · rw [List.getElem?_drop] at hu; exact h.cell _ hu
  · cases hu

def FS.has (s : FS) (a n : Int) : Prop := 0 ≤ a ∧ 0 ≤ n ∧ a + n ≤ s.bs.length
instance (s : FS) (a n : Int) : Decidable (s.has a n) := by unfold FS.has; infer_instance
def FS.part (s : FS) (a n : Int) : List UInt8 := (s.bs.drop a.toNat).take n.toNat

theorem FS.part_length (s : FS) (a n : Int) (h : s.has a n) : (s.part a n).length = n.toNat := by
  unfold FS.part; unfold FS.has at h; simp; omega

set_option maxRecDepth 100000 in
set_option maxHeartbeats 400000 in
theorem Read_ok {F B W M : Nat} {s : FS} (w : World) (h : FlashAt w F B W M s) (a n : Int) (hd : s.down = false) (hh : s.has a n) :
    Calls Try.prog 25 #[.pointer (some ⟨F, 0, none⟩), .int .i64 a, .int .i64 n] w fun e w' => ∃ b c, e = .returned (.tuple #[.slice (some ⟨b, 0, none⟩) n.toNat c, .int .i64 0]) ∧ w.heap.size ≤ b ∧
      Row w' b 5 ((s.part a n).map bv) c ∧ Keeps [] w w' := by
  obtain ⟨cb, cw, mv, c0, c1, c2, c3, c4, c5, c6, cf, rB, rW, rM⟩ := h.cells
  have hlen := h.len
  have hfew := h.few
  obtain ⟨h0, h1, h2⟩ := hh
  rw [hd] at c3
  have Hd := Lib.hid hd
  have room := rB.room
  have part := rB.part a.toNat n.toNat
  have HP := Lib.hid part
  rw [List.length_map] at room
  obtain ⟨A, rfl⟩ := Int.eq_ofNat_of_zero_le h0
  obtain ⟨K, rfl⟩ := Int.eq_ofNat_of_zero_le h1
  have hbs : s.bs.length ≤ 65536 := by omega
  have HL := Lib.hid hlen
  clear hd hlen part
  go_enter Try.func25, Try.ntmps25
  go_wp2_with (first | (go_at_call 58; refine (ready_yes F _ false c0 c3).mono ?_; rintro e w' ⟨rfl, rfl⟩) | (go_at_call 59; refine (has_yes F B _ _ cb _ _ hbs c1 ⟨by omega, by omega, by omega⟩).mono ?_; rintro e w' ⟨rfl, rfl⟩) | fail)
  all_goals
    refine (cloneB_some _ _ _ _ ((s.part A K).map bv) ?_ ?_ (one_bytes _) ?_).mono ?_
    · rw [List.length_map, FS.part_length _ _ _ ⟨h0, h1, h2⟩]; omega
    · omega
    · intro i u hu
      first
      | (have hK : K = 0 := by omega
         subst hK; simp [FS.part] at hu)
      | (rw [Addr.add_off]
         have := HP.out i u (by simpa [FS.part, List.map_drop, List.map_take] using hu)
         simpa using this)
    · rintro e w1 ⟨b, c, rfl, hb, hr, hk⟩
      go_wp2
      go_ret2
      exact ⟨b, c, by first | rfl | simp, hb, hr, hk⟩

set_option maxRecDepth 100000 in
set_option maxHeartbeats 400000 in
theorem Read_down {F B W M : Nat} {s : FS} (w : World) (h : FlashAt w F B W M s) (a n : Int) (hd : s.down = true) :
    Calls Try.prog 25 #[.pointer (some ⟨F, 0, none⟩), .int .i64 a, .int .i64 n] w fun e w' => e = .returned (.tuple #[.slice none 0 0, .int .i64 12]) ∧ w = w' := by
  obtain ⟨cb, cw, mv, c0, c1, c2, c3, c4, c5, c6, cf, rB, rW, rM⟩ := h.cells
  rw [hd] at c3
  clear hd
  go_enter Try.func25, Try.ntmps25
  go_wp2_with (go_at_call 58; refine (ready_yes F _ true c0 c3).mono ?_; rintro e w' ⟨rfl, rfl⟩)
  go_ret2
  exact ⟨rfl, rfl⟩

set_option maxRecDepth 100000 in
set_option maxHeartbeats 400000 in
theorem Read_not (p : Option Addr) (w : World) (h : NotMade w p) (a n : Int) :
    Calls Try.prog 25 #[.pointer p, .int .i64 a, .int .i64 n] w fun e w' => e = .returned (.tuple #[.slice none 0 0, .int .i64 1]) ∧ w = w' := by
  go_enter Try.func25, Try.ntmps25
  go_wp2_with (go_at_call 58; refine (ready_not _ _ h).mono ?_; rintro e w' ⟨rfl, rfl⟩)
  go_ret2
  exact ⟨rfl, rfl⟩

set_option maxRecDepth 100000 in
set_option maxHeartbeats 400000 in
theorem Read_out {F B W M : Nat} {s : FS} (w : World) (h : FlashAt w F B W M s) (a n : Int) (hn : n ≤ 9223372036854775807) (hd : s.down = false) (hh : ¬ s.has a n) :
    Calls Try.prog 25 #[.pointer (some ⟨F, 0, none⟩), .int .i64 a, .int .i64 n] w fun e w' => e = .returned (.tuple #[.slice none 0 0, .int .i64 10]) ∧ w = w' := by
  obtain ⟨cb, cw, mv, c0, c1, c2, c3, c4, c5, c6, cf, rB, rW, rM⟩ := h.cells
  have hlen := h.len
  have hfew := h.few
  have hbs : s.bs.length ≤ 65536 := by omega
  rw [hd] at c3
  clear hd hlen
  go_enter Try.func25, Try.ntmps25
  go_wp2_with (first | (go_at_call 58; refine (ready_yes F _ false c0 c3).mono ?_; rintro e w' ⟨rfl, rfl⟩) | (go_at_call 59; refine (has_no F B _ _ cb _ _ hbs c1 hn hh).mono ?_; rintro e w' ⟨rfl, rfl⟩) | fail)
  go_ret2
  exact ⟨rfl, rfl⟩

set_option maxRecDepth 100000 in
set_option maxHeartbeats 400000 in
theorem Sectors_yes {F B W M : Nat} {s : FS} (w : World) (h : FlashAt w F B W M s) :
    Calls Try.prog 63 #[.pointer (some ⟨F, 0, none⟩)] w fun e w' => e = .returned (.int .i64 s.wear.length) ∧ w = w' := by
  obtain ⟨cb, cw, mv, c0, c1, c2, c3, c4, c5, c6, cf, rB, rW, rM⟩ := h.cells
  go_enter Try.func63, Try.ntmps63
  go_wp2_with (go_at_call 66; refine (made_yes F _ c0).mono ?_; rintro e w' ⟨rfl, rfl⟩)
  go_ret
  exact ⟨rfl, rfl⟩

set_option maxRecDepth 100000 in
set_option maxHeartbeats 400000 in
theorem Sectors_not (p : Option Addr) (w : World) (h : NotMade w p) :
    Calls Try.prog 63 #[.pointer p] w fun e w' => e = .returned (.int .i64 0) ∧ w = w' := by
  go_enter Try.func63, Try.ntmps63
  go_wp2_with (go_at_call 66; refine (made_not _ _ h).mono ?_; rintro e w' ⟨rfl, rfl⟩)
  go_ret
  exact ⟨rfl, rfl⟩

set_option maxRecDepth 100000 in
set_option maxHeartbeats 400000 in
theorem Up_not (p : Option Addr) (w : World) (h : NotMade w p) :
    Calls Try.prog 42 #[.pointer p] w fun e w' => e = .returned (.int .i64 1) ∧ w = w' := by
  go_enter Try.func42, Try.ntmps42
  go_wp2_with (go_at_call 66; refine (made_not _ _ h).mono ?_; rintro e w' ⟨rfl, rfl⟩)
  go_ret
  exact ⟨rfl, rfl⟩

set_option maxRecDepth 100000 in
set_option maxHeartbeats 400000 in
theorem Wear_not (p : Option Addr) (w : World) (h : NotMade w p) (a : Int) :
    Calls Try.prog 31 #[.pointer p, .int .i64 a] w fun e w' => e = .returned (.int .i64 0) ∧ w = w' := by
  go_enter Try.func31, Try.ntmps31
  go_wp2_with (go_at_call 66; refine (made_not _ _ h).mono ?_; rintro e w' ⟨rfl, rfl⟩)
  go_ret
  exact ⟨rfl, rfl⟩

set_option maxRecDepth 100000 in
set_option maxHeartbeats 400000 in
theorem Wear_out {F B W M : Nat} {s : FS} (w : World) (h : FlashAt w F B W M s) (a : Int) (ha : ¬ (0 ≤ a ∧ a < s.wear.length)) :
    Calls Try.prog 31 #[.pointer (some ⟨F, 0, none⟩), .int .i64 a] w fun e w' => e = .returned (.int .i64 0) ∧ w = w' := by
  obtain ⟨cb, cw, mv, c0, c1, c2, c3, c4, c5, c6, cf, rB, rW, rM⟩ := h.cells
  go_enter Try.func31, Try.ntmps31
  go_wp2_with (first | (go_at_call 66; refine (made_yes F _ c0).mono ?_; rintro e w' ⟨rfl, rfl⟩) | (go_at_call 67; refine (hasSector_no F W _ _ cw _ c2 ha).mono ?_; rintro e w' ⟨rfl, rfl⟩) | fail)
  go_ret
  exact ⟨rfl, rfl⟩

set_option maxRecDepth 100000 in
set_option maxHeartbeats 400000 in
theorem Wear_yes {F B W M : Nat} {s : FS} (w : World) (h : FlashAt w F B W M s) (a : Nat) (x : Int) (hx : s.wear[a]? = some x) :
    Calls Try.prog 31 #[.pointer (some ⟨F, 0, none⟩), .int .i64 a] w fun e w' => e = .returned (.int .i64 x) ∧ w = w' := by
  obtain ⟨cb, cw, mv, c0, c1, c2, c3, c4, c5, c6, cf, rB, rW, rM⟩ := h.cells
  have hlt : a < s.wear.length := (List.getElem?_eq_some_iff.1 hx).1
  have hlt' : (a : Int) < s.wear.length := by omega
  have hfew := h.few
  have cx : w.cell? ⟨W, a, none⟩ = some (.int .i64 x) := rW.cell a (by simp [hx])
  clear hx
  go_enter Try.func31, Try.ntmps31
  go_wp2_with (first | (go_at_call 66; refine (made_yes F _ c0).mono ?_; rintro e w' ⟨rfl, rfl⟩) | (go_at_call 67; refine (hasSector_yes F W _ _ cw _ c2 ⟨by omega, by omega⟩).mono ?_; rintro e w' ⟨rfl, rfl⟩) | fail)
  go_ret
  exact ⟨rfl, rfl⟩
end Go.Proofs.Ytdcfcljgennipaa
