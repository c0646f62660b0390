/-
  A flash in memory, and the contracts of its small methods.
  Contracts: clones, Read, Sectors, Wear, Down, Up, Arm, mayProgram, mayErase.
  Contracts: Up, Arm, mayProgram, mayErase.
  Contracts: the closures of the operations, and what does them.
-/
import Derived.Test.YtlnmbfddhdjioaaGreatRows
import Derived.Test.YtlnmbfddhdjioaaGreatGround
import Derived.Deep.QuietTactic
import Derived.BigQuiet
import Derived.LaidEqlPtr
import Derived.Deep.RegionWith
import Derived.Deep.RegionHeld3
namespace Go.Proofs.YtlnmbfddhdjioaaGreat
open Go.RowKit

/-- What a flash is: its bytes, wears, and power. -/
structure FS where
  bs : List UInt8
  wear : List Int
  down : Bool
  armed : Bool
  left : Int
  mask : List UInt8

/-- The flash s lies at block F, its bytes in B, its wears in W, its mask in M. -/
structure FlashAt (w : World) (F B W M : Nat) (s : FS) : Prop where
  nFB : F ≠ B
  nFW : F ≠ W
  nBW : B ≠ W
  nM : M ≠ F ∧ M ≠ B ∧ M ≠ W
  len : s.bs.length = 256 * s.wear.length
  few : s.wear.length ≤ 256
  left0 : 0 ≤ s.left
  left1 : s.left ≤ 9223372036854775807
  maskl : s.mask.length ≤ 65536
  here : ∃ cb cw mv, w.heap[F]? = some (.cells #[.pointer (some ⟨F, 0, none⟩), .slice (some ⟨B, 0, none⟩) s.bs.length cb, .slice (some ⟨W, 0, none⟩) s.wear.length cw,
      .bool s.down, .bool s.armed, .int .i64 s.left, mv] 91 (0, 0)) ∧
    Row w B 5 (s.bs.map bv) cb ∧ Row w W 3 (s.wear.map (Value.int .i64)) cw ∧ Reads w mv s.mask M

theorem FlashAt.cells {w : World} {F B W M : Nat} {s : FS} (h : FlashAt w F B W M s) : ∃ cb cw mv,
    w.cell? ⟨F, 0, none⟩ = some (.pointer (some ⟨F, 0, none⟩)) ∧ w.cell? ⟨F, 1, none⟩ = some (.slice (some ⟨B, 0, none⟩) s.bs.length cb) ∧
    w.cell? ⟨F, 2, none⟩ = some (.slice (some ⟨W, 0, none⟩) s.wear.length cw) ∧ w.cell? ⟨F, 3, none⟩ = some (.bool s.down) ∧ w.cell? ⟨F, 4, none⟩ = some (.bool s.armed) ∧
    w.cell? ⟨F, 5, none⟩ = some (.int .i64 s.left) ∧ w.cell? ⟨F, 6, none⟩ = some mv ∧ (∀ i, w.frozen? ⟨F, i, none⟩ = false) ∧
    Row w B 5 (s.bs.map bv) cb ∧ Row w W 3 (s.wear.map (Value.int .i64)) cw ∧ Reads w mv s.mask M := by
  obtain ⟨cb, cw, mv, hF, hB, hW, hM⟩ := h.here
  refine ⟨cb, cw, mv, ?_, ?_, ?_, ?_, ?_, ?_, ?_, ?_, hB, hW, hM⟩ <;> simp [World.cell?, World.frozen?, hF]

theorem FlashAt.lt {w : World} {F B W M : Nat} {s : FS} (h : FlashAt w F B W M s) : F < w.heap.size ∧ B < w.heap.size ∧ W < w.heap.size := by
  obtain ⟨cb, cw, mv, hF, hB, hW, hM⟩ := h.here
  exact ⟨(Array.getElem?_eq_some_iff.1 hF).1, hB.lt, hW.lt⟩

theorem FlashAt.keeps {S : List Nat} {w w' : World} {F B W M : Nat} {s : FS} (h : FlashAt w F B W M s) (hk : Keeps S w w') (hF : F ∉ S) (hB : B ∉ S) (hW : W ∉ S) (hM : M ∉ S) : FlashAt w' F B W M s := by
  obtain ⟨cb, cw, mv, f, b, c, m⟩ := h.here
  exact { h with here := ⟨cb, cw, mv, hk.obj f hF, b.keeps hk hB, c.keeps hk hW, m.keeps hk hM⟩ }

theorem infoFlash : ∃ j, Tryz.prog.info? 91 = some j := Option.isSome_iff_exists.1 (by kernel_rfl)

set_option maxRecDepth 100000 in
set_option maxHeartbeats 400000 in
theorem made_yes (F : Nat) (w : World) (h : w.cell? ⟨F, 0, none⟩ = some (.pointer (some ⟨F, 0, none⟩))) :
    Calls Tryz.prog 69 #[.pointer (some ⟨F, 0, none⟩)] w fun e w' => e = .returned (.bool true) ∧ w = w' := by
  obtain ⟨j, hj⟩ := infoFlash
  have he := fun w => run_eql_ptr_same (P := Tryz.prog) w (tp := 26) (te := 91) ⟨F, 0, none⟩ Tryz.underlying26 hj
  go_enter Tryz.func69, Tryz.ntmps69
  go_wp2
  go_ret
  exact ⟨rfl, rfl⟩

set_option maxRecDepth 100000 in
set_option maxHeartbeats 400000 in
theorem made_nil (w : World) :
    Calls Tryz.prog 69 #[.pointer none] w fun e w' => e = .returned (.bool false) ∧ w = w' := by
  go_enter Tryz.func69, Tryz.ntmps69
  go_wp2
  go_ret
  exact ⟨rfl, rfl⟩

theorem run_eql_nil_ptr (w : World) (a : Addr) : (binOp .eql 26 (.pointer none) (.pointer (some a))).run Tryz.prog w = .ok (.bool false) w := by
  have h : ∀ d : Nat, (Op.equalIn (d + 1) 26 (.pointer none) (.pointer (some a))).run Tryz.prog w = .ok false w := fun d => by
    simp [Op.equalIn, run_underlying Tryz.underlying26]
  simp only [binOp]
  simp [Op.equal, Op.maxDepth, h 9999]

set_option maxRecDepth 100000 in
set_option maxHeartbeats 400000 in
theorem made_zero (F : Nat) (w : World) (h : w.cell? ⟨F, 0, none⟩ = some (.pointer none)) :
    Calls Tryz.prog 69 #[.pointer (some ⟨F, 0, none⟩)] w fun e w' => e = .returned (.bool false) ∧ w = w' := by
  have he := run_eql_nil_ptr
  go_enter Tryz.func69, Tryz.ntmps69
  go_wp2
  go_ret
  exact ⟨rfl, rfl⟩

/-- A pointer of which 'made' says no. -/
def NotMade (w : World) (p : Option Addr) : Prop := p = none ∨ ∃ F, p = some ⟨F, 0, none⟩ ∧ w.cell? ⟨F, 0, none⟩ = some (.pointer none)

theorem made_not (p : Option Addr) (w : World) (h : NotMade w p) : Calls Tryz.prog 69 #[.pointer p] w fun e w' => e = .returned (.bool false) ∧ w = w' := by
  rcases h with rfl | ⟨F, rfl, hc⟩
  · exact made_nil w
  · exact made_zero F w hc

set_option maxRecDepth 100000 in
set_option maxHeartbeats 400000 in
theorem ready_not (p : Option Addr) (w : World) (h : NotMade w p) : Calls Tryz.prog 64 #[.pointer p] w fun e w' => e = .returned (.int .i64 1) ∧ w = w' := by
  go_enter Tryz.func64, Tryz.ntmps64
  go_wp2_with (go_at_call 69; refine (made_not _ _ h).mono ?_; rintro e w' ⟨rfl, rfl⟩)
  go_ret
  exact ⟨rfl, rfl⟩

def FS.ready (s : FS) : Int := if s.down then 12 else 0

set_option maxRecDepth 100000 in
set_option maxHeartbeats 400000 in
theorem ready_yes (F : Nat) (w : World) (d : Bool) (h : w.cell? ⟨F, 0, none⟩ = some (.pointer (some ⟨F, 0, none⟩))) (h3 : w.cell? ⟨F, 3, none⟩ = some (.bool d)) :
    Calls Tryz.prog 64 #[.pointer (some ⟨F, 0, none⟩)] w fun e w' => e = .returned (.int .i64 (if d then 12 else 0)) ∧ w = w' := by
  cases d
  all_goals
    go_enter Tryz.func64, Tryz.ntmps64
    go_wp2_with (go_at_call 69; refine (made_yes _ _ h).mono ?_; rintro e w' ⟨rfl, rfl⟩)
    go_ret
    exact ⟨rfl, rfl⟩

set_option maxRecDepth 100000 in
set_option maxHeartbeats 400000 in
theorem has_any (F B : Nat) (w : World) (n cb : Nat) (a k : Int) (hn : n ≤ 65536) (h1 : w.cell? ⟨F, 1, none⟩ = some (.slice (some ⟨B, 0, none⟩) n cb)) (hk : k ≤ 9223372036854775807) :
    Calls Tryz.prog 65 #[.pointer (some ⟨F, 0, none⟩), .int .i64 a, .int .i64 k] w fun e w' => e = .returned (.bool (decide (0 ≤ a ∧ 0 ≤ k ∧ a + k ≤ n))) ∧ w = w' := by
  by_cases ha : 0 ≤ a
  · by_cases hk0 : 0 ≤ k
    · go_enter Tryz.func65, Tryz.ntmps65
      go_wp2
      go_ret
      refine ⟨?_, rfl⟩
      congr 2
      simp [ha, hk0]
      omega
    · go_enter Tryz.func65, Tryz.ntmps65
      go_wp2
      go_ret
      refine ⟨?_, rfl⟩
      simp
      omega
  · go_enter Tryz.func65, Tryz.ntmps65
    go_wp2
    go_ret
    refine ⟨?_, rfl⟩
    simp
    omega

set_option maxRecDepth 100000 in
set_option maxHeartbeats 400000 in
theorem hasSector_any (F W : Nat) (w : World) (n cw : Nat) (a : Int) (h2 : w.cell? ⟨F, 2, none⟩ = some (.slice (some ⟨W, 0, none⟩) n cw)) :
    Calls Tryz.prog 95 #[.pointer (some ⟨F, 0, none⟩), .int .i64 a] w fun e w' => e = .returned (.bool (decide (0 ≤ a ∧ a < n))) ∧ w = w' := by
  by_cases ha : 0 ≤ a
  · go_enter Tryz.func95, Tryz.ntmps95
    go_wp2
    go_ret
    refine ⟨?_, rfl⟩
    congr 2
    simp [ha]
  · go_enter Tryz.func95, Tryz.ntmps95
    go_wp2
    go_ret
    refine ⟨?_, rfl⟩
    simp
    omega

theorem has_yes (F B : Nat) (w : World) (n cb : Nat) (a k : Int) (hn : n ≤ 65536) (h1 : w.cell? ⟨F, 1, none⟩ = some (.slice (some ⟨B, 0, none⟩) n cb)) (h : 0 ≤ a ∧ 0 ≤ k ∧ a + k ≤ n) :
    Calls Tryz.prog 65 #[.pointer (some ⟨F, 0, none⟩), .int .i64 a, .int .i64 k] w fun e w' => e = .returned (.bool true) ∧ w = w' :=
  (has_any F B w n cb a k hn h1 (by omega)).mono fun _ _ ⟨he, hw⟩ => ⟨by rw [he, decide_eq_true h], hw⟩

theorem has_no (F B : Nat) (w : World) (n cb : Nat) (a k : Int) (hn : n ≤ 65536) (h1 : w.cell? ⟨F, 1, none⟩ = some (.slice (some ⟨B, 0, none⟩) n cb)) (hk : k ≤ 9223372036854775807) (h : ¬ (0 ≤ a ∧ 0 ≤ k ∧ a + k ≤ n)) :
    Calls Tryz.prog 65 #[.pointer (some ⟨F, 0, none⟩), .int .i64 a, .int .i64 k] w fun e w' => e = .returned (.bool false) ∧ w = w' :=
  (has_any F B w n cb a k hn h1 hk).mono fun _ _ ⟨he, hw⟩ => ⟨by rw [he, decide_eq_false h], hw⟩

theorem hasSector_yes (F W : Nat) (w : World) (n cw : Nat) (a : Int) (h2 : w.cell? ⟨F, 2, none⟩ = some (.slice (some ⟨W, 0, none⟩) n cw)) (h : 0 ≤ a ∧ a < n) :
    Calls Tryz.prog 95 #[.pointer (some ⟨F, 0, none⟩), .int .i64 a] w fun e w' => e = .returned (.bool true) ∧ w = w' :=
  (hasSector_any F W w n cw a h2).mono fun _ _ ⟨he, hw⟩ => ⟨by rw [he, decide_eq_true h], hw⟩

theorem hasSector_no (F W : Nat) (w : World) (n cw : Nat) (a : Int) (h2 : w.cell? ⟨F, 2, none⟩ = some (.slice (some ⟨W, 0, none⟩) n cw)) (h : ¬ (0 ≤ a ∧ a < n)) :
    Calls Tryz.prog 95 #[.pointer (some ⟨F, 0, none⟩), .int .i64 a] w fun e w' => e = .returned (.bool false) ∧ w = w' :=
  (hasSector_any F W w n cw a h2).mono fun _ _ ⟨he, hw⟩ => ⟨by rw [he, decide_eq_false h], hw⟩
end Go.Proofs.YtlnmbfddhdjioaaGreat

namespace Go.Proofs.YtlnmbfddhdjioaaGreat
open Go.RowKit

set_option maxRecDepth 100000 in
set_option maxHeartbeats 400000 in
theorem cloneB_nil (w : World) (n c : Nat) : Calls Tryz.prog 66 #[.slice none n c] w fun e w' => e = .returned (.slice none 0 0) ∧ w = w' := by
  have hn := fun w => Lib.run_eql_slice_nil (P := Tryz.prog) w 23 5 none n c 0 0 Tryz.underlying23
  go_enter Tryz.func66, Tryz.ntmps66
  go_wp2
  go_ret
  exact ⟨rfl, rfl⟩

set_option maxRecDepth 100000 in
set_option maxHeartbeats 400000 in
theorem cloneB_some (w : World) (ad : Addr) (cap n : Nat) (xs : List Value) (hx : xs.length = n) (hl : n ≤ 65536) (h1 : ∀ u ∈ xs, u.oneCell' = true) (hc : ∀ i u, xs[i]? = some u → w.cell? (ad.add i) = some u) :
    Calls Tryz.prog 66 #[.slice (some ad) n cap] w fun e w' => ∃ b c, e = .returned (.slice (some ⟨b, 0, none⟩) n c) ∧ w.heap.size ≤ b ∧ Row w' b 5 xs c ∧ Keeps [] w w' := by
  have Hx := Lib.hid hx
  clear hx
  have hn := fun w => Lib.run_eql_slice_nil (P := Tryz.prog) w 23 5 (some ad) n cap 0 0 Tryz.underlying23
  obtain ⟨i0, hi, hz0, hz1, hz2⟩ := info_parts infoByte
  go_enter Tryz.func66, Tryz.ntmps66
  go_wp2_with (at_builtin; refine wpList_append_own _ rfl _ _ 23 rfl w.heap.size 5 i0 (.int .u8 0) 1 1 Tryz.underlying23 hi hz0 hz1 hz2 rfl (by decide) (.slice (some ⟨w.heap.size, 0, none⟩) 0 0) 0 [] rfl ?own ad n cap xs rfl ?hl ?hnews h1 ?c3 ?c4 ?c5 ?_)
  case own => exact World.ownsRow_made w #[] 0 (Nat.le_refl _) (Nat.zero_le _) rfl
  case hl => rw [Hx.out, Nat.mul_one]
  case hnews =>
    intro j u hu
    exact (Keeps.alloc [] w _).cell (hc j u hu) (by simp)
  case c3 => unfold maxLen; omega
  case c4 => omega
  case c5 => simp
  intro v' w1 hown hg hv
  obtain ⟨b, c, rfl, hb, hr⟩ := Row.ofOwns hown hv
  have hk : Keeps [] w w1 := (Keeps.alloc [] w (.cells #[] 5)).then (Keeps.grown (S := [w.heap.size]) hg (fun k hk => by simp [Value.ownBlock] at hk; simp [hk])) (fun x hx => .inr (by simp at hx; omega))
  clear hown hg hv hn
  go_wp2
  go_ret
  exact ⟨b, c, rfl, hb, hr, hk⟩

/-- What a row of bytes at the head of a block has behind a place. -/
theorem Row.part {w : World} {b : Nat} {T : TypeId} {xs : List Value} {cap : Nat} (h : Row w b T xs cap) (a n : Nat) : ∀ i u, ((xs.drop a).take n)[i]? = some u → w.cell? ⟨b, a + i, none⟩ = some u := by
  intro i u hu
  rw [List.getElem?_take] at hu
  split at hu
  · rw [List.getElem?_drop] at hu; exact h.cell _ hu
  · cases hu

def FS.has (s : FS) (a n : Int) : Prop := 0 ≤ a ∧ 0 ≤ n ∧ a + n ≤ s.bs.length
instance (s : FS) (a n : Int) : Decidable (s.has a n) := by unfold FS.has; infer_instance
def FS.part (s : FS) (a n : Int) : List UInt8 := (s.bs.drop a.toNat).take n.toNat

theorem FS.part_length (s : FS) (a n : Int) (h : s.has a n) : (s.part a n).length = n.toNat := by
  unfold FS.part; unfold FS.has at h; simp; omega

set_option maxRecDepth 100000 in
set_option maxHeartbeats 400000 in
theorem Read_ok {F B W M : Nat} {s : FS} (w : World) (h : FlashAt w F B W M s) (a n : Int) (hd : s.down = false) (hh : s.has a n) :
    Calls Tryz.prog 36 #[.pointer (some ⟨F, 0, none⟩), .int .i64 a, .int .i64 n] w fun e w' => ∃ b c, e = .returned (.tuple #[.slice (some ⟨b, 0, none⟩) n.toNat c, .int .i64 0]) ∧ w.heap.size ≤ b ∧
      Row w' b 5 ((s.part a n).map bv) c ∧ Keeps [] w w' := by
  obtain ⟨cb, cw, mv, c0, c1, c2, c3, c4, c5, c6, cf, rB, rW, rM⟩ := h.cells
  have hlen := h.len
  have hfew := h.few
  obtain ⟨h0, h1, h2⟩ := hh
  rw [hd] at c3
  have Hd := Lib.hid hd
  have room := rB.room
  have part := rB.part a.toNat n.toNat
  have HP := Lib.hid part
  rw [List.length_map] at room
  obtain ⟨A, rfl⟩ := Int.eq_ofNat_of_zero_le h0
  obtain ⟨K, rfl⟩ := Int.eq_ofNat_of_zero_le h1
  have hbs : s.bs.length ≤ 65536 := by omega
  have HL := Lib.hid hlen
  clear hd hlen part
  go_enter Tryz.func36, Tryz.ntmps36
  go_wp2_with (first | (go_at_call 64; refine (ready_yes F _ false c0 c3).mono ?_; rintro e w' ⟨rfl, rfl⟩) | (go_at_call 65; refine (has_yes F B _ _ cb _ _ hbs c1 ⟨by omega, by omega, by omega⟩).mono ?_; rintro e w' ⟨rfl, rfl⟩) | fail)
  all_goals
    refine (cloneB_some _ _ _ _ ((s.part A K).map bv) ?_ ?_ (one_bytes _) ?_).mono ?_
    · rw [List.length_map, FS.part_length _ _ _ ⟨h0, h1, h2⟩]; omega
    · omega
    · intro i u hu
      first
      | (have hK : K = 0 := by omega
         subst hK; simp [FS.part] at hu)
      | (rw [Addr.add_off]
         have := HP.out i u (by simpa [FS.part, List.map_drop, List.map_take] using hu)
         simpa using this)
    · rintro e w1 ⟨b, c, rfl, hb, hr, hk⟩
      go_wp2
      go_ret2
      exact ⟨b, c, by first | rfl | simp, hb, hr, hk⟩

set_option maxRecDepth 100000 in
set_option maxHeartbeats 400000 in
theorem Read_down {F B W M : Nat} {s : FS} (w : World) (h : FlashAt w F B W M s) (a n : Int) (hd : s.down = true) :
    Calls Tryz.prog 36 #[.pointer (some ⟨F, 0, none⟩), .int .i64 a, .int .i64 n] w fun e w' => e = .returned (.tuple #[.slice none 0 0, .int .i64 12]) ∧ w = w' := by
  obtain ⟨cb, cw, mv, c0, c1, c2, c3, c4, c5, c6, cf, rB, rW, rM⟩ := h.cells
  rw [hd] at c3
  clear hd
  go_enter Tryz.func36, Tryz.ntmps36
  go_wp2_with (go_at_call 64; refine (ready_yes F _ true c0 c3).mono ?_; rintro e w' ⟨rfl, rfl⟩)
  go_ret2
  exact ⟨rfl, rfl⟩

set_option maxRecDepth 100000 in
set_option maxHeartbeats 400000 in
theorem Read_not (p : Option Addr) (w : World) (h : NotMade w p) (a n : Int) :
    Calls Tryz.prog 36 #[.pointer p, .int .i64 a, .int .i64 n] w fun e w' => e = .returned (.tuple #[.slice none 0 0, .int .i64 1]) ∧ w = w' := by
  go_enter Tryz.func36, Tryz.ntmps36
  go_wp2_with (go_at_call 64; refine (ready_not _ _ h).mono ?_; rintro e w' ⟨rfl, rfl⟩)
  go_ret2
  exact ⟨rfl, rfl⟩

set_option maxRecDepth 100000 in
set_option maxHeartbeats 400000 in
theorem Read_out {F B W M : Nat} {s : FS} (w : World) (h : FlashAt w F B W M s) (a n : Int) (hn : n ≤ 9223372036854775807) (hd : s.down = false) (hh : ¬ s.has a n) :
    Calls Tryz.prog 36 #[.pointer (some ⟨F, 0, none⟩), .int .i64 a, .int .i64 n] w fun e w' => e = .returned (.tuple #[.slice none 0 0, .int .i64 10]) ∧ w = w' := by
  obtain ⟨cb, cw, mv, c0, c1, c2, c3, c4, c5, c6, cf, rB, rW, rM⟩ := h.cells
  have hlen := h.len
  have hfew := h.few
  have hbs : s.bs.length ≤ 65536 := by omega
  rw [hd] at c3
  clear hd hlen
  go_enter Tryz.func36, Tryz.ntmps36
  go_wp2_with (first | (go_at_call 64; refine (ready_yes F _ false c0 c3).mono ?_; rintro e w' ⟨rfl, rfl⟩) | (go_at_call 65; refine (has_no F B _ _ cb _ _ hbs c1 hn hh).mono ?_; rintro e w' ⟨rfl, rfl⟩) | fail)
  go_ret2
  exact ⟨rfl, rfl⟩

set_option maxRecDepth 100000 in
set_option maxHeartbeats 400000 in
theorem Sectors_yes {F B W M : Nat} {s : FS} (w : World) (h : FlashAt w F B W M s) :
    Calls Tryz.prog 40 #[.pointer (some ⟨F, 0, none⟩)] w fun e w' => e = .returned (.int .i64 s.wear.length) ∧ w = w' := by
  obtain ⟨cb, cw, mv, c0, c1, c2, c3, c4, c5, c6, cf, rB, rW, rM⟩ := h.cells
  go_enter Tryz.func40, Tryz.ntmps40
  go_wp2_with (go_at_call 69; refine (made_yes F _ c0).mono ?_; rintro e w' ⟨rfl, rfl⟩)
  go_ret
  exact ⟨rfl, rfl⟩

set_option maxRecDepth 100000 in
set_option maxHeartbeats 400000 in
theorem Sectors_not (p : Option Addr) (w : World) (h : NotMade w p) :
    Calls Tryz.prog 40 #[.pointer p] w fun e w' => e = .returned (.int .i64 0) ∧ w = w' := by
  go_enter Tryz.func40, Tryz.ntmps40
  go_wp2_with (go_at_call 69; refine (made_not _ _ h).mono ?_; rintro e w' ⟨rfl, rfl⟩)
  go_ret
  exact ⟨rfl, rfl⟩

set_option maxRecDepth 100000 in
set_option maxHeartbeats 400000 in
theorem Wear_not (p : Option Addr) (w : World) (h : NotMade w p) (a : Int) :
    Calls Tryz.prog 117 #[.pointer p, .int .i64 a] w fun e w' => e = .returned (.int .i64 0) ∧ w = w' := by
  go_enter Tryz.func117, Tryz.ntmps117
  go_wp2_with (go_at_call 69; refine (made_not _ _ h).mono ?_; rintro e w' ⟨rfl, rfl⟩)
  go_ret
  exact ⟨rfl, rfl⟩

set_option maxRecDepth 100000 in
set_option maxHeartbeats 400000 in
theorem Wear_out {F B W M : Nat} {s : FS} (w : World) (h : FlashAt w F B W M s) (a : Int) (ha : ¬ (0 ≤ a ∧ a < s.wear.length)) :
    Calls Tryz.prog 117 #[.pointer (some ⟨F, 0, none⟩), .int .i64 a] w fun e w' => e = .returned (.int .i64 0) ∧ w = w' := by
  obtain ⟨cb, cw, mv, c0, c1, c2, c3, c4, c5, c6, cf, rB, rW, rM⟩ := h.cells
  go_enter Tryz.func117, Tryz.ntmps117
  go_wp2_with (first | (go_at_call 69; refine (made_yes F _ c0).mono ?_; rintro e w' ⟨rfl, rfl⟩) | (go_at_call 95; refine (hasSector_no F W _ _ cw _ c2 ha).mono ?_; rintro e w' ⟨rfl, rfl⟩) | fail)
  go_ret
  exact ⟨rfl, rfl⟩

set_option maxRecDepth 100000 in
set_option maxHeartbeats 400000 in
theorem Wear_yes {F B W M : Nat} {s : FS} (w : World) (h : FlashAt w F B W M s) (a : Nat) (x : Int) (hx : s.wear[a]? = some x) :
    Calls Tryz.prog 117 #[.pointer (some ⟨F, 0, none⟩), .int .i64 a] w fun e w' => e = .returned (.int .i64 x) ∧ w = w' := by
  obtain ⟨cb, cw, mv, c0, c1, c2, c3, c4, c5, c6, cf, rB, rW, rM⟩ := h.cells
  have hlt : a < s.wear.length := (List.getElem?_eq_some_iff.1 hx).1
  have hlt' : (a : Int) < s.wear.length := by omega
  have hfew := h.few
  have cx : w.cell? ⟨W, a, none⟩ = some (.int .i64 x) := rW.cell a (by simp [hx])
  clear hx
  go_enter Tryz.func117, Tryz.ntmps117
  go_wp2_with (first | (go_at_call 69; refine (made_yes F _ c0).mono ?_; rintro e w' ⟨rfl, rfl⟩) | (go_at_call 95; refine (hasSector_yes F W _ _ cw _ c2 ⟨by omega, by omega⟩).mono ?_; rintro e w' ⟨rfl, rfl⟩) | fail)
  go_ret
  exact ⟨rfl, rfl⟩
end Go.Proofs.YtlnmbfddhdjioaaGreat

namespace Go.Proofs.YtlnmbfddhdjioaaGreat
open Go.RowKit

/-- The four cells of the power, stored one by one. -/
theorem FlashAt.power {w : World} {F B W M : Nat} {s : FS} (hF : FlashAt w F B W M s) (d a : Bool) (l : Int) (mv : Value) (m : List UInt8) (M' : Nat) (l0 : 0 ≤ l) (l1 : l ≤ 9223372036854775807)
    (hm : m.length ≤ 65536) (hM : M' ≠ F ∧ M' ≠ B ∧ M' ≠ W) (hr : Reads w mv m M') :
    FlashAt ((((w.setCell ⟨F, 3, none⟩ (.bool d)).setCell ⟨F, 4, none⟩ (.bool a)).setCell ⟨F, 5, none⟩ (.int .i64 l)).setCell ⟨F, 6, none⟩ mv) F B W M' { s with down := d, armed := a, left := l, mask := m } ∧
    Keeps [F] w ((((w.setCell ⟨F, 3, none⟩ (.bool d)).setCell ⟨F, 4, none⟩ (.bool a)).setCell ⟨F, 5, none⟩ (.int .i64 l)).setCell ⟨F, 6, none⟩ mv) := by
  obtain ⟨cb, cw, mv0, f, b, c, _⟩ := hF.here
  have k : Keeps [F] w ((((w.setCell ⟨F, 3, none⟩ (.bool d)).setCell ⟨F, 4, none⟩ (.bool a)).setCell ⟨F, 5, none⟩ (.int .i64 l)).setCell ⟨F, 6, none⟩ mv) :=
    (((Keeps.setCell w (by simp) _).trans (Keeps.setCell _ (by simp) _)).trans (Keeps.setCell _ (by simp) _)).trans (Keeps.setCell _ (by simp) _)
  refine ⟨{ hF with left0 := l0, left1 := l1, maskl := hm, nM := hM, here := ⟨cb, cw, mv, ?_, b.keeps k (by simpa using Ne.symm hF.nFB), c.keeps k (by simpa using Ne.symm hF.nFW), hr.keeps k (by simpa using hM.1)⟩ }, k⟩
  have h1 := heap_setCell_at w F 3 (.bool d) _ _ _ f
  have h2 := heap_setCell_at _ F 4 (.bool a) _ _ _ h1
  have h3 := heap_setCell_at _ F 5 (.int .i64 l) _ _ _ h2
  have h4 := heap_setCell_at _ F 6 mv _ _ _ h3
  simpa using h4

def FS.up (s : FS) : FS := { s with down := false, armed := false, left := 0, mask := [] }

def FS.arm (s : FS) (n : Int) (m : List UInt8) : FS := { s with down := false, armed := true, left := n, mask := m.take s.bs.length }

/-- May bytes be programmed there? -/
def FS.mayProgram (s : FS) (a n : Int) : Int := if s.down then 12 else if ¬ s.has a n then 10 else if a % 4 ≠ 0 ∨ n % 4 ≠ 0 then 11 else 0

set_option maxRecDepth 100000 in
set_option maxHeartbeats 400000 in
theorem mayProgram_not (p : Option Addr) (w : World) (h : NotMade w p) (a n : Int) :
    Calls Tryz.prog 101 #[.pointer p, .int .i64 a, .int .i64 n] w fun e w' => e = .returned (.int .i64 1) ∧ w = w' := by
  go_enter Tryz.func101, Tryz.ntmps101
  go_wp2_with (go_at_call 64; refine (ready_not _ _ h).mono ?_; rintro e w' ⟨rfl, rfl⟩)
  go_ret
  exact ⟨rfl, rfl⟩

set_option maxRecDepth 100000 in
set_option maxHeartbeats 400000 in
theorem mayProgram_yes {F B W M : Nat} {s : FS} (w : World) (hF : FlashAt w F B W M s) (a n : Int) (hn : n ≤ 9223372036854775807) :
    Calls Tryz.prog 101 #[.pointer (some ⟨F, 0, none⟩), .int .i64 a, .int .i64 n] w fun e w' => e = .returned (.int .i64 (s.mayProgram a n)) ∧ w = w' := by
  obtain ⟨cb, cw, mv, c0, c1, c2, c3, c4, c5, c6, cf, rB, rW, rM⟩ := hF.cells
  have hlen := hF.len
  have hfew := hF.few
  have hbs : s.bs.length ≤ 65536 := by omega
  clear hlen
  cases hd : s.down with
  | true =>
    rw [hd] at c3
    have Hr := Lib.hid (show s.mayProgram a n = 12 by simp [FS.mayProgram, hd])
    clear hd
    go_enter Tryz.func101, Tryz.ntmps101
    go_wp2_with (go_at_call 64; refine (ready_yes F _ true c0 c3).mono ?_; rintro e w' ⟨rfl, rfl⟩)
    go_ret
    exact ⟨by rw [Hr.out]; rfl, rfl⟩
  | false =>
    rw [hd] at c3
    by_cases hh : s.has a n
    · have h3 := hh
      obtain ⟨h0, h1, h2⟩ := h3
      by_cases ha : a % 4 = 0
      · by_cases hb : n % 4 = 0
        · have Hr := Lib.hid (show s.mayProgram a n = 0 by simp [FS.mayProgram, hd, hh, ha, hb])
          have ha' : (a % 4 != 0) = false := by simp [ha]
          have hb' : (n % 4 != 0) = false := by simp [hb]
          clear hd ha hb
          go_enter Tryz.func101, Tryz.ntmps101
          go_wp2_with (first | (go_at_call 64; refine (ready_yes F _ false c0 c3).mono ?_; rintro e w' ⟨rfl, rfl⟩) | (go_at_call 65; refine (has_yes F B _ _ cb _ _ hbs c1 hh).mono ?_; rintro e w' ⟨rfl, rfl⟩) | fail)
          go_ret
          exact ⟨by rw [Hr.out]; rfl, rfl⟩
        · have Hr := Lib.hid (show s.mayProgram a n = 11 by simp [FS.mayProgram, hd, hh, hb])
          have ha' : (a % 4 != 0) = false := by simp [ha]
          have hb' : (n % 4 != 0) = true := by simp [hb]
          clear hd ha hb
          go_enter Tryz.func101, Tryz.ntmps101
          go_wp2_with (first | (go_at_call 64; refine (ready_yes F _ false c0 c3).mono ?_; rintro e w' ⟨rfl, rfl⟩) | (go_at_call 65; refine (has_yes F B _ _ cb _ _ hbs c1 hh).mono ?_; rintro e w' ⟨rfl, rfl⟩) | fail)
          go_ret
          exact ⟨by rw [Hr.out]; rfl, rfl⟩
      · have Hr := Lib.hid (show s.mayProgram a n = 11 by simp [FS.mayProgram, hd, hh, ha])
        have ha' : (a % 4 != 0) = true := by simp [ha]
        clear hd ha
        go_enter Tryz.func101, Tryz.ntmps101
        go_wp2_with (first | (go_at_call 64; refine (ready_yes F _ false c0 c3).mono ?_; rintro e w' ⟨rfl, rfl⟩) | (go_at_call 65; refine (has_yes F B _ _ cb _ _ hbs c1 hh).mono ?_; rintro e w' ⟨rfl, rfl⟩) | fail)
        go_ret
        exact ⟨by rw [Hr.out]; rfl, rfl⟩
    · have Hr := Lib.hid (show s.mayProgram a n = 10 by simp [FS.mayProgram, hd, hh])
      clear hd
      go_enter Tryz.func101, Tryz.ntmps101
      go_wp2_with (first | (go_at_call 64; refine (ready_yes F _ false c0 c3).mono ?_; rintro e w' ⟨rfl, rfl⟩) | (go_at_call 65; refine (has_no F B _ _ cb _ _ hbs c1 hn hh).mono ?_; rintro e w' ⟨rfl, rfl⟩) | fail)
      go_ret
      exact ⟨by rw [Hr.out]; rfl, rfl⟩

def FS.mayErase (s : FS) (a : Int) : Int := if s.down then 12 else if ¬ (0 ≤ a ∧ a < s.wear.length) then 10 else 0

set_option maxRecDepth 100000 in
set_option maxHeartbeats 400000 in
theorem mayErase_not (p : Option Addr) (w : World) (h : NotMade w p) (a : Int) :
    Calls Tryz.prog 72 #[.pointer p, .int .i64 a] w fun e w' => e = .returned (.int .i64 1) ∧ w = w' := by
  go_enter Tryz.func72, Tryz.ntmps72
  go_wp2_with (go_at_call 64; refine (ready_not _ _ h).mono ?_; rintro e w' ⟨rfl, rfl⟩)
  go_ret
  exact ⟨rfl, rfl⟩

set_option maxRecDepth 100000 in
set_option maxHeartbeats 400000 in
theorem mayErase_yes {F B W M : Nat} {s : FS} (w : World) (hF : FlashAt w F B W M s) (a : Int) :
    Calls Tryz.prog 72 #[.pointer (some ⟨F, 0, none⟩), .int .i64 a] w fun e w' => e = .returned (.int .i64 (s.mayErase a)) ∧ w = w' := by
  obtain ⟨cb, cw, mv, c0, c1, c2, c3, c4, c5, c6, cf, rB, rW, rM⟩ := hF.cells
  cases hd : s.down with
  | true =>
    rw [hd] at c3
    have Hr := Lib.hid (show s.mayErase a = 12 by simp [FS.mayErase, hd])
    clear hd
    go_enter Tryz.func72, Tryz.ntmps72
    go_wp2_with (go_at_call 64; refine (ready_yes F _ true c0 c3).mono ?_; rintro e w' ⟨rfl, rfl⟩)
    go_ret
    exact ⟨by rw [Hr.out]; rfl, rfl⟩
  | false =>
    rw [hd] at c3
    by_cases hh : 0 ≤ a ∧ a < s.wear.length
    · have Hr := Lib.hid (show s.mayErase a = 0 by simp [FS.mayErase, hd, hh])
      have HH := Lib.hid hh
      clear hd hh
      go_enter Tryz.func72, Tryz.ntmps72
      go_wp2_with (first | (go_at_call 64; refine (ready_yes F _ false c0 c3).mono ?_; rintro e w' ⟨rfl, rfl⟩) | (go_at_call 95; refine (hasSector_yes F W _ _ cw _ c2 HH.out).mono ?_; rintro e w' ⟨rfl, rfl⟩) | fail)
      go_ret
      exact ⟨by rw [Hr.out]; rfl, rfl⟩
    · have Hr := Lib.hid (show s.mayErase a = 10 by simp [FS.mayErase, hd]; omega)
      have HH := Lib.hid hh
      clear hd hh
      go_enter Tryz.func72, Tryz.ntmps72
      go_wp2_with (first | (go_at_call 64; refine (ready_yes F _ false c0 c3).mono ?_; rintro e w' ⟨rfl, rfl⟩) | (go_at_call 95; refine (hasSector_no F W _ _ cw _ c2 HH.out).mono ?_; rintro e w' ⟨rfl, rfl⟩) | fail)
      go_ret
      exact ⟨by rw [Hr.out]; rfl, rfl⟩
end Go.Proofs.YtlnmbfddhdjioaaGreat

namespace Go.Proofs.YtlnmbfddhdjioaaGreat
open Go.RowKit

set_option maxRecDepth 100000 in
set_option maxHeartbeats 400000 in
theorem whole_any (w : World) (i : Int) : Calls Tryz.prog 97 #[.int .i64 i] w fun e w' => e = .returned (.int .u8 255) ∧ w = w' := by
  go_enter Tryz.func97, Tryz.ntmps97
  go_wp2
  go_ret
  exact ⟨rfl, rfl⟩

set_option maxRecDepth 100000 in
set_option maxHeartbeats 400000 in
theorem set_any (w : World) (i : Int) (a b : Value) : Calls Tryz.prog 73 #[.int .i64 i, a, b] w fun e w' => e = .returned b ∧ w = w' := by
  go_enter Tryz.func73, Tryz.ntmps73
  go_wp2
  go_ret
  exact ⟨rfl, rfl⟩

set_option maxRecDepth 100000 in
set_option maxHeartbeats 400000 in
theorem torn_in (w : World) (F M off cap n : Nat) (i : Nat) (c : UInt8) (_hn : n ≤ 65536) (h6 : w.cell? ⟨F, 6, none⟩ = some (.slice (some ⟨M, off, none⟩) n cap)) (hi : i < n) (hc : w.cell? ⟨M, off + i, none⟩ = some (bv c)) :
    Calls Tryz.prog 98 #[.pointer (some ⟨F, 3, none⟩), .int .i64 i] w fun e w' => e = .returned (bv c) ∧ w = w' := by
  go_enter Tryz.func98, Tryz.ntmps98
  go_wp2
  go_ret
  exact ⟨rfl, rfl⟩

set_option maxRecDepth 100000 in
set_option maxHeartbeats 400000 in
theorem torn_out (w : World) (F cap n : Nat) (ao : Option Addr) (i : Nat) (_hn : n ≤ 65536) (h6 : w.cell? ⟨F, 6, none⟩ = some (.slice ao n cap)) (hi : n ≤ i) :
    Calls Tryz.prog 98 #[.pointer (some ⟨F, 3, none⟩), .int .i64 i] w fun e w' => e = .returned (bv 0) ∧ w = w' := by
  go_enter Tryz.func98, Tryz.ntmps98
  go_wp2
  go_ret
  exact ⟨rfl, rfl⟩

theorem torn_any (w : World) (F M : Nat) (mv : Value) (m : List UInt8) (i : Nat) (hm : m.length ≤ 65536) (h6 : w.cell? ⟨F, 6, none⟩ = some mv) (hr : Reads w mv m M) :
    Calls Tryz.prog 98 #[.pointer (some ⟨F, 3, none⟩), .int .i64 i] w fun e w' => e = .returned (bv (m.getD i 0)) ∧ w' = w := by
  by_cases hi : i < m.length
  · obtain ⟨off, cap, rfl, _, hc⟩ := hr.at (by intro e; simp [e] at hi)
    have hmi : m[i]? = some m[i] := List.getElem?_eq_getElem hi
    rw [show m.getD i 0 = m[i] by simp [List.getD, hmi]]
    exact (torn_in w F M off cap m.length i m[i] hm h6 hi (hc i _ hmi)).mono fun _ _ h => ⟨h.1, h.2.symm⟩
  · rw [show m.getD i 0 = 0 by simp [List.getD, List.getElem?_eq_none (Nat.le_of_not_lt hi)]]
    obtain ⟨ao, cap, rfl⟩ : ∃ ao cap, mv = .slice ao m.length cap := by
      rcases hr with ⟨rfl, rfl⟩ | ⟨ad, cap, rfl, _⟩
      · exact ⟨none, 0, rfl⟩
      · exact ⟨_, _, rfl⟩
    exact (torn_out w F cap m.length ao i hm h6 (by omega)).mono fun _ _ h => ⟨h.1, h.2.symm⟩

theorem andNot_u8 (a b : UInt8) : bits .andNot .u8 (a.toNat : Int) (b.toNat : Int) = ((a &&& ~~~b).toNat : Int) := by
  have ha := a.toNat_lt
  have hb := b.toNat_lt
  rw [u8_andNot_nat _ _ (by omega) (by omega)]
  simp [UInt8.toNat_and, UInt8.toNat_not]

/-- What becomes of a byte that is programmed, with the bits of through let through. -/
def clears (old through b : UInt8) : UInt8 := old &&& ~~~(through &&& ~~~b)

set_option maxRecDepth 100000 in
set_option maxHeartbeats 400000 in
theorem cleared_any (w : World) (bx M off cap n : Nat) (i : Nat) (old through c : UInt8) (_hn : n ≤ 65536) (hb : w.cell? ⟨bx, 0, none⟩ = some (.slice (some ⟨M, off, none⟩) n cap)) (hi : i < n) (hc : w.cell? ⟨M, off + i, none⟩ = some (bv c)) :
    Calls Tryz.prog 102 #[.int .i64 i, bv old, bv through, .pointer (some ⟨bx, 0, none⟩)] w fun e w' => e = .returned (bv (clears old through c)) ∧ w = w' := by
  have h1 := old.toNat_lt
  have h2 := through.toNat_lt
  have h3 := c.toNat_lt
  unfold bv at *
  go_enter Tryz.func102, Tryz.ntmps102
  go_wp2
  go_ret
  refine ⟨?_, rfl⟩
  show Ending.returned (.int .u8 (bits .andNot .u8 (old.toNat : Int) (bits .andNot .u8 (through.toNat : Int) (c.toNat : Int)))) = _
  rw [andNot_u8, andNot_u8]
  rfl

/-- Bytes of which those from a on, k of them, were turned, each by its place and what it was. -/
def span (bs : List UInt8) (a k : Nat) (g : Nat → UInt8 → UInt8) : List UInt8 := bs.mapIdx fun j c => if a ≤ j ∧ j < a + k then g (j - a) c else c

theorem span_length (bs : List UInt8) (a k : Nat) (g : Nat → UInt8 → UInt8) : (span bs a k g).length = bs.length := by simp [span]

theorem span_zero (bs : List UInt8) (a : Nat) (g : Nat → UInt8 → UInt8) : span bs a 0 g = bs := by
  refine List.ext_getElem? fun j => ?_
  simp only [span, List.getElem?_mapIdx]
  cases h : bs[j]? with
  | none => rfl
  | some c => simp only [Option.map_some]; rw [if_neg (by omega)]

theorem span_at (bs : List UInt8) (a k : Nat) (g : Nat → UInt8 → UInt8) : (span bs a k g)[a + k]? = bs[a + k]? := by
  simp only [span, List.getElem?_mapIdx]
  cases h : bs[a + k]? with
  | none => rfl
  | some c => simp only [Option.map_some]; rw [if_neg (by omega)]

theorem span_set (bs : List UInt8) (a k : Nat) (g : Nat → UInt8 → UInt8) (c : UInt8) (hc : bs[a + k]? = some c) : (span bs a k g).set (a + k) (g k c) = span bs a (k + 1) g := by
  refine List.ext_getElem? fun j => ?_
  rw [List.getElem?_set]
  simp only [span_length]
  have hlt := (List.getElem?_eq_some_iff.1 hc).1
  simp only [span, List.getElem?_mapIdx]
  by_cases h : a + k = j
  · subst h
    rw [if_pos rfl, if_pos hlt, hc]
    simp
  · rw [if_neg h]
    cases h2 : bs[j]? with
    | none => rfl
    | some d =>
      simp only [Option.map_some, Option.some.injEq]
      by_cases h3 : a ≤ j ∧ j < a + k
      · rw [if_pos h3, if_pos (by omega)]
      · rw [if_neg h3, if_neg (by omega)]

theorem span_more (bs : List UInt8) (a k : Nat) (g : Nat → UInt8 → UInt8) (c : UInt8) (hc : bs[a + k]? = some c) : ((span bs a k g).map bv).set (a + k) (bv (g k c)) = (span bs a (k + 1) g).map bv := by
  rw [← List.map_set, span_set bs a k g c hc]

end Go.Proofs.YtlnmbfddhdjioaaGreat
