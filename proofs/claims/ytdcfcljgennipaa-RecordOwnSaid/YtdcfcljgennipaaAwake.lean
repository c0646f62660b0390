/-
  Contracts: lightshiplaw01's stands and awake (the chapter's examples).
-/
import Derived.Test.YtdcfcljgennipaaFlashK
import Derived.Test.YtdcfcljgennipaaBase
namespace Go.Proofs.Ytdcfcljgennipaa
open Go.RowKit

theorem Reads.built (w : World) (l : List UInt8) (cs : Array Value) (T : TypeId) (n : Nat) (hcs : cs = (l.map bv).toArray) (hn : n = l.length) :
    Reads (w.alloc (.cells cs T)) (.slice (some ⟨w.heap.size, 0, none⟩) n n) l w.heap.size := by
  subst hn
  refine .inr ⟨⟨w.heap.size, 0, none⟩, l.length, rfl, Nat.le_refl _, fun _ => rfl, fun i c hi => ?_⟩
  rw [Addr.add_off, Nat.zero_add, cell_alloc_new, hcs]
  simp [hi]

theorem Program_lit {F B W M : Nat} {s : FS} (w : World) (hF : FlashAt w F B W M s) (a : Int) (l : List UInt8) (cs : Array Value) (n : Nat) (s' : FS) (r : Int) (hcs : cs = (l.map bv).toArray) (hn : n = l.length) (hl : l.length ≤ 65536) (hp : s.program a l = (s', r)) :
    Calls Try.prog 43 #[.pointer (some ⟨F, 0, none⟩), .int .i64 a, .slice (some ⟨w.heap.size, 0, none⟩) n n] (w.alloc (.cells cs 5)) fun e w' => e = .returned (.int .i64 r) ∧ FlashAt w' F B W M s' ∧ Keeps [F, B] w w' := by
  have hk := Keeps.alloc [] w (.cells cs 5)
  have hF2 := hF.keeps hk (by simp) (by simp) (by simp) (by simp)
  have hlt := hF.lt
  have := Program_yes _ hF2 a _ l w.heap.size (Reads.built w l cs 5 n hcs hn) ⟨by omega, by omega⟩ (by omega)
  rw [hp] at this
  exact this.mono fun _ w' h => ⟨h.1, h.2.1, (hk.mono (by simp)).trans h.2.2⟩

theorem Arm_lit {F B W M : Nat} {s : FS} (w : World) (hF : FlashAt w F B W M s) (a : Int) (l : List UInt8) (cs : Array Value) (n : Nat) (hcs : cs = (l.map bv).toArray) (hn : n = l.length) (hl : l.length ≤ 65536) (hd : s.down = false) (ha : 0 ≤ a) (ha' : a ≤ 9223372036854775807) :
    Calls Try.prog 41 #[.pointer (some ⟨F, 0, none⟩), .int .i64 a, .slice (some ⟨w.heap.size, 0, none⟩) n n] (w.alloc (.cells cs 5)) fun e w' => e = .returned (.int .i64 0) ∧ ∃ M', w.heap.size ≤ M' ∧ FlashAt w' F B W M' (s.arm a l) ∧ Keeps [F] w w' := by
  have hk := Keeps.alloc [] w (.cells cs 5)
  have hF2 := hF.keeps hk (by simp) (by simp) (by simp) (by simp)
  refine (Arm_some _ hF2 a hd ha ha' ⟨w.heap.size, 0, none⟩ n n l hn.symm (Nat.le_refl _) (by omega) (fun i c hi => ?_)).mono fun _ w' h => ⟨h.1, ?_⟩
  · rw [Addr.add_off, Nat.zero_add, cell_alloc_new, hcs]
    simp [hi]
  · obtain ⟨M', h1, h2, h3⟩ := h.2
    simp at h1
    exact ⟨M', by omega, h2, (hk.mono (by simp)).trans h3⟩

theorem Erase_lit {F B W M : Nat} {s : FS} (w : World) (hF : FlashAt w F B W M s) (a : Int) (s' : FS) (r : Int) (hw : ∀ x ∈ s.wear, 0 ≤ x ∧ x < 9223372036854775807) (hp : s.erase a = (s', r)) :
    Calls Try.prog 61 #[.pointer (some ⟨F, 0, none⟩), .int .i64 a] w fun e w' => e = .returned (.int .i64 r) ∧ FlashAt w' F B W M s' ∧ Keeps [F, B, W] w w' := by
  have := Erase_yes w hF a hw
  rw [hp] at this
  exact this

theorem part_rep (N a m : Nat) (c : UInt8) (h : a + m ≤ N) : ((List.replicate N c).drop a).take m = List.replicate m c := by
  rw [List.drop_replicate, List.take_replicate, Nat.min_eq_left (by omega)]

theorem part_span_in (bs : List UInt8) (a n a' m : Nat) (g : Nat → UInt8 → UInt8) (h1 : a ≤ a') (h2 : a' + m ≤ a + n) :
    ((span bs a n g).drop a').take m = ((bs.drop a').take m).mapIdx fun i c => g (a' - a + i) c := by
  refine List.ext_getElem? fun i => ?_
  simp only [List.getElem?_take, List.getElem?_drop, span, List.getElem?_mapIdx]
  by_cases hi : i < m
  · simp only [if_pos hi]
    cases h : bs[a' + i]? with
    | none => rfl
    | some c =>
      simp only [Option.map_some]
      rw [if_pos (by omega), show a' + i - a = a' - a + i by omega]
  · simp [hi]

theorem part_span_out (bs : List UInt8) (a n a' m : Nat) (g : Nat → UInt8 → UInt8) (h : a' + m ≤ a ∨ a + n ≤ a') :
    ((span bs a n g).drop a').take m = (bs.drop a').take m := by
  refine List.ext_getElem? fun i => ?_
  simp only [List.getElem?_take, List.getElem?_drop, span, List.getElem?_mapIdx]
  by_cases hi : i < m
  · simp only [if_pos hi]
    cases h : bs[a' + i]? with
    | none => rfl
    | some c =>
      simp only [Option.map_some]
      rw [if_neg (by omega)]
  · simp [hi]

theorem FS.mayProgram_ok {s : FS} {a n : Int} (hd : s.down = false) (hh : s.has a n) (ha : a % 4 = 0) (hn : n % 4 = 0) : s.mayProgram a n = 0 := by
  unfold FS.mayProgram; rw [if_neg (by simp [hd]), if_neg (fun h => h hh), if_neg (by omega)]

theorem FS.mayProgram_align {s : FS} {a n : Int} (hd : s.down = false) (hh : s.has a n) (ha : a % 4 ≠ 0 ∨ n % 4 ≠ 0) : s.mayProgram a n = 11 := by
  unfold FS.mayProgram; rw [if_neg (by simp [hd]), if_neg (fun h => h hh), if_pos ha]

theorem FS.mayProgram_out {s : FS} {a n : Int} (hd : s.down = false) (hh : ¬ s.has a n) : s.mayProgram a n = 10 := by
  unfold FS.mayProgram; rw [if_neg (by simp [hd]), if_pos hh]

theorem FS.program_no {s : FS} {a : Int} {b : List UInt8} {e : Int} (h : s.mayProgram a b.length = e) (he : e ≠ 0) : s.program a b = (s, e) := by
  unfold FS.program; rw [if_pos (.inl (by rw [h]; exact he)), h]

theorem FS.program_let {s : FS} {a : Int} {b : List UInt8} (h : s.mayProgram a b.length = 0) (hb : b ≠ []) : s.program a b = s.let a.toNat b.length (gClear b) := by
  unfold FS.program; rw [if_neg (by simp [h, hb])]

theorem FS.let_whole {s : FS} {a n : Nat} {g : UInt8 → Nat → UInt8 → UInt8} (h : s.armed = false) : s.let a n g = ({ s with bs := span s.bs a n (g 255) }, 0) := by
  unfold FS.let; rw [if_neg (by simp [h])]; simp [h]

theorem FS.let_torn {s : FS} {a n : Nat} {g : UInt8 → Nat → UInt8 → UInt8} (h : s.armed = true) (hl : s.left = 0) :
    s.let a n g = ({ s with bs := span s.bs a n fun i c => g (s.mask.getD i 0) i c, down := true, armed := false, left := 0, mask := [] }, 12) := by
  unfold FS.let; rw [if_pos ⟨h, hl⟩]

theorem FS.erase_let {s : FS} {a : Int} (hd : s.down = false) (h : 0 ≤ a ∧ a < s.wear.length) : s.erase a = { s with wear := s.wear.set a.toNat (s.wear.getD a.toNat 0 + 1) }.let (a.toNat * 256) 256 gSet := by
  have : s.mayErase a = 0 := by unfold FS.mayErase; rw [if_neg (by simp [hd]), if_neg (fun q => q h)]
  unfold FS.erase; rw [if_neg (by simp [this])]

/-- A flash of eight sectors that is new. -/
structure Start (s : FS) : Prop where
  len : s.bs.length = 2048
  all : ∀ a m, a + m ≤ 2048 → (s.bs.drop a).take m = List.replicate m 255
  wear : s.wear = [0, 0, 0, 0, 0, 0, 0, 0]
  down : s.down = false
  armed : s.armed = false

theorem start_new : Start (FS.new 8) :=
  ⟨by unfold FS.new; rw [List.length_replicate], fun a m h => by unfold FS.new; exact part_rep _ a m 255 (by omega), rfl, rfl, rfl⟩

variable (s : FS)
def S1 : FS := { s with bs := span s.bs 4 4 (gClear [15, 15, 15, 15] 255) }
def S2 : FS := { S1 s with bs := span (S1 s).bs 4 4 (gClear [240, 255, 0, 1] 255) }
def S3 : FS := (S2 s).arm 0 [255, 1]
def S4 : FS := { S3 s with bs := span (S3 s).bs 8 4 fun i c => gClear [0, 0, 0, 0] ((S3 s).mask.getD i 0) i c, down := true, armed := false, left := 0, mask := [] }
def S5 : FS := (S4 s).up
def S6 : FS := (S5 s).arm 0 [7]
def S7 : FS := { S6 s with wear := (S6 s).wear.set 0 ((S6 s).wear.getD 0 0 + 1), bs := span (S6 s).bs (0 * 256) 256 fun i c => gSet ((S6 s).mask.getD i 0) i c, down := true, armed := false, left := 0, mask := [] }
def S8 : FS := (S7 s).up
def S9 : FS := { S8 s with wear := (S8 s).wear.set 0 ((S8 s).wear.getD 0 0 + 1), bs := span (S8 s).bs (0 * 256) 256 (gSet 255) }
variable {s : FS} (st : Start s)
include st
theorem l1 : (S1 s).bs.length = 2048 := by show (span _ _ _ _).length = _; rw [span_length, st.len]
theorem l2 : (S2 s).bs.length = 2048 := by show (span _ _ _ _).length = _; rw [span_length, l1 st]
theorem l3 : (S3 s).bs.length = 2048 := l2 st
theorem l4 : (S4 s).bs.length = 2048 := by unfold S4; dsimp only; rw [span_length, l3 st]
theorem l5 : (S5 s).bs.length = 2048 := l4 st
theorem l6 : (S6 s).bs.length = 2048 := l5 st
theorem l7 : (S7 s).bs.length = 2048 := by unfold S7; dsimp only; rw [span_length, l6 st]
theorem l8 : (S8 s).bs.length = 2048 := l7 st
theorem l9 : (S9 s).bs.length = 2048 := by show (span _ _ _ _).length = _; rw [span_length, l8 st]
theorem m3 : (S3 s).mask = [255, 1] := by show ([255, 1] : List UInt8).take (S2 s).bs.length = _; rw [l2 st]; rfl
theorem m6 : (S6 s).mask = [7] := by show ([7] : List UInt8).take (S5 s).bs.length = _; rw [l5 st]; rfl
theorem g6 : (S6 s).wear = [0, 0, 0, 0, 0, 0, 0, 0] := st.wear
theorem g8 : (S8 s).wear = [1, 0, 0, 0, 0, 0, 0, 0] := by show (S6 s).wear.set 0 ((S6 s).wear.getD 0 0 + 1) = _; rw [g6 st]; rfl
theorem g9 : (S9 s).wear = [2, 0, 0, 0, 0, 0, 0, 0] := by show (S8 s).wear.set 0 ((S8 s).wear.getD 0 0 + 1) = _; rw [g8 st]; rfl
theorem d2 : (S2 s).down = false := st.down
theorem e01 : s.program 4 [15, 15, 15, 15] = (S1 s, 0) := by
  rw [FS.program_let (FS.mayProgram_ok st.down (by unfold FS.has; rw [st.len]; decide) (by decide) (by decide)) (by decide), FS.let_whole st.armed]; rfl
theorem e12 : (S1 s).program 4 [240, 255, 0, 1] = (S2 s, 0) := by
  rw [FS.program_let (s := S1 s) (FS.mayProgram_ok st.down (by unfold FS.has; rw [l1 st]; decide) (by decide) (by decide)) (by decide), FS.let_whole (s := S1 s) st.armed]; rfl
theorem e2a : (S2 s).program 2 [0, 0, 0, 0] = (S2 s, 11) := FS.program_no (FS.mayProgram_align st.down (by unfold FS.has; rw [l2 st]; decide) (by decide)) (by decide)
theorem e2b : (S2 s).program 4 [0, 0, 0] = (S2 s, 11) := FS.program_no (FS.mayProgram_align st.down (by unfold FS.has; rw [l2 st]; decide) (by decide)) (by decide)
theorem e2c : (S2 s).program 2048 [0, 0, 0, 0] = (S2 s, 10) := FS.program_no (FS.mayProgram_out st.down (by unfold FS.has; rw [l2 st]; decide)) (by decide)
theorem e34 : (S3 s).program 8 [0, 0, 0, 0] = (S4 s, 12) := by
  rw [FS.program_let (FS.mayProgram_ok rfl (by unfold FS.has; rw [l3 st]; decide) (by decide) (by decide)) (by decide), FS.let_torn rfl rfl]; rfl
theorem e67 : (S6 s).erase 0 = (S7 s, 12) := by
  rw [FS.erase_let rfl (by rw [g6 st]; decide), FS.let_torn rfl rfl]; rfl
theorem e89 : (S8 s).erase 0 = (S9 s, 0) := by
  rw [FS.erase_let rfl (by rw [g8 st]; decide), FS.let_whole rfl]; rfl
theorem q2 (a m : Nat) (h : a + m ≤ 2048) (h8 : 8 ≤ a) : ((S2 s).bs.drop a).take m = List.replicate m 255 := by
  show ((span _ _ _ _).drop a).take m = _
  rw [part_span_out _ _ _ _ _ _ (.inr h8)]
  show ((span _ _ _ _).drop a).take m = _
  rw [part_span_out _ _ _ _ _ _ (.inr h8), st.all a m h]
theorem p0 : (s.part 0 (4 : Nat) == [255, 255, 255, 255]) = true := by
  show ((s.bs.drop 0).take 4 == _) = true
  rw [st.all 0 4 (by decide)]; decide
theorem p2 : ((S2 s).part 4 (4 : Nat) == [0, 15, 0, 1]) = true := by
  show (((span _ _ _ _).drop 4).take 4 == _) = true
  rw [part_span_in _ _ _ _ _ _ (by decide) (by decide)]
  show ((((span _ _ _ _).drop 4).take 4).mapIdx _ == _) = true
  rw [part_span_in _ _ _ _ _ _ (by decide) (by decide), st.all 4 4 (by decide)]; decide
theorem p5 : ((S5 s).part 8 (4 : Nat) == [0, 254, 255, 255]) = true := by
  unfold FS.part S5 FS.up S4
  dsimp only
  show (((span _ _ _ _).drop 8).take 4 == _) = true
  rw [part_span_in _ _ _ _ _ _ (by decide) (by decide), m3 st]
  show ((((S2 s).bs.drop 8).take 4).mapIdx _ == _) = true
  rw [q2 st 8 4 (by decide) (by decide)]; decide
theorem p8 : ((S8 s).part 0 (3 : Nat) == [7, 0, 0]) = true := by
  unfold FS.part S8 FS.up S7
  dsimp only
  show (((span _ _ _ _).drop 0).take 3 == _) = true
  rw [part_span_in _ _ _ _ _ _ (by decide) (by decide), m6 st]
  have h : ∃ x y z, ((S6 s).bs.drop 0).take 3 = [x, y, z] := by
    have : (((S6 s).bs.drop 0).take 3).length = 3 := by simp [l6 st]
    match ((S6 s).bs.drop 0).take 3, this with
    | [x, y, z], _ => exact ⟨x, y, z, rfl⟩
  obtain ⟨x, y, z, h⟩ := h
  rw [h]; rfl
theorem p9 : ((S9 s).part 0 (3 : Nat) == [255, 255, 255]) = true := by
  show (((span _ _ _ _).drop 0).take 3 == _) = true
  rw [part_span_in _ _ _ _ _ _ (by decide) (by decide)]
  have h : ∃ x y z, ((S8 s).bs.drop 0).take 3 = [x, y, z] := by
    have : (((S8 s).bs.drop 0).take 3).length = 3 := by simp [l8 st]
    match ((S8 s).bs.drop 0).take 3, this with
    | [x, y, z], _ => exact ⟨x, y, z, rfl⟩
  obtain ⟨x, y, z, h⟩ := h
  rw [h]; rfl
theorem h0 : s.has 0 (4 : Nat) := by unfold FS.has; rw [st.len]; decide
theorem h2 : (S2 s).has 4 (4 : Nat) := by unfold FS.has; rw [l2 st]; decide
theorem h5 : (S5 s).has 8 (4 : Nat) := by unfold FS.has; rw [l5 st]; decide
theorem h8 : (S8 s).has 0 (3 : Nat) := by unfold FS.has; rw [l8 st]; decide
theorem h9 : (S9 s).has 0 (3 : Nat) := by unfold FS.has; rw [l9 st]; decide
theorem wr6 : ∀ x ∈ (S6 s).wear, 0 ≤ x ∧ x < 9223372036854775807 := by rw [g6 st]; decide
theorem wr8 : ∀ x ∈ (S8 s).wear, 0 ≤ x ∧ x < 9223372036854775807 := by rw [g8 st]; decide
theorem x8 : (S8 s).wear[0]? = some 1 := by rw [g8 st]; rfl
theorem x9 : (S9 s).wear[0]? = some 2 := by rw [g9 st]; rfl
end Go.Proofs.Ytdcfcljgennipaa
