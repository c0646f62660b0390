/-
  Plain primitives: Do, for any effect that is known.
-/
import Derived.Test.YtfnjjanknfmibaaGreatPlFill
import Derived.Test.YtfnjjanknfmibaaGreatPmNamed
namespace Go.Proofs.YtfnjjanknfmibaaGreat
open Go.RowKit
set_option linter.unusedVariables false

/-- Both stacks' cells, and the bytes of RAM. -/
structure PSt where
  s : List (BitVec 32)
  r : List (BitVec 32)
  ram : List UInt8

/-- What a primitive does: room, the window, the cells that it takes, and how things stand; the cells that it gives, what it throws, and how things stand then. -/
abbrev Eff := Int → List UInt8 → List (BitVec 32) → PSt → List (BitVec 32) × Int × PSt

/-- A function value does that. -/
def Does (gs gr gm k : Nat) (E : Eff) (w1 : World) (fn : Nat) (first cap : Array Value) : Prop :=
  Entered fn ∧ ∀ (w0 w : World) (κ : Nat → Nat) (room : Int) (s r : List (BitVec 32)) (win ram : List UInt8) (M : Nat) (c : List (BitVec 32)), Keeps [] w1 w → Lab w0 κ w gs gr gm room s r win ram →
    UReads w (.slice (some ⟨M, 0, none⟩) k k) c M 0 → c.length = k → Calls Tryz.prog fn (first ++ #[.slice (some ⟨M, 0, none⟩) k k] ++ cap) w fun e w' =>
      ∃ gv M' off κ', e = .returned (.tuple #[gv, .int .i32 (E room win c ⟨s, r, ram⟩).2.1]) ∧ Lab w0 κ' w' gs gr gm room (E room win c ⟨s, r, ram⟩).2.2.s (E room win c ⟨s, r, ram⟩).2.2.r win (E room win c ⟨s, r, ram⟩).2.2.ram ∧
        Step κ w κ' w' ∧ UReads w' gv (E room win c ⟨s, r, ram⟩).1 M' off ∧ ((E room win c ⟨s, r, ram⟩).1 ≠ [] → κ' M' = 0) ∧ (E room win c ⟨s, r, ram⟩).1.length ≤ 6

/-- One that works on cells alone. -/
def pureE (f : List (BitVec 32) → List (BitVec 32) × Int) : Eff := fun _ _ c x => ((f c).1, (f c).2, x)
theorem Does.pure {gs gr gm k : Nat} {w1 : World} {fn : Nat} {first cap : Array Value} (f : List (BitVec 32) → List (BitVec 32) × Int) (hE : Entered fn) (hl : ∀ c, c.length = k → (f c).1.length ≤ 6)
    (h : ∀ (w : World) (M : Nat) (c : List (BitVec 32)), Keeps [] w1 w → c.length = k → (∀ i x, c[i]? = some x → w.cell? ⟨M, i, none⟩ = some (uv x)) → Gives w fn (first ++ #[.slice (some ⟨M, 0, none⟩) k k] ++ cap) (f c).1 (f c).2) :
    Does gs gr gm k (pureE f) w1 fn first cap := by
  refine ⟨hE, fun w0 w κ room s r win ram M c hk hL hr hc => ?_⟩
  have hcells : ∀ i x, c[i]? = some x → w.cell? ⟨M, i, none⟩ = some (uv x) := by
    intro i x hi
    obtain ⟨cp, e, _, hh⟩ := hr.cells (by intro e; subst e; simp at hi)
    have := hh i x hi
    rwa [Nat.zero_add] at this
  refine (h w M c hk hc hcells).mono ?_
  rintro e w' ⟨gv, M', off, rfl, hu, hM, hk'⟩
  exact ⟨gv, M', off, κ, rfl, hL.next hk', Step.of hk', hu, fun hn => hL.newer (hM hn), hl c hc⟩

/-- What Do answers, and how things stand then. -/
def doM (room : Int) (win : List UInt8) (k g : Nat) (E : Eff) (x : PSt) : Int × PSt :=
  if mayT room (-3) (-4) x.s k g = 0 then
    if (E room win (x.s.drop (x.s.length - k)) x).2.1 = 0 then
      (pushT room (-3) (cutL (E room win (x.s.drop (x.s.length - k)) x).2.2.s (((E room win (x.s.drop (x.s.length - k)) x).2.2.s.length : Int) - k)) (E room win (x.s.drop (x.s.length - k)) x).1,
       ⟨pushL room (cutL (E room win (x.s.drop (x.s.length - k)) x).2.2.s (((E room win (x.s.drop (x.s.length - k)) x).2.2.s.length : Int) - k)) (E room win (x.s.drop (x.s.length - k)) x).1, (E room win (x.s.drop (x.s.length - k)) x).2.2.r, (E room win (x.s.drop (x.s.length - k)) x).2.2.ram⟩)
    else ((E room win (x.s.drop (x.s.length - k)) x).2.1, (E room win (x.s.drop (x.s.length - k)) x).2.2)
  else (mayT room (-3) (-4) x.s k g, x)

theorem mayT_zero {room : Int} {s : List (BitVec 32)} {k g : Nat} (h : mayT room (-3) (-4) s k g = 0) : k ≤ s.length := by
  unfold mayT at h
  repeat (split at h <;> try (first | omega | simp at h))
  all_goals (try omega)

section
variable {w0 w : World} {κ : Nat → Nat} {gs gr gm : Nat} {room : Int} {s r : List (BitVec 32)} {win ram : List UInt8}

set_option maxRecDepth 100000 in
set_option maxHeartbeats 1000000 in
theorem upper_lab (h : Lab w0 κ w gs gr gm room s r win ram) (n : Nat) (hn : n ≤ s.length) (hn6 : n ≤ 6) :
    Calls Tryz.prog 23 #[.pointer (some ⟨gs, 0, none⟩), .int .i64 (n : Int)] w fun e w' => e = .returned (.slice (some ⟨w.heap.size, 0, none⟩) n n) ∧ UReads w' (.slice (some ⟨w.heap.size, 0, none⟩) n n) (s.drop (s.length - n)) w.heap.size 0 ∧ Keeps [] w w' := by
  have hmk := fun w => run_u32s12 w n (by omega)
  obtain ⟨f, hf⟩ : ∃ f, f = s.drop (s.length - n) := ⟨_, rfl⟩
  have HL := Lib.hid (show f.length = n from by rw [hf]; simp; omega)
  have HP := Lib.hid (fun W (hk : Keeps [] w W) (i : Int) (j : Nat) (y : BitVec 32) (hij : i = (n : Int) - 1 - j) (hj : j < n) (hy : f[j]? = some y) => Peek_lab (h.next hk) i (y.toNat : Int) 0 (by
    unfold peekX
    rw [hf, List.getElem?_drop] at hy
    rw [if_pos (by omega), List.getD_eq_getElem?_getD, show s.length - 1 - i.toNat = s.length - n + j by omega, hy]
    rfl) (by unfold peekT; rw [if_pos (by omega)]))
  rw [← hf]
  clear h hf hn
  have HW := Lib.hid (Whole.new w 24 (List.replicate n (Value.int .u32 0)))
  have hE : (List.replicate n (Value.int .u32 0)) = (filledTo f 0).map uv := by rw [filledTo_zero, HL.out]; simp [uv]
  have HE := Lib.hid hE
  clear hE
  generalize hZ : (List.replicate n (Value.int .u32 0)).toArray = Z at *
  have HK0 := Lib.hid (Keeps.alloc [] w (.cells Z 24))
  go_enter Tryz.func23, Tryz.ntmps23
  go_wp2
  clear hZ
  have HW1 := Lib.hid (show Whole (w.alloc (.cells Z 24)) w.heap.size 24 ((filledTo f 0).map uv) from by have := HW.out; rw [HE.out] at this; exact this)
  clear HW HE
  generalize hV : w.alloc (.cells Z 24) = V at *
  clear hV
  go_loopw [11] (fun i wr => ∃ j : Nat, j ≤ n ∧ i = .int .i64 (j : Int) ∧ Hid (Whole wr w.heap.size 24 ((filledTo f j).map uv)) ∧ Hid (Keeps [w.heap.size] V wr)) (fun i _ => n - (intOf i).toNat)
  case atStart => exact ⟨0, by omega, rfl, HW1, Lib.hid (Keeps.refl _ _)⟩
  case round =>
    obtain ⟨j, hj, rfl, hrow, hkw⟩ := hrel
    have HKW := Lib.hid (HK0.out.then hkw.out (fun x hx => .inr (by simp at hx; omega)))
    by_cases hlt : j < n
    · have hji : (j : Int) < n := by omega
      obtain ⟨y, hy⟩ : ∃ y, f[j]? = some y := ⟨_, List.getElem?_eq_getElem (by rw [HL.out]; exact hlt)⟩
      have HPj := Lib.hid (HP.out wr HKW.out ((n : Int) - 1 - j) j y rfl hlt hy)
      have HLT := Lib.hid (show j < (List.map uv (filledTo f j)).length from by rw [List.length_map, filledTo_length _ _ (by rw [HL.out]; omega), HL.out]; exact hlt)
      have HY := Lib.hid hy
      clear hy
      obtain ⟨Y, hY⟩ : ∃ Y : Int, Y = y.toNat := ⟨_, rfl⟩
      rw [← hY] at HPj
      have HYY := Lib.hid hY
      clear hY
      go_wp2_with (refine HPj.out.mono ?_; rintro e w4 ⟨rfl, hk4⟩; have HR4 := Lib.hid (hrow.out.keeps hk4 (by simp)); have HK4 := Lib.hid hk4; obtain ⟨z, hz⟩ : ∃ z, w4.cell? ⟨w.heap.size, j, none⟩ = some z := ⟨_, (HR4.out.cell j).trans (List.getElem?_eq_getElem HLT.out)⟩; have hfr : w4.frozen? ⟨w.heap.size, j, none⟩ = false := HR4.out.frozen _; clear hk4)
      go_roundw
      case rel =>
        refine ⟨j + 1, by omega, by go_num, Lib.hid ?_, Lib.hid ((hkw.out.trans (HK4.out.mono (by simp))).trans (Keeps.setCell _ (by simp) _))⟩
        have := HR4.out.set j (.int .u32 Y)
        rw [HYY.out, show (Value.int .u32 (y.toNat : Int)) = uv y from rfl, ← List.map_set, filledTo_step f j y HY.out] at this
        rw [HYY.out]
        exact this
      case measure => simp [intOf]; omega
    · obtain rfl : j = n := by omega
      go_wp2
      go_ret
      have hr := hrow.out
      rw [show filledTo f j = f by rw [← HL.out]; exact filledTo_all f] at hr
      exact ⟨rfl, UReads.whole hr HL.out.symm, HKW.out⟩

set_option maxRecDepth 100000 in
theorem gives_plain (h : Lab w0 κ w gs gr gm room s r win ram) (p : Pm) (hp : (p.name == [63, 68, 85, 80]) = false) :
    Calls Tryz.prog 22 #[pmv p, .pointer (some ⟨gs, 0, none⟩)] w fun e w' => e = .returned (.int .i64 (p.gives : Int)) ∧ Keeps [] w w' := by
  have HP := Lib.hid (fun W (hk : Keeps [] w W) => Peek_lab (h.next hk) 0 _ _ rfl rfl)
  have hs : ((ByteArray.mk p.name.toArray).toList == [63, 68, 85, 80]) = false := by rw [show (ByteArray.mk p.name.toArray).toList = p.name by simp [ByteArray.toList_eq]]; exact hp
  rw [pmv_lit]
  clear hp h
  generalize (p.num : Int) = a at *
  generalize ByteArray.mk p.name.toArray = st at *
  generalize (p.takes : Int) = t at *
  generalize (p.gives : Int) = g at *
  generalize (p.ops : Int) = o at *
  generalize p.text = tx at *
  generalize p.jump = jp at *
  generalize ((peekX s 0).toNat : Int) = X at *
  generalize peekT s 0 (-4) = T at *
  have HW := Lib.hid (fun W (hk : Keeps [] (w.alloc (.cells #[.int .u32 a, .string st, .int .i64 t, .int .i64 g, .int .i64 o, .bool tx, .bool jp] 40)) W) => Whole.keeps (Whole.new w 40 [.int .u32 a, .string st, .int .i64 t, .int .i64 g, .int .i64 o, .bool tx, .bool jp]) hk (by simp))
  go_enter Tryz.func22, Tryz.ntmps22
  go_wp2_with (refine (HP.out _ (Keeps.alloc [] _ _)).mono ?_; rintro e w4 ⟨rfl, hk4⟩; have HK4 := Lib.hid hk4; have hw4 := HW.out w4 hk4; obtain ⟨c0, c1, c2, c3, c4, c5, c6⟩ := hw4.prim; clear hw4 hk4)
  go_ret
  exact ⟨rfl, (Keeps.alloc [] _ _).trans HK4.out⟩
end
end Go.Proofs.YtfnjjanknfmibaaGreat
