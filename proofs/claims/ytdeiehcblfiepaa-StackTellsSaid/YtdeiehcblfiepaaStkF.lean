/-
  Stacks of cells: one stack, apart from all that was there; the examples of the chapter.
-/
import Derived.Test.YtdeiehcblfiepaaStkE
namespace Go.Proofs.Ytdeiehcblfiepaa
open Go.RowKit
set_option linter.unusedVariables false

/-- A stack at blocks that are new since w0; all that was there then is as it was. -/
def Mine (w0 w : World) (g : Nat) (most over under : Int) (l : List (BitVec 32)) : Prop :=
  w0.heap.size ≤ g ∧ Keeps [] w0 w ∧ ∃ base v, StackAt w base g most over under v l

section
variable {w0 w : World} {g : Nat} {most over under : Int} {l : List (BitVec 32)}

theorem Mine.next (h : Mine w0 w g most over under l) {w' : World} (hk : Keeps [] w w') : Mine w0 w' g most over under l := by
  obtain ⟨hg, h0, base, v, hs⟩ := h
  exact ⟨hg, h0.trans hk, base, v, hs.keeps hk (by simp) (by simp)⟩
theorem Mine.kept (h : Mine w0 w g most over under l) : Keeps [] w0 w := h.2.1
theorem Mine.len (h : Mine w0 w g most over under l) : l.length ≤ 4096 ∧ (l.length : Int) ≤ most := by
  obtain ⟨_, _, base, v, hs⟩ := h
  have := hs.fits
  have := hs.most2
  omega
theorem Mine.under_neg (h : Mine w0 w g most over under l) : under < 0 := by
  obtain ⟨_, _, base, v, hs⟩ := h
  exact hs.under0.2

theorem mine_of {base : Nat} {v v' : Value} {l' : List (BitVec 32)} (hg : w0.heap.size ≤ g) (h0 : Keeps [] w0 w) (hs : StackAt w base g most over under v l) {w' : World} (h1 : StackAt w' base g most over under v' l') (hk : Keeps (g :: v.ownBlock.toList) w w') : Mine w0 w' g most over under l' := by
  refine ⟨hg, h0.then hk (fun x hx => .inr ?_), base, v', h1⟩
  simp at hx
  rcases hx with rfl | hx
  · exact hg
  · have := (hs.lt x hx).1
    have := hs.above
    omega

theorem New_mine (w : World) (most over under : Int) (m1 : 1 ≤ most) (m2 : most ≤ 4096) (o1 : -2147483648 ≤ over) (o2 : over < 0) (u1 : -2147483648 ≤ under) (u2 : under < 0) :
    Calls Try.prog 9 #[.int .i64 most, .int .i32 over, .int .i32 under] w fun e w' => ∃ g, e = .returned (.tuple #[.pointer (some ⟨g, 0, none⟩), .int .i64 0]) ∧ Mine w w' g most over under [] :=
  (StNew_ok w most over under m1 m2 o1 o2 u1 u2).mono fun e w' ⟨g, he, hs, hg, hk⟩ => ⟨g, he, hg, hk, _, _, hs⟩

theorem Len_mine (h : Mine w0 w g most over under l) (n : Int) (hn : n = l.length) : Calls Try.prog 11 #[.pointer (some ⟨g, 0, none⟩)] w fun e w' => e = .returned (.int .i64 n) ∧ w = w' := by
  obtain ⟨_, _, base, v, hs⟩ := h
  rw [hn]
  exact Len_at hs

theorem May_mine (h : Mine w0 w g most over under l) (takes gives t : Int) (t1 : takes ≤ 9223372036854775807) (g1 : gives ≤ 9223372036854775807) (ht : mayT most over under l takes gives = t) :
    Calls Try.prog 24 #[.pointer (some ⟨g, 0, none⟩), .int .i64 takes, .int .i64 gives] w fun e w' => e = .returned (.int .i32 t) ∧ Mine w0 w' g most over under l := by
  have h' := h
  obtain ⟨_, _, base, v, hs⟩ := h
  exact (May_at hs takes gives t1 g1).mono fun e w' ⟨he, hk⟩ => ⟨by rw [he, ht], h'.next hk⟩

theorem Peek_mine (h : Mine w0 w g most over under l) (i x t : Int) (hx : ((peekX l i).toNat : Int) = x) (ht : peekT l i under = t) :
    Calls Try.prog 21 #[.pointer (some ⟨g, 0, none⟩), .int .i64 i] w fun e w' => e = .returned (.tuple #[.int .u32 x, .int .i32 t]) ∧ Mine w0 w' g most over under l := by
  have h' := h
  obtain ⟨_, _, base, v, hs⟩ := h
  exact (Peek_at hs i).mono fun e w' ⟨he, hk⟩ => ⟨by rw [he, ht]; unfold uv; rw [hx], h'.next hk⟩

theorem Pop_mine (h : Mine w0 w g most over under l) (x t : Int) (l' : List (BitVec 32)) (hx : ((peekX l 0).toNat : Int) = x) (ht : peekT l 0 under = t) (hl : l.take (l.length - 1) = l') :
    Calls Try.prog 15 #[.pointer (some ⟨g, 0, none⟩)] w fun e w' => e = .returned (.tuple #[.int .u32 x, .int .i32 t]) ∧ Mine w0 w' g most over under l' := by
  obtain ⟨hg, h0, base, v, hs⟩ := h
  exact (Pop_at hs).mono fun e w' ⟨v', he, h1, hk, _⟩ => ⟨by rw [he, ht]; unfold uv; rw [hx], by rw [← hl]; exact mine_of hg h0 hs h1 hk⟩

theorem Cut_mine (h : Mine w0 w g most over under l) (k t : Int) (l' : List (BitVec 32)) (ht : cutT l k under = t) (hl : cutL l k = l') :
    Calls Try.prog 20 #[.pointer (some ⟨g, 0, none⟩), .int .i64 k] w fun e w' => e = .returned (.int .i32 t) ∧ Mine w0 w' g most over under l' := by
  obtain ⟨hg, h0, base, v, hs⟩ := h
  exact (Cut_at hs k).mono fun e w' ⟨v', he, h1, hk, _⟩ => ⟨by rw [he, ht], by rw [← hl]; exact mine_of hg h0 hs h1 hk⟩

theorem Roll_mine (h : Mine w0 w g most over under l) (i t : Int) (l' : List (BitVec 32)) (ht : peekT l i under = t) (hl : rollL l i = l') :
    Calls Try.prog 18 #[.pointer (some ⟨g, 0, none⟩), .int .i64 i] w fun e w' => e = .returned (.int .i32 t) ∧ Mine w0 w' g most over under l' := by
  obtain ⟨hg, h0, base, v, hs⟩ := h
  exact (Roll_at hs i).mono fun e w' ⟨v', he, h1, hk⟩ => ⟨by rw [he, ht], by rw [← hl]; exact mine_of hg h0 hs h1 hk⟩

theorem Push_mine (h : Mine w0 w g most over under l) (xv : Value) (x : List (BitVec 32)) (M off : Nat) (hx : UReads w xv x M off) (hxl : x.length ≤ maxLen) (t : Int) (l' : List (BitVec 32)) (ht : pushT most over l x = t) (hl : pushL most l x = l') :
    Calls Try.prog 13 #[.pointer (some ⟨g, 0, none⟩), xv] w fun e w' => e = .returned (.int .i32 t) ∧ Mine w0 w' g most over under l' := by
  obtain ⟨hg, h0, base, v, hs⟩ := h
  exact (Push_at hs xv x M off hx hxl).mono fun e w' ⟨v', he, h1, hk⟩ => ⟨by rw [he, ht], by rw [← hl]; exact mine_of hg h0 hs h1 hk⟩

/-- All: numbers in memory of their own. -/
theorem All_mine (h : Mine w0 w g most over under l) :
    Calls Try.prog 23 #[.pointer (some ⟨g, 0, none⟩)] w fun e w' => ∃ a c M, e = .returned (.slice a l.length c) ∧ UReads w' (.slice a l.length c) l M 0 ∧ (l ≠ [] → w.heap.size ≤ M) ∧ Keeps [] w w' ∧ Mine w0 w' g most over under l := by
  have h' := h
  obtain ⟨hg, h0, base, v, hs⟩ := h
  refine (All_at hs).mono ?_
  rintro e w' ⟨u, rfl, ho, hk⟩
  obtain ⟨M, hr, hM⟩ := UReads.owns ho
  obtain ⟨a, c, rfl, _⟩ := hr.shape
  exact ⟨a, c, M, rfl, hr, fun hl => (hM hl).2.1, hk, h'.next hk⟩

theorem cells_to (w : World) (va vb : Value) (l m : List (BitVec 32)) (Ma oa Mb ob : Nat) (ha : UReads w va l Ma oa) (hb : UReads w vb m Mb ob) (hl : l.length ≤ maxLen) (R : Bool) (hR : decide (l = m) = R) :
    Calls Try.prog 22 #[va, vb] w fun e w' => e = .returned (.bool R) ∧ Keeps [] w w' := by
  rw [← hR]; exact cells_any w va vb l m Ma oa Mb ob ha hb hl

/-- Numbers written out. -/
theorem UReads.lit (w : World) (l : List (BitVec 32)) (cs : Array Value) (T : TypeId) (n : Nat) (hcs : cs = (l.map uv).toArray) (hn : n = l.length) :
    UReads (w.alloc (.cells cs T)) (.slice (some ⟨w.heap.size, 0, none⟩) n n) l w.heap.size 0 := by
  subst hn
  refine .inr ⟨⟨w.heap.size, 0, none⟩, l.length, rfl, Nat.le_refl _, fun _ => rfl, fun i c hi => ?_⟩
  rw [Nat.zero_add, cell_of_row _ _ _ cs T (0, 0) (heap_alloc_new w _), hcs]
  simp [hi]
end

set_option maxRecDepth 100000 in
set_option maxHeartbeats 4000000 in
theorem awake8_any (w : World) : Calls Try.prog 12 #[] w fun e w' => e = .returned (.bool true) ∧ Keeps [] w w' := by
  have al := fun (W : World) (o : Obj) => Keeps.alloc [] W o
  go_enter Try.func12, Try.ntmps12
  go_wp2_with fail
  refine (New_mine _ 3 (-3) (-4) (by decide) (by decide) (by decide) (by decide) (by decide) (by decide)).mono ?_
  rintro e w1 ⟨g, rfl, h⟩
  have HS := Lib.hid h; clear h
  go_wp2_with fail
  refine (Push_mine (HS.out.next (al _ _)) _ [7#32, 8#32] _ 0 (UReads.lit w1 [7#32, 8#32] _ _ 2 rfl rfl) (by decide) 0 [7#32, 8#32] (by decide) (by decide)).mono ?_
  rintro e w2 ⟨rfl, h⟩
  have HS2 := Lib.hid h; clear h HS
  go_wp2_with fail
  refine (Push_mine (HS2.out.next (al _ _)) _ [9#32, 9#32] _ 0 (UReads.lit w2 [9#32, 9#32] _ _ 2 rfl rfl) (by decide) (-3) [7#32, 8#32] (by decide) (by decide)).mono ?_
  rintro e w3 ⟨rfl, h⟩
  have HS3 := Lib.hid h; clear h HS2
  go_wp2_with fail
  refine (All_mine HS3.out).mono ?_
  rintro e w4 ⟨a, c, M, rfl, hr, _, hk, h⟩
  have HR := Lib.hid hr; have HS4 := Lib.hid h; clear h hr hk HS3
  go_wp2_with fail
  refine (cells_to _ _ _ [7#32, 8#32] [7#32, 8#32] M 0 _ 0 (HR.out.keeps (al _ _) (by simp)) (UReads.lit w4 [7#32, 8#32] _ _ 2 rfl rfl) (by decide) true (by decide)).mono ?_
  rintro e w5 ⟨rfl, hk⟩
  have HS5 := Lib.hid (HS4.out.next ((al _ _).trans hk)); clear hk HR HS4
  go_wp2_with fail
  refine (Push_mine (HS5.out.next (al _ _)) _ [9#32] _ 0 (UReads.lit w5 [9#32] _ _ 1 rfl rfl) (by decide) 0 [7#32, 8#32, 9#32] (by decide) (by decide)).mono ?_
  rintro e w6 ⟨rfl, h⟩
  have HS6 := Lib.hid h; clear h HS5
  go_wp2_with fail
  refine (Peek_mine HS6.out 2 7 0 (by decide) (by decide)).mono ?_
  rintro e w7 ⟨rfl, h⟩
  have HS7 := Lib.hid h; clear h HS6
  go_wp2_with fail
  refine (Roll_mine HS7.out 2 0 [8#32, 9#32, 7#32] (by decide) (by decide)).mono ?_
  rintro e w8 ⟨rfl, h⟩
  have HS8 := Lib.hid h; clear h HS7
  go_wp2_with fail
  refine (All_mine HS8.out).mono ?_
  rintro e w9 ⟨a2, c2, M2, rfl, hr, _, hk, h⟩
  have HR := Lib.hid hr; have HS9 := Lib.hid h; clear h hr hk HS8
  go_wp2_with fail
  refine (cells_to _ _ _ [8#32, 9#32, 7#32] [8#32, 9#32, 7#32] M2 0 _ 0 (HR.out.keeps (al _ _) (by simp)) (UReads.lit w9 [8#32, 9#32, 7#32] _ _ 3 rfl rfl) (by decide) true (by decide)).mono ?_
  rintro e w10 ⟨rfl, hk⟩
  have HS10 := Lib.hid (HS9.out.next ((al _ _).trans hk)); clear hk HR HS9
  go_wp2_with fail
  refine (Pop_mine HS10.out 7 0 [8#32, 9#32] (by decide) (by decide) (by decide)).mono ?_
  rintro e w11 ⟨rfl, h⟩
  have HS11 := Lib.hid h; clear h HS10
  go_wp2_with fail
  refine (May_mine HS11.out 1 2 0 (by decide) (by decide) (by decide)).mono ?_
  rintro e w12 ⟨rfl, h⟩
  have HS12 := Lib.hid h; clear h HS11
  go_wp2_with fail
  refine (May_mine HS12.out 3 0 (-4) (by decide) (by decide) (by decide)).mono ?_
  rintro e w13 ⟨rfl, h⟩
  have HS13 := Lib.hid h; clear h HS12
  go_wp2_with fail
  refine (May_mine HS13.out 0 2 (-3) (by decide) (by decide) (by decide)).mono ?_
  rintro e w14 ⟨rfl, h⟩
  have HS14 := Lib.hid h; clear h HS13
  go_wp2_with fail
  refine (Cut_mine HS14.out 0 0 [] (by decide) (by decide)).mono ?_
  rintro e w15 ⟨rfl, h⟩
  have HS15 := Lib.hid h; clear h HS14
  go_wp2_with fail
  refine (Len_mine HS15.out 0 rfl).mono ?_
  rintro e w' ⟨rfl, rfl⟩
  go_wp2_with fail
  refine (Pop_mine HS15.out 0 (-4) [] (by decide) (by decide) (by decide)).mono ?_
  rintro e w16 ⟨rfl, h⟩
  have HS16 := Lib.hid h; clear h HS15
  go_wp2
  go_ret
  exact ⟨rfl, HS16.out.kept⟩
end Go.Proofs.Ytdeiehcblfiepaa
