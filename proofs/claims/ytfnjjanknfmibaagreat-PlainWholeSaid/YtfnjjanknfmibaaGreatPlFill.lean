/-
  Plain primitives: lists that are made and filled: cells given again, and the upper cells of a stack.
-/
import Derived.Test.YtfnjjanknfmibaaGreatPlGivB
import Derived.Lib.MakeNoZero
namespace Go.Proofs.YtfnjjanknfmibaaGreat
open Go.RowKit
set_option linter.unusedVariables false

theorem u32s_list12 (z : Value) (n : Nat) : (madeCells #[z] n).toList = List.replicate n z := by
  refine List.ext_getElem? fun i => ?_
  simp only [madeCells, Array.toList_map, Array.toList_range, List.getElem?_map, List.getElem?_replicate]
  by_cases h : i < n
  · simp [h, Nat.mod_one]
  · simp [h]
theorem run_u32s12 (w : World) (n : Nat) (hm : n ≤ 1000000) :
    (Instr.makeSlice 22 (.int .i64 n) (.int .i64 n)).run Tryz.prog w = .ok (.slice (some ⟨w.heap.size, 0, none⟩) n n) (w.alloc (.cells (List.replicate n (Value.int .u32 0)).toArray 24)) := by
  obtain ⟨i0, hi, hz0, hz1, hz2⟩ := info_parts infoU
  rw [run_make w 22 24 i0 (.int .u32 0) Tryz.underlying22 hi hz0 .i64 .i64 _ _ (by omega) (by omega) (by rw [hz2]; omega) (by omega)]
  rw [hz1, Int.toNat_natCast, Nat.mul_one, show (Value.int IntKind.u32 0).cells = #[.int .u32 0] from rfl, ← u32s_list12]

/-- A list of which the first j cells are there. -/
def filledTo (f : List (BitVec 32)) (j : Nat) : List (BitVec 32) := f.take j ++ List.replicate (f.length - j) 0#32
theorem filledTo_zero (f : List (BitVec 32)) : filledTo f 0 = List.replicate f.length 0#32 := by simp [filledTo]
theorem filledTo_length (f : List (BitVec 32)) (j : Nat) (h : j ≤ f.length) : (filledTo f j).length = f.length := by simp [filledTo]; omega
theorem filledTo_all (f : List (BitVec 32)) : filledTo f f.length = f := by simp [filledTo]
theorem filledTo_step (f : List (BitVec 32)) (j : Nat) (x : BitVec 32) (h : f[j]? = some x) : (filledTo f j).set j x = filledTo f (j + 1) := by
  have hl := (List.getElem?_eq_some_iff.1 h).1
  unfold filledTo
  apply List.ext_getElem?
  intro i
  rw [List.getElem?_set]
  by_cases hi : j = i
  · subst hi
    rw [if_pos rfl, if_pos (by simp; omega), List.getElem?_append_left (by simp; omega), List.getElem?_take, if_pos (by omega), h]
  · rw [if_neg hi]
    by_cases hlt : i < j
    · rw [List.getElem?_append_left (by simp; omega), List.getElem?_append_left (by simp; omega), List.getElem?_take, List.getElem?_take, if_pos hlt, if_pos (by omega)]
    · rw [List.getElem?_append_right (by simp; omega), List.getElem?_append_right (by simp; omega), List.getElem?_replicate, List.getElem?_replicate]
      have e1 : (List.take j f).length = j := by simp; omega
      have e2 : (List.take (j + 1) f).length = j + 1 := by simp; omega
      rw [e1, e2]
      by_cases hr : i < f.length
      · rw [if_pos (by omega), if_pos (by omega)]
      · rw [if_neg (by omega), if_neg (by omega)]
theorem UReads.whole {w : World} {b : Nat} {l : List (BitVec 32)} {n : Nat} (h : Whole w b 24 (l.map uv)) (hn : n = l.length) : UReads w (.slice (some ⟨b, 0, none⟩) n n) l b 0 := by
  subst hn
  exact .inr ⟨⟨b, 0, none⟩, _, rfl, Nat.le_refl _, fun _ => rfl, fun i c hi => by rw [Nat.zero_add, h.cell i]; simp [hi]⟩

/-- The cells with some numbers. -/
def those (ns : List Nat) (c : List (BitVec 32)) : List (BitVec 32) := ns.map fun i => c.getD i 0#32

set_option maxRecDepth 100000 in
set_option maxHeartbeats 1000000 in
theorem those1_gives (w : World) (b M cap k n : Nat) (a : Option Addr) (ns : List Nat) (c : List (BitVec 32)) (hb : w.cell? ⟨b, 0, none⟩ = some (.slice a n n)) (hn : ns.length = n) (hn2 : n ≤ 6)
    (hns : ∀ i x, ns[i]? = some x → x < k ∧ ∃ ad, a = some ad ∧ w.cell? (ad.add i) = some (.int .i64 (x : Int))) (hk : c.length = k) (hcap : k ≤ cap)
    (hc : ∀ i x, c[i]? = some x → w.cell? ⟨M, i, none⟩ = some (uv x)) :
    Gives w 114 #[.slice (some ⟨M, 0, none⟩) k cap, .pointer (some ⟨b, 0, none⟩)] (those ns c) 0 := by
  unfold Gives
  have hmk := fun w => run_u32s12 w n (by omega)
  have HL := Lib.hid (show (those ns c).length = n from by unfold those; rw [List.length_map, hn])
  have HF := Lib.hid (fun i (hi : i < n) => (show (∃ x ad y, x < k ∧ a = some ad ∧ w.cell? (ad.add i) = some (.int .i64 (x : Int)) ∧ w.cell? ⟨M, x, none⟩ = some (uv y) ∧ (those ns c)[i]? = some y) from by
    have h1 : ns[i]? = some ns[i] := List.getElem?_eq_getElem (by omega)
    obtain ⟨hx, ad, e, h2⟩ := hns i _ h1
    have h3 : c[ns[i]]? = some c[ns[i]] := List.getElem?_eq_getElem (by omega)
    refine ⟨ns[i], ad, c[ns[i]], hx, e, h2, hc _ _ h3, ?_⟩
    unfold those
    rw [List.getElem?_map, h1]
    simp [h3]))
  clear hns hc hk hn
  generalize those ns c = f at *
  have HW := Lib.hid (Whole.new w 24 (List.replicate n (Value.int .u32 0)))
  have hE : (List.replicate n (Value.int .u32 0)) = (filledTo f 0).map uv := by rw [filledTo_zero, HL.out]; simp [uv]
  have HE := Lib.hid hE
  clear hE
  generalize hZ : (List.replicate n (Value.int .u32 0)).toArray = Z at *
  have HK0 := Lib.hid (Keeps.alloc [] w (.cells Z 24))
  have hb2 : (w.alloc (.cells Z 24)).cell? ⟨b, 0, none⟩ = some (.slice a n n) := HK0.out.cell hb (by simp)
  go_enter Tryz.func114, Tryz.ntmps114
  go_wp2
  clear hZ
  have HW1 := Lib.hid (show Whole (w.alloc (.cells Z 24)) w.heap.size 24 ((filledTo f 0).map uv) from by have := HW.out; rw [HE.out] at this; exact this)
  clear HW HE
  generalize hV : w.alloc (.cells Z 24) = V at *
  clear hV
  go_loopw [13] (fun i wr => ∃ j : Nat, j ≤ n ∧ i = .int .i64 (j : Int) ∧ Hid (Whole wr w.heap.size 24 ((filledTo f j).map uv)) ∧ Hid (Keeps [w.heap.size] V wr)) (fun i _ => n - (intOf i).toNat)
  case atStart => exact ⟨0, by omega, rfl, HW1, Lib.hid (Keeps.refl _ _)⟩
  case round =>
    obtain ⟨j, hj, rfl, hrow, hkw⟩ := hrel
    have HKW := Lib.hid (HK0.out.then hkw.out (fun x hx => .inr (by simp at hx; omega)))
    by_cases hlt : j < n
    · have hji : (j : Int) < n := by omega
      obtain ⟨x, ad, y, hxk, rfl, q1, q2, hy⟩ := HF.out j hlt
      replace q1 := HKW.out.cell q1 (by simp)
      replace q2 := HKW.out.cell q2 (by simp)
      obtain ⟨z, hz⟩ : ∃ z, wr.cell? ⟨w.heap.size, j, none⟩ = some z := ⟨_, (hrow.out.cell j).trans (List.getElem?_eq_getElem (by rw [List.length_map, filledTo_length _ _ (by rw [HL.out]; omega), HL.out]; exact hlt))⟩
      have hfr : wr.frozen? ⟨w.heap.size, j, none⟩ = false := hrow.out.frozen _
      have hxi : (x : Int) < k := by omega
      have HY := Lib.hid hy
      clear hy
      unfold uv at q2
      obtain ⟨Y, hY⟩ : ∃ Y : Int, Y = y.toNat := ⟨_, rfl⟩
      rw [← hY] at q2
      have HYY := Lib.hid hY
      clear hY
      go_wp2
      go_roundw
      case rel =>
        refine ⟨j + 1, by omega, by go_num, Lib.hid ?_, Lib.hid (hkw.out.trans (Keeps.setCell _ (by simp) _))⟩
        have := hrow.out.set j (.int .u32 Y)
        rw [HYY.out, show (Value.int .u32 (y.toNat : Int)) = uv y from rfl, ← List.map_set, filledTo_step f j y HY.out] at this
        rw [HYY.out]
        exact this
      case measure => simp [intOf]; omega
    · obtain rfl : j = n := by omega
      go_wp2
      go_ret2
      have hr := hrow.out
      rw [show filledTo f j = f by rw [← HL.out]; exact filledTo_all f] at hr
      exact ⟨_, _, _, rfl, UReads.whole hr HL.out.symm, fun _ => Nat.le_refl _, HKW.out⟩
end Go.Proofs.YtfnjjanknfmibaaGreat
