/-
  Contracts of crc: the table of sixteen numbers.
-/
import Derived.Test.YtpcgckppdnlccabCrcA
import Derived.Laws.Rows
namespace Go.Proofs.Ytpcgckppdnlccab
open Go.RowKit

theorem zeroBitsFn_int (w : World) (b : Nat) (n : Nat) (x : Int) (s : BitVec 32) (hx : x = s.toNat) (hn : n ≤ 32) (hc : w.cell? ⟨b, 0, none⟩ = some (.int .i64 n)) :
    Calls Try.prog 26 #[.int .u32 x, .pointer (some ⟨b, 0, none⟩)] w fun e w' => e = .returned (uv (zb n s)) ∧ w = w' := by
  subst hx; exact zeroBitsFn_any w b n s hn hc

set_option maxHeartbeats 400000 in
theorem zeroBits_any (w : World) (n : Int) :
    Calls Try.prog 22 #[.int .i64 n] w fun e w' => e = .returned (.func (.func 26) #[] #[.pointer (some ⟨w.heap.size, 0, none⟩)]) ∧ w.alloc (.cells #[.int .i64 n] 3) = w' := by
  go_enter Try.func22, Try.ntmps22
  go_wp2
  go_ret
  exact ⟨rfl, rfl⟩

/-- The table, as far as it is made. -/
def tabK (n : Nat) (f : Nat → BitVec 32) (k : Nat) : List Value := (List.range n).map fun i => if i < k then uv (f i) else uv 0#32

theorem tabK_length (n : Nat) (f : Nat → BitVec 32) (k : Nat) : (tabK n f k).length = n := by simp [tabK]

theorem tabK_set (n : Nat) (f : Nat → BitVec 32) (k : Nat) : (tabK n f k).set k (uv (f k)) = tabK n f (k + 1) := by
  apply List.ext_getElem
  · simp [tabK]
  · intro i h1 h2
    rw [List.getElem_set]
    simp only [tabK, List.getElem_map, List.getElem_range]
    by_cases e : k = i
    · subst e; simp
    · rw [if_neg e]
      by_cases l : i < k
      · rw [if_pos l, if_pos (by omega)]
      · rw [if_neg l, if_neg (by omega)]

theorem tabK_get (n : Nat) (f : Nat → BitVec 32) (k i : Nat) (h : i < n) : (tabK n f k)[i]? = some (if i < k then uv (f i) else uv 0#32) := by
  simp [tabK, h]

def tab (n : Nat) (f : Nat → BitVec 32) : List Value := (List.range n).map fun i => uv (f i)

theorem tabK_all (n : Nat) (f : Nat → BitVec 32) : tabK n f n = tab n f := by
  unfold tabK tab
  apply List.map_congr_left
  intro i hi
  rw [if_pos (by simpa using hi)]

theorem tab_length (n : Nat) (f : Nat → BitVec 32) : (tab n f).length = n := by simp [tab]

theorem tab_get (n : Nat) (f : Nat → BitVec 32) (i : Nat) (h : i < n) : (tab n f)[i]? = some (uv (f i)) := by
  simp [tab, h]

theorem tabK_zero16 (f : Nat → BitVec 32) : (tabK 16 f 0).toArray = #[uv 0#32, uv 0#32, uv 0#32, uv 0#32, uv 0#32, uv 0#32, uv 0#32, uv 0#32, uv 0#32, uv 0#32, uv 0#32, uv 0#32, uv 0#32, uv 0#32, uv 0#32, uv 0#32] := rfl

/-- A whole block of cells. -/
def Whole (w : World) (b : Nat) (T : TypeId) (xs : List Value) : Prop := w.heap[b]? = some (.cells xs.toArray T (0, 0))

theorem Whole.keeps {S : List Nat} {w w' : World} {b : Nat} {T : TypeId} {xs : List Value} (h : Whole w b T xs) (hk : Keeps S w w') (hb : b ∉ S) : Whole w' b T xs := hk.obj h hb

theorem Whole.cell {w : World} {b : Nat} {T : TypeId} {xs : List Value} (h : Whole w b T xs) (i : Nat) : w.cell? ⟨b, i, none⟩ = xs[i]? := by
  rw [cell_of_row w b i _ T (0, 0) h]; simp

theorem Whole.frozen {w : World} {b : Nat} {T : TypeId} {xs : List Value} (h : Whole w b T xs) (i : Nat) : w.frozen? ⟨b, i, none⟩ = false := by
  unfold Whole at h; simp [World.frozen?, h]

theorem Whole.set {w : World} {b : Nat} {T : TypeId} {xs : List Value} (h : Whole w b T xs) (i : Nat) (v : Value) : Whole (w.setCell ⟨b, i, none⟩ v) b T (xs.set i v) := by
  unfold Whole
  rw [heap_setCell_at w b i v _ T (0, 0) h]
  simp

theorem Whole.lt {w : World} {b : Nat} {T : TypeId} {xs : List Value} (h : Whole w b T xs) : b < w.heap.size := (Array.getElem?_eq_some_iff.1 h).1

theorem Whole.new (w : World) (T : TypeId) (xs : List Value) : Whole (w.alloc (.cells xs.toArray T)) w.heap.size T xs := heap_alloc_new w _

theorem Whole.new_at (w : World) (T : TypeId) (xs : List Value) (b : Nat) (hb : w.heap.size = b) : Whole (w.alloc (.cells xs.toArray T)) b T xs := hb ▸ Whole.new w T xs

theorem Keeps.setRow {S : List Nat} (w : World) {g : Nat} (hp : g ∈ S) (cells : Array Value) : Keeps S w (w.setRow g cells) :=
  ⟨rfl, rfl, rfl, by simp [World.setRow], fun k _ hs => by
    have : g ≠ k := fun e => hs (e ▸ hp)
    simp [World.setRow, Array.getElem?_modify, this]⟩

theorem Whole.setRow {w : World} {b : Nat} {T : TypeId} {xs : List Value} (h : Whole w b T xs) (ys : List Value) : Whole (w.setRow b ys.toArray) b T ys := by
  unfold Whole at h ⊢
  simp [World.setRow, Array.getElem?_modify, h]

theorem tab_one (n : Nat) (f : Nat → BitVec 32) : (tab n f).toArray.all (·.oneCell') = true := by
  rw [List.all_toArray, List.all_eq_true]
  intro u hu
  obtain ⟨i, _, rfl⟩ := List.mem_map.1 hu
  rfl

theorem sizeArr16 : (Try.prog.info? 42).map (·.size) = some 16 := by kernel_rfl

set_option maxHeartbeats 1000000 in
theorem table_any (w : World) :
    Calls Try.prog 19 #[] w fun e w' => e = .returned (.agg (tab 16 fun i => zb 4 (BitVec.ofNat 32 i)).toArray) ∧ Keeps [] w w' := by
  generalize hf : (fun i => zb 4 (BitVec.ofNat 32 i)) = f
  have HF := Lib.hid (show ∀ i, zb 4 (BitVec.ofNat 32 i) = f i from fun i => congrFun hf i)
  clear hf
  go_enter Try.func19, Try.ntmps19
  go_wp2_with (go_at_call 22; refine (zeroBits_any _ _).mono ?_; rintro e w' ⟨rfl, rfl⟩)
  go_loopw [5] (fun i wr => ∃ k : Nat, k ≤ 16 ∧ i = .int .i64 k ∧ Whole wr (w.heap.size + 1) 42 (tabK 16 f k) ∧ Whole wr w.heap.size 42 (tabK 16 f 0) ∧ Whole wr (w.heap.size + 1 + 1) 3 [.int .i64 4] ∧ Keeps [] w wr) (fun i _ => 16 - (intOf i).toNat)
  case atStart =>
    refine ⟨0, Nat.zero_le _, rfl, ?_, ?_, ?_, ?_⟩
    · exact (Whole.new_at (w.alloc _) _ (tabK 16 f 0) _ (by simp)).keeps (Keeps.alloc [] _ _) (by simp)
    · exact ((Whole.new w _ (tabK 16 f 0)).keeps (Keeps.alloc [] _ _) (by simp)).keeps (Keeps.alloc [] _ _) (by simp)
    · exact Whole.new_at ((w.alloc _).alloc _) _ [.int .i64 4] _ (by simp)
    · exact ((Keeps.alloc [] _ _).trans (Keeps.alloc [] _ _)).trans (Keeps.alloc [] _ _)
  case round =>
    obtain ⟨k, hk, rfl, w1, w0, w2, kp⟩ := hrel
    by_cases hlt : k < 16
    · have hlt' : (k : Int) < 16 := by omega
      have c2 := w2.cell 0
      have c1 := w1.cell k
      rw [tabK_get _ _ _ _ hlt, if_neg (Nat.lt_irrefl _)] at c1
      have f1 := w1.frozen k
      have hz := kp.size
      have S1 := Lib.hid (w1.set k (uv (f k)))
      have W0 := Lib.hid w0
      have W2 := Lib.hid w2
      have KP := Lib.hid kp
      clear w0 w1 w2 kp
      go_wp2_with (go_at_call 26; refine (zeroBitsFn_int _ _ 4 _ (BitVec.ofNat 32 k) (by simp; omega) (by omega) c2).mono ?_; rintro e w' ⟨rfl, rfl⟩)
      go_roundw
      case rel =>
        rw [HF.out]
        refine ⟨k + 1, by omega, by go_num, ?_, ?_, ?_, ?_⟩
        · have := S1.out; rw [tabK_set] at this; exact this
        · exact W0.out.keeps (Keeps.setCell (S := [w.heap.size + 1]) _ (by simp) _) (by simp)
        · exact W2.out.keeps (Keeps.setCell (S := [w.heap.size + 1]) _ (by simp) _) (by simp)
        · exact KP.out.then (Keeps.setCell (S := [w.heap.size + 1]) _ (by simp) _) (fun x hx => .inr (by simp at hx; omega))
      case measure => simp [intOf]; omega
    · have hkn : k = 16 := by omega
      subst hkn
      rw [tabK_all] at w1
      have W0 := Lib.hid w0
      have W1 := Lib.hid w1
      have KP := Lib.hid kp
      clear w0 w1 w2 kp
      go_wp2_with (first | (refine wpList_load_row rfl 42 _ rfl (w.heap.size + 1) rfl 42 (tab 16 f).toArray (0, 0) _ W1.out Try.underlying42 rfl (by rw [sizeArr16]; simp [tab_length]) ?_) | (refine wpList_store_row rfl 42 _ _ rfl w.heap.size (tab 16 f).toArray rfl rfl 42 (tabK 16 f 0).toArray W0.out (by rw [sizeArr16]; simp [tab_length]) (by simp [tab_length, tabK_length]) (tab_one _ _) ?_))
      exact bodyPost_ret (results_cell_row Try.results19 _ _ w.heap.size 42 (tab 16 f).toArray (0, 0) _ rfl (W0.out.setRow (tab 16 f)) Try.underlying42 rfl (by rw [sizeArr16]; simp [tab_length])) rfl ⟨rfl, KP.out.then (Keeps.setRow (S := [w.heap.size]) _ (by simp) _) (fun x hx => .inr (by simp at hx; omega))⟩
end Go.Proofs.Ytpcgckppdnlccab
