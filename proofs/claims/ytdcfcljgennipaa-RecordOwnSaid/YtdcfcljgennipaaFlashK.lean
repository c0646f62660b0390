/-
  Contracts: own, New, Copy.
-/
import Derived.Test.YtdcfcljgennipaaFlashJ
import Derived.Deep.OwnRows
namespace Go.Proofs.Ytdcfcljgennipaa
open Go.RowKit Go.Deep

set_option maxRecDepth 100000 in
set_option maxHeartbeats 400000 in
theorem own_any (w : World) (F : Nat) (v : Value) (h0 : w.cell? ⟨F, 0, none⟩ = some v) (f0 : w.frozen? ⟨F, 0, none⟩ = false) :
    Calls Try.prog 53 #[.pointer (some ⟨F, 0, none⟩)] w fun e w' => e = .returned (.pointer (some ⟨F, 0, none⟩)) ∧ w.setCell ⟨F, 0, none⟩ (.pointer (some ⟨F, 0, none⟩)) = w' := by
  go_enter Try.func53, Try.ntmps53
  go_wp2
  go_ret
  exact ⟨rfl, rfl⟩

theorem made_list (z : Value) (n : Nat) : (madeCells #[z] n).toList = List.replicate n z := by
  refine List.ext_getElem? fun i => ?_
  simp only [madeCells, Array.toList_map, Array.toList_range, List.getElem?_map, List.getElem?_replicate]
  by_cases h : i < n
  · simp [h, Nat.mod_one]
  · simp [h]

theorem Row.made (w : World) (z : Value) (n : Nat) (T : TypeId) : Row (w.alloc (.cells (madeCells #[z] n) T)) w.heap.size T (List.replicate n z) n :=
  ⟨by simp, _, heap_alloc_new w _, by rw [size_madeCells]; exact Nat.le_refl _, by rw [List.length_replicate, made_list, List.take_of_length_le (by simp)]⟩

theorem FlashAt.fresh (w : World) (B W M : Nat) (s : FS) (cb cw : Nat) (hB : Row w B 5 (s.bs.map bv) cb) (hW : Row w W 3 (s.wear.map (Value.int .i64)) cw) (hBW : B ≠ W)
    (len : s.bs.length = 256 * s.wear.length) (few : s.wear.length ≤ 256) (hd : s.down = false) (ha : s.armed = false) (hl : s.left = 0) (hm : s.mask = []) (hM : w.heap.size < M) :
    FlashAt ((w.alloc (.cells #[.pointer none, .slice (some ⟨B, 0, none⟩) s.bs.length cb, .slice (some ⟨W, 0, none⟩) s.wear.length cw, .bool false, .bool false, .int .i64 0, .slice none 0 0] 79)).setCell ⟨w.heap.size, 0, none⟩ (.pointer (some ⟨w.heap.size, 0, none⟩))) w.heap.size B W M s ∧
    Keeps [] w ((w.alloc (.cells #[.pointer none, .slice (some ⟨B, 0, none⟩) s.bs.length cb, .slice (some ⟨W, 0, none⟩) s.wear.length cw, .bool false, .bool false, .int .i64 0, .slice none 0 0] 79)).setCell ⟨w.heap.size, 0, none⟩ (.pointer (some ⟨w.heap.size, 0, none⟩))) := by
  have k : Keeps [] w ((w.alloc (.cells #[.pointer none, .slice (some ⟨B, 0, none⟩) s.bs.length cb, .slice (some ⟨W, 0, none⟩) s.wear.length cw, .bool false, .bool false, .int .i64 0, .slice none 0 0] 79)).setCell ⟨w.heap.size, 0, none⟩ (.pointer (some ⟨w.heap.size, 0, none⟩))) :=
    (Keeps.alloc [] w _).then (Keeps.setCell (S := [w.heap.size]) _ (by simp) _) (fun x hx => .inr (by simp at hx; omega))
  have lB := hB.lt
  have lW := hW.lt
  refine ⟨{ nFB := by omega, nFW := by omega, nBW := hBW, nM := ⟨by omega, by omega, by omega⟩, len := len, few := few, left0 := by omega, left1 := by omega, maskl := by simp [hm], here := ⟨cb, cw, .slice none 0 0, ?_, hB.keeps k (by simp), hW.keeps k (by simp), by rw [hm]; exact Reads.nil _ _⟩ }, k⟩
  rw [hd, ha, hl]
  have h1 := heap_setCell_at (w.alloc (.cells #[.pointer none, .slice (some ⟨B, 0, none⟩) s.bs.length cb, .slice (some ⟨W, 0, none⟩) s.wear.length cw, .bool false, .bool false, .int .i64 0, .slice none 0 0] 79)) w.heap.size 0 (.pointer (some ⟨w.heap.size, 0, none⟩)) _ _ _ (heap_alloc_new w _)
  simpa using h1

def FS.new (n : Nat) : FS := { bs := List.replicate (n * 256) 255, wear := List.replicate n 0, down := false, armed := false, left := 0, mask := [] }

set_option maxRecDepth 100000 in
set_option maxHeartbeats 400000 in
theorem New_bad (w : World) (n : Int) (h : n < 8 ∨ 256 < n) :
    Calls Try.prog 21 #[.int .i64 n] w fun e w' => e = .returned (.tuple #[.pointer none, .int .i64 2]) ∧ w = w' := by
  by_cases h8 : n < 8
  · go_enter Try.func21, Try.ntmps21
    go_wp2
    go_ret2
    exact ⟨rfl, rfl⟩
  · have hbig : 256 < n := by omega
    go_enter Try.func21, Try.ntmps21
    go_wp2
    go_ret2
    exact ⟨rfl, rfl⟩

set_option maxRecDepth 100000 in
set_option maxHeartbeats 1000000 in
theorem New_ok (w : World) (n : Nat) (h8 : 8 ≤ n) (h32 : n ≤ 32) :
    Calls Try.prog 21 #[.int .i64 n] w fun e w' => ∃ F B W M, e = .returned (.tuple #[.pointer (some ⟨F, 0, none⟩), .int .i64 0]) ∧ w.heap.size ≤ F ∧ w.heap.size ≤ B ∧ w.heap.size ≤ W ∧ FlashAt w' F B W M (FS.new n) ∧ Keeps [] w w' := by
  have hmk := fun w => run_make_row' (P := Try.prog) 53 3 (.int .i64 0) 8 Try.underlying53 infoInt rfl .i64 .i64 n (by omega) (by omega) w
  have hcast : ((n : Int) * 256) = ((n * 256 : Nat) : Int) := by omega
  have HC := Lib.hid hcast
  clear hcast
  go_enter Try.func21, Try.ntmps21
  go_wp2_with fail
  rw [HC.out]
  refine (Repeat_one _ w.heap.size 0 _ (n * 256) 255 (by rw [cell_alloc_new]; rfl) (by omega) (by omega)).mono ?_
  rintro e w1 ⟨b, rfl, hb, hR, hK⟩
  have HR := Lib.hid hR
  have HK := Lib.hid hK
  have hb1 := hR.lt
  clear hR hK
  have hW := Row.made w1 (.int .i64 0) n 3
  have hB := HR.out.keeps (Keeps.alloc [] w1 (.cells (madeCells #[.int .i64 0] n) 3)) (by simp)
  have fr := FlashAt.fresh (w1.alloc (.cells (madeCells #[.int .i64 0] n) 3)) b w1.heap.size ((w1.alloc (.cells (madeCells #[.int .i64 0] n) 3)).heap.size + 1) (FS.new n) (n * 256) n (by simpa [FS.new] using hB) (by simpa [FS.new] using hW) (by omega) (by simp [FS.new]; omega) (by simp [FS.new]; omega) rfl rfl rfl rfl (by omega)
  have hl1 : (FS.new n).bs.length = n * 256 := by simp [FS.new]
  have hl2 : (FS.new n).wear.length = n := by simp [FS.new]
  rw [hl1, hl2] at fr
  have hsz : (w1.alloc (.cells (madeCells #[.int .i64 0] n) 3)).heap.size = w1.heap.size + 1 := by simp
  rw [hsz] at fr
  have FR := Lib.hid fr
  clear fr hW hB hl1 hl2 hsz
  go_wp2_with (go_at_call 53; refine (own_any _ _ (.pointer none) ?_ ?_).mono ?_)
  · rw [show w1.heap.size + 1 = (w1.alloc (.cells (madeCells #[.int .i64 0] n) 3)).heap.size by simp, cell_alloc_new]; rfl
  · rw [show w1.heap.size + 1 = (w1.alloc (.cells (madeCells #[.int .i64 0] n) 3)).heap.size by simp, frozen_alloc_new]
  · rintro e w2 ⟨rfl, rfl⟩
    have hfr := FR.out
    generalize (((w1.alloc (.cells (madeCells #[.int .i64 0] n) 3)).alloc (.cells #[.pointer none, .slice (some ⟨b, 0, none⟩) (n * 256) (n * 256), .slice (some ⟨w1.heap.size, 0, none⟩) n n, .bool false, .bool false, .int .i64 0, .slice none 0 0] 79)).setCell ⟨w1.heap.size + 1, 0, none⟩ (.pointer (some ⟨w1.heap.size + 1, 0, none⟩))) = w2 at *
    have H2 := Lib.hid hfr
    clear hfr FR hmk
    go_wp2
    go_ret2
    have hk := HK.out
    have hs := hk.size
    simp at hs hb
    exact ⟨w1.heap.size + 1, b, w1.heap.size, w1.heap.size + 1 + 1, rfl, by omega, by omega, by omega, H2.out.1, (((Keeps.alloc [] w _).trans hk).trans (Keeps.alloc [] w1 _)).trans H2.out.2⟩
end Go.Proofs.Ytdcfcljgennipaa
