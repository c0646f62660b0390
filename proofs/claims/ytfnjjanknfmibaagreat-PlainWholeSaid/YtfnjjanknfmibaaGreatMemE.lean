/-
  Memories: windowOf, Show, New, the calls of a memory that is none.
-/
import Derived.Test.YtfnjjanknfmibaaGreatMemD
namespace Go.Proofs.YtfnjjanknfmibaaGreat
open Go.RowKit Go.Deep
set_option linter.unusedVariables false

theorem bytes_list (z : Value) (n : Nat) : (madeCells #[z] n).toList = List.replicate n z := by
  refine List.ext_getElem? fun i => ?_
  simp only [madeCells, Array.toList_map, Array.toList_range, List.getElem?_map, List.getElem?_replicate]
  by_cases h : i < n
  · simp [h, Nat.mod_one]
  · simp [h]

theorem run_zeros (w : World) (n : Nat) (hm : n ≤ 1000000) :
    (Instr.makeSlice 23 (.int .i64 n) (.int .i64 n)).run Tryz.prog w = .ok (.slice (some ⟨w.heap.size, 0, none⟩) n n) (w.alloc (.cells ((List.replicate n (0 : UInt8)).map bv).toArray 5)) := by
  obtain ⟨i0, hi, hz0, hz1, hz2⟩ := info_parts infoByte
  rw [run_make w 23 5 i0 (.int .u8 0) Tryz.underlying23 hi hz0 .i64 .i64 _ _ (by omega) (by omega) (by rw [hz2]; omega) (by omega)]
  rw [hz1, Int.toNat_natCast, Nat.mul_one, show (Value.int IntKind.u8 0).cells = #[.int .u8 0] from rfl, List.map_replicate, show bv 0 = .int .u8 0 from rfl, ← bytes_list]

set_option maxRecDepth 100000 in
theorem windowOf_any (w : World) (v : Value) (l : List UInt8) (M : Nat) (h : Reads w v l M) (hl : l.length ≤ 65536) :
    Calls Tryz.prog 30 #[v] w fun e w' => ∃ a c M', e = .returned (.agg #[.int .u32 4096, .slice a l.length c]) ∧ Reads w' (.slice a l.length c) l M' ∧ (l ≠ [] → w.heap.size ≤ M' ∧ M' < w'.heap.size) ∧ Keeps [] w w' := by
  obtain ⟨a0, c0, rfl, _⟩ := h.shape
  have HC := Lib.hid (fun (W : World) (hk : Keeps [] w W) => Clone9 W _ l M (h.ifKept hk (by simp)) hl)
  clear h
  generalize hn : l.length = n at *
  go_enter Tryz.func30, Tryz.ntmps30
  go_wp2_with (first | (go_at_call 18; refine (HC.out _ (Keeps.alloc [] _ _)).mono ?_; rintro e w2 ⟨u, M', rfl, hr, hM, hk⟩; have HR := Lib.hid hr; have HM := Lib.hid hM; have HK := Lib.hid ((Keeps.alloc [] w _).trans hk); have hwh := (Whole.new w 55 [.int .u32 0, .slice none 0 0]).keeps hk (by simp); have HWH := Lib.hid hwh; have hal : w2.cell? ⟨w.heap.size, 0, none⟩ = some (.int .u32 0) := (hwh.cell 0).trans rfl; have hal1 : w2.cell? ⟨w.heap.size, 1, none⟩ = some (.slice none 0 0) := (hwh.cell 1).trans rfl; have hf0 := hwh.frozen 0; have hf1 := hwh.frozen 1; clear hwh; obtain ⟨a3, c3, rfl, _⟩ := hr.shape; clear hM hk hr))
  have hWF := ((HWH.out.set 0 (.int .u32 4096)).set 1 (.slice a3 n c3))
  have e0 := hWF.cell 0
  have e1 := hWF.cell 1
  simp only [List.set_cons_zero, List.set_cons_succ, List.getElem?_cons_zero, List.getElem?_cons_succ] at e0 e1
  have hks : Keeps [w.heap.size] w2 ((w2.setCell ⟨w.heap.size, 0, none⟩ (.int .u32 4096)).setCell ⟨w.heap.size, 1, none⟩ (.slice a3 n c3)) := (Keeps.setCell _ (by simp) _).trans (Keeps.setCell _ (by simp) _)
  have hsz := HWH.out.lt
  have HRn : Reads w2 (.slice a3 n c3) l M' := by have := HR.out; rwa [hn] at this
  refine bodyPost_ret (v := .agg #[.int .u32 4096, .slice a3 n c3]) (by simp [results, Tryz.results30, go_sem, e0, e1]) rfl ⟨a3, c3, M', rfl, HRn.ifKept hks (fun hl => by have := (HM.out hl).1; simp at this; simp; omega), fun hl => ?_, HK.out.then hks (fun x hx => .inr (by simp at hx; omega))⟩
  have h1 := HM.out hl
  have h2 := hks.size
  simp at h1
  omega

section
variable {w : World} {H g rb M : Nat} {wv : Value} {win ram : List UInt8}

end

theorem Ram_not (w : World) (p : Option Addr) (h : NotMem w p) : Calls Tryz.prog 6 #[.pointer p] w fun e w' => e = .returned (.slice none 0 0) ∧ w = w' := by
  go_enter Tryz.func6, Tryz.ntmps6
  go_wp2_with (go_at_call 17; refine (mmMade_not _ _ h).mono ?_; rintro e w' ⟨rfl, rfl⟩)
  go_ret
  exact ⟨rfl, rfl⟩
set_option maxRecDepth 100000 in
theorem Load_not (w : World) (p : Option Addr) (h : NotMem w p) (A : Int) : Calls Tryz.prog 91 #[.pointer p, .int .u32 A] w fun e w' => e = .returned (.tuple #[.int .u32 0, .int .i32 (-9)]) ∧ w = w' := by
  go_enter Tryz.func91, Tryz.ntmps91
  go_wp2_with (first | (go_at_call 153; refine (aligned_not _ _ h _).mono ?_; rintro e w' ⟨rfl, rfl⟩) | (go_at_call 19; refine (there_not _ _ h _ _).mono ?_; rintro e w' ⟨rfl, rfl⟩))
  go_ret2
  exact ⟨rfl, rfl⟩
set_option maxRecDepth 100000 in
theorem Byte_not (w : World) (p : Option Addr) (h : NotMem w p) (A : Int) : Calls Tryz.prog 94 #[.pointer p, .int .u32 A] w fun e w' => e = .returned (.tuple #[.int .u8 0, .int .i32 (-9)]) ∧ w = w' := by
  go_enter Tryz.func94, Tryz.ntmps94
  go_wp2_with (first | (go_at_call 19; refine (there_not _ _ h _ _).mono ?_; rintro e w' ⟨rfl, rfl⟩))
  go_ret2
  exact ⟨rfl, rfl⟩
set_option maxRecDepth 100000 in
theorem Bytes_not (w : World) (p : Option Addr) (h : NotMem w p) (A n : Int) : Calls Tryz.prog 7 #[.pointer p, .int .u32 A, .int .u32 n] w fun e w' => e = .returned (.tuple #[.slice none 0 0, .int .i32 (-9)]) ∧ w = w' := by
  have hc : ∀ w, Calls Tryz.prog 18 #[.slice none 0 0] w fun e w' => e = .returned (.slice none 0 0) ∧ w = w' := by
    intro w
    have hne := fun w => Lib.run_eql_slice_nil (P := Tryz.prog) w 23 5 none 0 0 0 0 Tryz.underlying23
    go_enter Tryz.func18, Tryz.ntmps18
    go_wp2
    go_ret
    exact ⟨rfl, rfl⟩
  go_enter Tryz.func7, Tryz.ntmps7
  go_wp2_with (first | (go_at_call 19; refine (there_not _ _ h _ _).mono ?_; rintro e w' ⟨rfl, rfl⟩) | (go_at_call 18; refine (hc _).mono ?_; rintro e w' ⟨rfl, rfl⟩))
  go_ret2
  exact ⟨rfl, rfl⟩
theorem Fill_not (w : World) (p : Option Addr) (h : NotMem w p) (A n c : Int) : Calls Tryz.prog 110 #[.pointer p, .int .u32 A, .int .u32 n, .int .u8 c] w fun e w' => e = .returned (.int .i32 (-9)) ∧ w = w' := by
  go_enter Tryz.func110, Tryz.ntmps110
  go_wp2_with (first | (go_at_call 154; refine (writable_not _ _ h _ _).mono ?_; rintro e w' ⟨rfl, rfl⟩) | fail)
  go_loopw [11, 21] (fun _ i wr => i = .int .i64 0 ∧ wr = w) (fun _ i _ => 0)
  case atStart => exact ⟨rfl, rfl⟩
  case round =>
    obtain ⟨rfl, rfl⟩ := hrel
    go_wp2
    go_ret
    exact ⟨rfl, rfl⟩
theorem SetByte_not (w : World) (p : Option Addr) (h : NotMem w p) (A c : Int) : Calls Tryz.prog 102 #[.pointer p, .int .u32 A, .int .u8 c] w fun e w' => e = .returned (.int .i32 (-9)) ∧ w = w' := by
  go_enter Tryz.func102, Tryz.ntmps102
  go_wp2_with (first | (go_at_call 110; refine (Fill_not _ _ h _ _ _).mono ?_; rintro e w' ⟨rfl, rfl⟩) | fail)
  go_ret
  exact ⟨rfl, rfl⟩
theorem Store_not (w : World) (p : Option Addr) (h : NotMem w p) (A x : Int) : Calls Tryz.prog 100 #[.pointer p, .int .u32 A, .int .u32 x] w fun e w' => e = .returned (.int .i32 (-9)) ∧ w = w' := by
  go_enter Tryz.func100, Tryz.ntmps100
  go_wp2_with (first | (go_at_call 153; refine (aligned_not _ _ h _).mono ?_; rintro e w' ⟨rfl, rfl⟩) | (go_at_call 154; refine (writable_not _ _ h _ _).mono ?_; rintro e w' ⟨rfl, rfl⟩) | fail)
  go_loopw [10, 25] (fun _ i wr => i = .int .i64 0 ∧ wr = w) (fun _ i _ => 0)
  case atStart => exact ⟨rfl, rfl⟩
  case round =>
    obtain ⟨rfl, rfl⟩ := hrel
    go_wp2
    go_ret
    exact ⟨rfl, rfl⟩
theorem Move_not (w : World) (p : Option Addr) (h : NotMem w p) (A B n : Int) : Calls Tryz.prog 108 #[.pointer p, .int .u32 A, .int .u32 B, .int .u32 n] w fun e w' => e = .returned (.int .i32 (-9)) ∧ w = w' := by
  go_enter Tryz.func108, Tryz.ntmps108
  go_wp2_with (first | (go_at_call 19; refine (there_not _ _ h _ _).mono ?_; rintro e w' ⟨rfl, rfl⟩) | fail)
  go_ret
  exact ⟨rfl, rfl⟩

set_option maxRecDepth 100000 in
theorem New9_err (w : World) (n : Int) (a : Option Addr) (m c : Nat) (h : n < 4 ∨ 65536 < n ∨ n % 4 ≠ 0 ∨ 65536 < m) (n0 : -9223372036854775808 ≤ n) :
    Calls Tryz.prog 13 #[.int .i64 n, .slice a m c] w fun e w' => e = .returned (.tuple #[.pointer none, .int .i64 2]) ∧ w = w' := by
  by_cases h1 : n < 4
  · clear h
    go_enter Tryz.func13, Tryz.ntmps13
    go_wp2
    go_ret2
    exact ⟨rfl, rfl⟩
  by_cases h2 : 65536 < n
  · clear h
    go_enter Tryz.func13, Tryz.ntmps13
    go_wp2
    go_ret2
    exact ⟨rfl, rfl⟩
  obtain ⟨k, rfl⟩ := Int.eq_ofNat_of_zero_le (by omega : 0 ≤ n)
  by_cases h3 : (k : Int) % 4 = 0
  · have h4 : 65536 < m := by omega
    clear h
    go_enter Tryz.func13, Tryz.ntmps13
    go_wp2
    go_ret2
    exact ⟨rfl, rfl⟩
  · clear h
    go_enter Tryz.func13, Tryz.ntmps13
    go_wp2
    go_ret2
    exact ⟨rfl, rfl⟩

/-- A memory whose own word is set last. -/
theorem mem_new {w W : World} {g rb M' n : Nat} {a : Option Addr} {c : Nat} {l zs : List UInt8} (hk : Keeps [] w W)
    (hw : Whole W g 57 [.pointer none, .int .u32 4096, .slice a l.length c, .int .u32 1048576, .slice (some ⟨rb, 0, none⟩) n n])
    (hr : Whole W rb 5 (zs.map bv)) (hz : zs.length = n) (n4 : 4 ≤ n) (n1 : n ≤ 65536) (nm : n % 4 = 0) (hR : Reads W (.slice a l.length c) l M')
    (hM : l ≠ [] → w.heap.size ≤ M' ∧ M' < W.heap.size ∧ M' ≠ g ∧ M' ≠ rb) (hl : l.length ≤ 65536) (hg : w.heap.size ≤ g) (hrb : w.heap.size ≤ rb) (hne : g ≠ rb) :
    MemAt (W.setCell ⟨g, 0, none⟩ (.pointer (some ⟨g, 0, none⟩))) w.heap.size g rb M' (.slice a l.length c) l zs ∧ Keeps [] w (W.setCell ⟨g, 0, none⟩ (.pointer (some ⟨g, 0, none⟩))) := by
  have hks : Keeps [g] W (W.setCell ⟨g, 0, none⟩ (.pointer (some ⟨g, 0, none⟩))) := Keeps.setCell _ (by simp) _
  refine ⟨⟨?_, hr.keeps hks (by simp [Ne.symm hne]), hR.ifKept hks (fun h => by simp [(hM h).2.2.1]), fun h => ?_, hg, hrb, hne, by rw [hz]; exact ⟨n4, n1, nm⟩, hl⟩, hk.then hks (fun x hx => .inr (by simp at hx; omega))⟩
  · rw [hz]; exact hw.set 0 _
  · have := hM h
    have := hks.size
    exact ⟨by omega, by omega, by omega, by omega⟩

set_option maxRecDepth 100000 in
set_option maxHeartbeats 2000000 in
theorem New9_ok (w : World) (n : Nat) (n4 : 4 ≤ n) (n1 : n ≤ 65536) (nm : n % 4 = 0) (v : Value) (l : List UInt8) (Ml : Nat) (hl : Reads w v l Ml) (hm : l.length ≤ 65536) :
    Calls Tryz.prog 13 #[.int .i64 n, v] w fun e w' => ∃ g rb M wv, e = .returned (.tuple #[.pointer (some ⟨g, 0, none⟩), .int .i64 0]) ∧ MemAt w' w.heap.size g rb M wv l (List.replicate n 0) ∧ Keeps [] w w' := by
  have HC := Lib.hid (fun (W : World) (hk : Keeps [] w W) => windowOf_any W v l Ml (hl.ifKept hk (by simp)) hm)
  have hmk := fun w => run_zeros w n (by omega)
  obtain ⟨a0, cp0, rfl, _⟩ := hl.shape
  clear hl
  have hm4 : (n : Int) % 4 = 0 := by omega
  have HLN := Lib.hid hm
  have HZ := Lib.hid (show ((List.replicate n (0 : UInt8)).length = n) from by simp)
  generalize hln : l.length = ll at *
  generalize hzz : List.replicate n (0 : UInt8) = zs at *
  clear hzz
  go_enter Tryz.func13, Tryz.ntmps13
  go_upto_region 3 with (fail)
  go_region_with (first | (go_at_call 30; refine (HC.out _ (by first | exact Keeps.refl _ _ | exact Keeps.drew _ _ | exact (Keeps.drew _ _).trans (Keeps.alloc [] _ _))).mono ?_; rintro e w2 ⟨a3, c3, M', rfl, hr, hM, hk⟩; have HR := Lib.hid hr; have HMM := Lib.hid hM; have HK := Lib.hid hk; clear hM hk hr))
  · have hK := HK.out
    have hsz := hK.size
    obtain ⟨G, hG⟩ : ∃ G, G = w2.heap.size + 1 := ⟨_, rfl⟩
    rw [← hG]
    generalize hW3 : World.alloc (World.alloc w2 _) _ = W3
    have hk3 : Keeps [] w2 W3 := by rw [← hW3]; exact (Keeps.alloc [] _ _).trans (Keeps.alloc [] _ _)
    have hr3 : Whole W3 w2.heap.size 5 (zs.map bv) := by rw [← hW3]; exact (Whole.new w2 5 (zs.map bv)).keeps (Keeps.alloc [] _ _) (by simp)
    have hw3 : Whole W3 G 57 [.pointer none, .int .u32 4096, .slice a3 ll c3, .int .u32 1048576, .slice (some ⟨w2.heap.size, 0, none⟩) n n] := by rw [← hW3]; exact Whole.new_at _ _ _ _ (by simp [hG])
    have hs3 : W3.heap.size = w2.heap.size + 2 := by rw [← hW3]; simp
    clear hW3
    have g0 := hw3.cell 0
    have f0 := hw3.frozen 0
    simp only [List.getElem?_cons_zero] at g0
    have HN := Lib.hid (mem_new (w := w) (l := l) (((Keeps.drew [] w).trans hK).trans hk3) (hln ▸ hw3) hr3 HZ.out n4 n1 nm ((hln ▸ HR.out : Reads w2 (.slice a3 l.length c3) l M').keeps hk3 (by simp)) (fun h => by have := HMM.out h; simp at this; omega) (hln ▸ HLN.out) (by simp at hsz; omega) (by simp at hsz; omega) (by omega))
    clear hw3 hr3 hk3 hsz hs3 hG
    generalize w2.heap.size = rb at *
    simp only [Act.put, List.getElem_toArray, List.getElem_cons_succ, List.getElem_cons_zero]
    go_wp2
    go_ret2
    exact ⟨G, rb, M', _, rfl, HN.out.1, HN.out.2⟩
  · have hK := HK.out
    have hk2 : Keeps [] w w2 := ((Keeps.drew [] w).trans (Keeps.alloc [] _ _)).trans hK
    have hsz := hK.size
    have hr2 : Whole w2 w.heap.size 5 (zs.map bv) := (Whole.new_at w.drew 5 (zs.map bv) w.heap.size rfl).keeps hK (by simp)
    have hrl := hr2.lt
    obtain ⟨G, hG⟩ : ∃ G, G = w2.heap.size := ⟨_, rfl⟩
    rw [← hG]
    generalize hW3 : World.alloc w2 _ = W3
    have hk3 : Keeps [] w2 W3 := by rw [← hW3]; exact Keeps.alloc [] _ _
    have hr3 : Whole W3 w.heap.size 5 (zs.map bv) := hr2.keeps hk3 (by simp)
    have hw3 : Whole W3 G 57 [.pointer none, .int .u32 4096, .slice a3 ll c3, .int .u32 1048576, .slice (some ⟨w.heap.size, 0, none⟩) n n] := by rw [← hW3]; exact Whole.new_at _ _ _ _ hG.symm
    have hs3 : W3.heap.size = w2.heap.size + 1 := by rw [← hW3]; simp
    clear hW3
    have g0 := hw3.cell 0
    have f0 := hw3.frozen 0
    simp only [List.getElem?_cons_zero] at g0
    have HN := Lib.hid (mem_new (w := w) (l := l) (hk2.trans hk3) (hln ▸ hw3) hr3 HZ.out n4 n1 nm ((hln ▸ HR.out : Reads w2 (.slice a3 l.length c3) l M').keeps hk3 (by simp)) (fun h => by have := HMM.out h; simp at this; omega) (hln ▸ HLN.out) (by simp at hsz; omega) (Nat.le_refl _) (by omega))
    clear hw3 hr3 hk3 hsz hs3 hG hr2 hk2 hrl
    simp only [Act.put, List.getElem_toArray, List.getElem_cons_succ, List.getElem_cons_zero]
    go_wp2
    go_ret2
    exact ⟨G, w.heap.size, M', _, rfl, HN.out.1, HN.out.2⟩
end Go.Proofs.YtfnjjanknfmibaaGreat
