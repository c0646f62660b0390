/-
  The primitives: Get: the table made anew, and searched.
-/
import Derived.Test.YtfnjjanknfmibaaPmFind
namespace Go.Proofs.Ytfnjjanknfmibaa
open Go.RowKit Go.Deep
set_option linter.unusedVariables false

theorem pmv_lit (p : Pm) : pmv p = .agg #[.int .u32 (p.num : Int), .string ⟨p.name.toArray⟩, .int .i64 (p.takes : Int), .int .i64 (p.gives : Int), .int .i64 (p.ops : Int), .bool p.text, .bool p.jump] := rfl

theorem store_prim {w : World} {b : Nat} {xs : List Value} (h : Whole w b 27 xs) (hx : xs.length = 7) (n t g o : Int) (s : ByteArray) (x j : Bool) :
    ∃ W, (storeCells ⟨b, 0, none⟩ [.int .u32 n, .string s, .int .i64 t, .int .i64 g, .int .i64 o, .bool x, .bool j]).run Try.prog w = .ok () W ∧
      Whole W b 27 [.int .u32 n, .string s, .int .i64 t, .int .i64 g, .int .i64 o, .bool x, .bool j] ∧ Keeps [b] w W := by
  have hr := run_storeCells_from (P := Try.prog) b 27 [.int .u32 n, .string s, .int .i64 t, .int .i64 g, .int .i64 o, .bool x, .bool j] 0 xs.toArray w h (by simp [hx]) (by
    intro v hv
    simp only [List.mem_cons, List.not_mem_nil, or_false] at hv
    rcases hv with rfl | rfl | rfl | rfl | rfl | rfl | rfl <;> rfl)
  exact ⟨_, hr, by simpa using h.setRow _, Keeps.setRow _ (by simp) _⟩

def zeroP : List Value := [.int .u32 0, .string ⟨#[]⟩, .int .i64 0, .int .i64 0, .int .i64 0, .bool false, .bool false]

theorem Whole.prim {w : World} {b : Nat} {n t g o : Int} {s : ByteArray} {x j : Bool} (h : Whole w b 27 [.int .u32 n, .string s, .int .i64 t, .int .i64 g, .int .i64 o, .bool x, .bool j]) :
    w.cell? ⟨b, 0, none⟩ = some (.int .u32 n) ∧ w.cell? ⟨b, 1, none⟩ = some (.string s) ∧ w.cell? ⟨b, 2, none⟩ = some (.int .i64 t) ∧ w.cell? ⟨b, 3, none⟩ = some (.int .i64 g) ∧ w.cell? ⟨b, 4, none⟩ = some (.int .i64 o) ∧ w.cell? ⟨b, 5, none⟩ = some (.bool x) ∧ w.cell? ⟨b, 6, none⟩ = some (.bool j) :=
  ⟨h.cell 0, h.cell 1, h.cell 2, h.cell 3, h.cell 4, h.cell 5, h.cell 6⟩

theorem Whole.frozen7 {w : World} {b : Nat} {xs : List Value} (h : Whole w b 27 xs) :
    w.frozen? ⟨b, 0, none⟩ = false ∧ w.frozen? ⟨b, 1, none⟩ = false ∧ w.frozen? ⟨b, 2, none⟩ = false ∧ w.frozen? ⟨b, 3, none⟩ = false ∧ w.frozen? ⟨b, 4, none⟩ = false ∧ w.frozen? ⟨b, 5, none⟩ = false ∧ w.frozen? ⟨b, 6, none⟩ = false :=
  ⟨h.frozen 0, h.frozen 1, h.frozen 2, h.frozen 3, h.frozen 4, h.frozen 5, h.frozen 6⟩

/-- All seven cells stored. -/
def set7 (w : World) (b : Nat) (n t g o : Int) (s : ByteArray) (x j : Bool) : World :=
  (((((((w.setCell ⟨b, 0, none⟩ (.int .u32 n)).setCell ⟨b, 1, none⟩ (.string s)).setCell ⟨b, 2, none⟩ (.int .i64 t)).setCell ⟨b, 3, none⟩ (.int .i64 g)).setCell ⟨b, 4, none⟩ (.int .i64 o)).setCell ⟨b, 5, none⟩ (.bool x)).setCell ⟨b, 6, none⟩ (.bool j))

theorem set7_whole {w : World} {b : Nat} {xs : List Value} (h : Whole w b 27 xs) (hx : xs.length = 7) (n t g o : Int) (s : ByteArray) (x j : Bool) :
    Whole (set7 w b n t g o s x j) b 27 [.int .u32 n, .string s, .int .i64 t, .int .i64 g, .int .i64 o, .bool x, .bool j] ∧ Keeps [b] w (set7 w b n t g o s x j) := by
  refine ⟨?_, ?_⟩
  · have h7 := ((((((h.set 0 (.int .u32 n)).set 1 (.string s)).set 2 (.int .i64 t)).set 3 (.int .i64 g)).set 4 (.int .i64 o)).set 5 (.bool x)).set 6 (.bool j)
    match xs, hx with
    | [a0, a1, a2, a3, a4, a5, a6], _ => exact h7
  · have k : ∀ (w : World) i v, Keeps [b] w (w.setCell ⟨b, i, none⟩ v) := fun w i v => Keeps.setCell w (by simp) v
    exact (((((((k _ _ _).trans (k _ _ _)).trans (k _ _ _)).trans (k _ _ _)).trans (k _ _ _)).trans (k _ _ _)).trans (k _ _ _))

set_option maxRecDepth 100000 in
set_option maxHeartbeats 2000000 in
theorem tabGet_none (w : World) (b n : Nat) (hb : TabAt w b) (hg : getP n = none) : Calls Try.prog 33 #[.pointer (some ⟨b, 0, none⟩), .int .u32 (n : Int)] w fun e w' => e = .returned (.tuple #[pmv noP, .bool false]) ∧ Keeps [] w w' := by
  have HF := Lib.hid fun W hk => search_any W b n (hb.keeps (S := []) (w := w) (w' := W) hk (by simp))
  have HG := Lib.hid hg
  have HS := Lib.hid fun W (hk : Keeps [] (w.alloc (.cells zeroP.toArray 27)) W) => Whole.keeps (Whole.new w 27 zeroP) hk (by simp)
  clear hb hg
  go_enter Try.func33, Try.ntmps33
  go_wp2_with (refine (HF.out _ (Keeps.alloc [] _ _)).mono ?_; rintro e w3 ⟨i, q, hs, hk3⟩; obtain rfl := sought_none hs HG.out; have hw3 := HS.out w3 hk3; have HK3 := Lib.hid hk3; clear hk3 hs; have HW3 := Lib.hid hw3; obtain ⟨c0, c1, c2, c3, c4, c5, c6⟩ := hw3.prim; obtain ⟨f0, f1, f2, f3, f4, f5, f6⟩ := hw3.frozen7; clear hw3)
  have hs7 := set7_whole HW3.out rfl 0 0 0 0 ⟨#[]⟩ false false
  change bodyPost _ _ _ _ _ (set7 w3 w.heap.size 0 0 0 0 ⟨#[]⟩ false false)
  generalize set7 w3 w.heap.size 0 0 0 0 ⟨#[]⟩ false false = V at *
  obtain ⟨g0, g1, g2, g3, g4, g5, g6⟩ := hs7.1.prim
  refine bodyPost_ret (v := .tuple #[.agg #[.int .u32 0, .string ⟨#[]⟩, .int .i64 0, .int .i64 0, .int .i64 0, .bool false, .bool false], .bool false]) (by simp [results, Try.results33, go_sem, g0, g1, g2, g3, g4, g5, g6]) rfl ⟨rfl, ((Keeps.alloc [] w _).trans HK3.out).then hs7.2 (fun x hx => .inr (by simp at hx; omega))⟩

set_option maxRecDepth 100000 in
set_option maxHeartbeats 2000000 in
theorem tabGet_some (w : World) (b n j : Nat) (hb : TabAt w b) (hj : j < 113) (hn : (primI j).num = n) : Calls Try.prog 33 #[.pointer (some ⟨b, 0, none⟩), .int .u32 (n : Int)] w fun e w' => e = .returned (.tuple #[pmv (primI j), .bool true]) ∧ Keeps [] w w' := by
  have HF := Lib.hid fun W hk => search_any W b n (hb.keeps (S := []) (w := w) (w' := W) hk (by simp))
  have HJ := Lib.hid hj
  have HN := Lib.hid hn
  have HT := Lib.hid fun W (hk : Keeps [] w W) => (hb.keeps hk (by simp)).prim hj
  have HS := Lib.hid fun W (hk : Keeps [] (w.alloc (.cells zeroP.toArray 27)) W) => Whole.keeps (Whole.new w 27 zeroP) hk (by simp)
  have HP := Lib.hid (pmv_lit (primI j))
  have hj' : (j : Int) < 113 := by omega
  clear hb hn
  generalize ((primI j).num : Int) = a at *
  unfold str at HT
  generalize ByteArray.mk (primI j).name.toArray = s at *
  generalize ((primI j).takes : Int) = t at *
  generalize ((primI j).gives : Int) = g at *
  generalize ((primI j).ops : Int) = o at *
  generalize (primI j).text = tx at *
  generalize (primI j).jump = jp at *
  generalize pmv (primI j) = pv at *
  go_enter Try.func33, Try.ntmps33
  go_wp2_with (refine (HF.out _ (Keeps.alloc [] _ _)).mono ?_; rintro e w3 ⟨i, q, hs, hk3⟩; obtain rfl := sought_some hs HJ.out HN.out; have hw3 := HS.out w3 hk3; have HK3 := Lib.hid hk3; obtain ⟨d0, d1, d2, d3, d4, d5, d6⟩ := HT.out w3 ((Keeps.alloc [] w _).trans hk3); clear hk3 hs; have HW3 := Lib.hid hw3; obtain ⟨c0, c1, c2, c3, c4, c5, c6⟩ := hw3.prim; obtain ⟨f0, f1, f2, f3, f4, f5, f6⟩ := hw3.frozen7; clear hw3)
  have hs7 := set7_whole HW3.out rfl a t g o s tx jp
  change bodyPost _ _ _ _ _ (set7 w3 w.heap.size a t g o s tx jp)
  generalize set7 w3 w.heap.size a t g o s tx jp = V at *
  obtain ⟨g0, g1, g2, g3, g4, g5, g6⟩ := hs7.1.prim
  refine bodyPost_ret (v := .tuple #[.agg #[.int .u32 a, .string s, .int .i64 t, .int .i64 g, .int .i64 o, .bool tx, .bool jp], .bool true]) (by simp [results, Try.results33, go_sem, g0, g1, g2, g3, g4, g5, g6]) rfl ⟨by rw [HP.out], ((Keeps.alloc [] w _).trans HK3.out).then hs7.2 (fun x hx => .inr (by simp at hx; omega))⟩

theorem tabGet_any (w : World) (b n : Nat) (hb : TabAt w b) : Calls Try.prog 33 #[.pointer (some ⟨b, 0, none⟩), .int .u32 (n : Int)] w fun e w' => e = .returned (.tuple #[pmv (pOf (getP n)), .bool (getP n).isSome]) ∧ Keeps [] w w' := by
  cases hg : getP n with
  | none => exact tabGet_none w b n hb hg
  | some p =>
    obtain ⟨i, hi, rfl, hn⟩ := getP_some hg
    exact tabGet_some w b n i hb hi hn

theorem Whole.tab {w : World} {b : Nat} {T : TypeId} (h : Whole w b T (cellsP tabL)) : TabAt w b := fun k v hk => by rw [h.cell, hk]

/-- The table laid in a block of its own. -/
structure Laid (zs : Array Value) (tw : World → World) (tc : Array Value) : Prop where
  zero : ∀ w, (zeroValue 61).run Try.prog w = .ok (.agg zs) w
  size : tc.size = 791
  store : ∀ w, (storeCells ⟨w.heap.size, 0, none⟩ tc.toList).run Try.prog (w.alloc (.cells zs 61)) = .ok () (tw w)
  whole : ∀ w, Whole (tw w) w.heap.size 61 (cellsP tabL)
  keeps : ∀ w, Keeps [] w (tw w)

theorem tab_laid : ∃ (zs : Array Value) (tw : World → World), Laid zs tw (cellsP tabL).toArray := by
  obtain ⟨zs, hzs, hz⟩ := zeroTable
  have hl : (cellsP tabL).length = 791 := by rw [cellsP_length, tabL_length]
  refine ⟨zs, fun w => (w.alloc (.cells zs 61)).setRow w.heap.size (cellsP tabL).toArray, hz, ?_, ?_, ?_, ?_⟩
  · rw [List.size_toArray, hl]
  · intro w
    have h := run_storeCells_from (P := Try.prog) w.heap.size 61 (cellsP tabL) 0 zs (w.alloc (.cells zs 61)) (heap_alloc_new w _) (by rw [hl, hzs]) (cellsP_one tabL)
    simpa using h
  · intro w
    have hw : Whole (w.alloc (.cells zs 61)) w.heap.size 61 zs.toList := by
      have := Whole.new w 61 zs.toList
      simpa using this
    exact hw.setRow (cellsP tabL)
  · intro w
    exact (Keeps.alloc [] w _).then (Keeps.setRow (S := [w.heap.size]) _ (by simp) _) (fun x hx => .inr (by simp at hx; omega))

set_option maxRecDepth 100000 in
set_option maxHeartbeats 2000000 in
theorem Get_any (w : World) (n : Nat) : Calls Try.prog 10 #[.int .u32 (n : Int)] w fun e w' => e = .returned (.tuple #[pmv (pOf (getP n)), .bool (getP n).isSome]) ∧ Keeps [] w w' := by
  obtain ⟨zs, tw, hL⟩ := tab_laid
  have h1 := hL.zero
  have h2 := hL.size
  have h3 := hL.store
  have HL := Lib.hid hL
  have HP := Lib.hid prims_any
  unfold tabV at HP
  have HG := Lib.hid fun W b hb => tabGet_any W b n hb
  have HS := Lib.hid fun W (hk : Keeps [] (w.alloc (.cells zeroP.toArray 27)) W) => Whole.keeps (Whole.new w 27 zeroP) hk (by simp)
  have HV := Lib.hid (pmv_lit (pOf (getP n)))
  clear hL
  generalize (cellsP tabL).toArray = tc at *
  generalize hpv : pmv (pOf (getP n)) = pv at *
  obtain rfl := HV.out
  clear hpv
  generalize ((pOf (getP n)).num : Int) = a at *
  generalize ByteArray.mk (pOf (getP n)).name.toArray = s at *
  generalize ((pOf (getP n)).takes : Int) = t at *
  generalize ((pOf (getP n)).gives : Int) = g at *
  generalize ((pOf (getP n)).ops : Int) = o at *
  generalize (pOf (getP n)).text = tx at *
  generalize (pOf (getP n)).jump = jp at *
  generalize (getP n).isSome = ok at *
  go_enter Try.func10, Try.ntmps10
  go_wp2_with (first | (refine (HP.out _).mono ?_; rintro e w3 ⟨rfl, hk3⟩; have HK3 := Lib.hid hk3; clear hk3) | (refine (HG.out _ _ (HL.out.whole _).tab).mono ?_; rintro e w4 ⟨rfl, hk4⟩; have hw4 := HS.out w4 ((HK3.out.trans (HL.out.keeps _)).trans hk4); have HK4 := Lib.hid hk4; have HW4 := Lib.hid hw4; obtain ⟨c0, c1, c2, c3, c4, c5, c6⟩ := hw4.prim; obtain ⟨f0, f1, f2, f3, f4, f5, f6⟩ := hw4.frozen7; clear hw4 hk4))
  have hs7 := set7_whole HW4.out rfl a t g o s tx jp
  change bodyPost _ _ _ _ _ (set7 w4 w.heap.size a t g o s tx jp)
  generalize set7 w4 w.heap.size a t g o s tx jp = V at *
  obtain ⟨g0, g1, g2, g3, g4, g5, g6⟩ := hs7.1.prim
  refine bodyPost_ret (v := .tuple #[.agg #[.int .u32 a, .string s, .int .i64 t, .int .i64 g, .int .i64 o, .bool tx, .bool jp], .bool ok]) (by simp [results, Try.results10, go_sem, g0, g1, g2, g3, g4, g5, g6]) rfl ⟨rfl, ((((Keeps.alloc [] w _).trans HK3.out).trans (HL.out.keeps _)).trans HK4.out).then hs7.2 (fun x hx => .inr (by simp at hx; omega))⟩

set_option maxRecDepth 100000 in
set_option maxHeartbeats 2000000 in
theorem All_any (w : World) : Calls Try.prog 20 #[] w fun e w' => ∃ b, e = .returned (.slice (some ⟨b, 0, none⟩) 113 113) ∧ w.heap.size ≤ b ∧ Whole w' b 61 (cellsP tabL) ∧ Keeps [] w w' := by
  obtain ⟨zs, tw, hL⟩ := tab_laid
  have h1 := hL.zero
  have h2 := hL.size
  have h3 := hL.store
  have HL := Lib.hid hL
  have HP := Lib.hid prims_any
  unfold tabV at HP
  clear hL
  generalize (cellsP tabL).toArray = tc at *
  go_enter Try.func20, Try.ntmps20
  go_wp2_with (refine (HP.out _).mono ?_; rintro e w3 ⟨rfl, hk3⟩; have HK3 := Lib.hid hk3; clear hk3)
  go_ret
  exact ⟨w3.heap.size, rfl, HK3.out.size, HL.out.whole _, HK3.out.trans (HL.out.keeps _)⟩
end Go.Proofs.Ytfnjjanknfmibaa
