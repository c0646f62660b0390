/-
  Plain primitives: two cells stored. Written by draft/genpl5.py.
-/
import Derived.Test.YtfnjjanknfmibaaGreatPlMem
namespace Go.Proofs.YtfnjjanknfmibaaGreat
open Go.RowKit
set_option linter.unusedVariables false

/-- Both places are tried: what is thrown, and what RAM is then. -/
def triedT (win ram : List UInt8) (A : Nat) : Int := if addT win ram A = 0 then addT win (addL win ram A 0) (nextA A) else addT win ram A
def triedL (win ram : List UInt8) (A : Nat) : List UInt8 := if addT win ram A = 0 then addL win (addL win ram A 0) (nextA A) 0 else addL win ram A 0
/-- Two cells stored: what is thrown, and what RAM is then. -/
def store2T (win ram : List UInt8) (A y x : Nat) : Int := if triedT win ram A = 0 then storeT win (storeL (triedL win ram A) A y) (nextA A) else triedT win ram A
def store2L (win ram : List UInt8) (A y x : Nat) : List UInt8 := if triedT win ram A = 0 then storeL (storeL (triedL win ram A) A y) (nextA A) x else triedL win ram A

section
variable {w0 w : World} {κ : Nat → Nat} {gs gr gm : Nat} {room : Int} {s r : List (BitVec 32)} {win ram : List UInt8}

/-- How far the loop has come. -/
structure Tried (w0 W0 : World) (κ : Nat → Nat) (gs gr gm : Nat) (room : Int) (s r : List (BitVec 32)) (win ram : List UInt8) (A j : Nat) (wr : World) : Prop where
  ex : ∃ κj ramj, Lab w0 κj wr gs gr gm room s r win ramj ∧ Step κ W0 κj wr ∧ ((j = 0 ∧ ramj = ram) ∨ (j = 1 ∧ ramj = addL win ram A 0 ∧ addT win ram A = 0) ∨ (j = 2 ∧ ramj = triedL win ram A ∧ triedT win ram A = 0))

set_option maxRecDepth 100000 in
set_option maxHeartbeats 2000000 in
theorem storeTwo_any (h : Lab w0 κ w gs gr gm room s r win ram) (A y x : Nat) (a1 : A < 4294967296) (y1 : y < 4294967296) (x1 : x < 4294967296) : Calls Tryz.prog 106 #[.agg #[.pointer (some ⟨gs, 0, none⟩), .pointer (some ⟨gr, 0, none⟩), .pointer (some ⟨gm, 0, none⟩)], .int .u32 (A : Int), .int .u32 (y : Int), .int .u32 (x : Int)] w fun e w' => e = .returned (.int .i32 (store2T win ram A y x)) ∧ ∃ κ', Lab w0 κ' w' gs gr gm room s r win (store2L win ram A y x) ∧ Step κ w κ' w' := by
  obtain ⟨a, ha⟩ : ∃ a : Int, a = (A : Int) := ⟨_, rfl⟩
  obtain ⟨b, hb⟩ : ∃ b : Int, b = ((nextA A : Nat) : Int) := ⟨_, rfl⟩
  have ab : (a + 4) % 4294967296 = b := by rw [ha, hb]; unfold nextA; omega
  have nb : nextA A < 4294967296 := by unfold nextA; omega
  obtain ⟨W0, hW0⟩ : ∃ W0, W0 = (w.alloc (.cells #[.pointer (some ⟨gs, 0, none⟩), .pointer (some ⟨gr, 0, none⟩), .pointer (some ⟨gm, 0, none⟩)] 61)).alloc (.cells #[.int .u32 a, .int .u32 b] 24) := ⟨_, rfl⟩
  have HK0 : Hid (Keeps [] w W0) := by rw [hW0]; exact (Keeps.alloc [] w _).trans (Keeps.alloc [] _ _)
  have HC0 : Hid (W0.cell? ⟨w.heap.size, 0, none⟩ = some (.pointer (some ⟨gs, 0, none⟩)) ∧ W0.cell? ⟨w.heap.size, 1, none⟩ = some (.pointer (some ⟨gr, 0, none⟩)) ∧ W0.cell? ⟨w.heap.size, 2, none⟩ = some (.pointer (some ⟨gm, 0, none⟩))) := by
    rw [hW0]
    exact ⟨(Keeps.alloc [] _ _).cell (cell_alloc_new w _ _ 0) (by simp), (Keeps.alloc [] _ _).cell (cell_alloc_new w _ _ 1) (by simp), (Keeps.alloc [] _ _).cell (cell_alloc_new w _ _ 2) (by simp)⟩
  have hsz : (w.alloc (.cells #[.pointer (some ⟨gs, 0, none⟩), .pointer (some ⟨gr, 0, none⟩), .pointer (some ⟨gm, 0, none⟩)] 61)).heap.size = w.heap.size + 1 := by simp
  have HC1 : Hid (W0.cell? ⟨w.heap.size + 1, 0, none⟩ = some (.int .u32 a) ∧ W0.cell? ⟨w.heap.size + 1, 1, none⟩ = some (.int .u32 b)) := by
    rw [hW0, ← hsz]
    exact ⟨cell_alloc_new _ _ _ 0, cell_alloc_new _ _ _ 1⟩
  have HSZ0 : Hid (w.heap.size < W0.heap.size) := by show _ < _; rw [hW0]; simp; omega
  have HN0 := Lib.hid (h.newer (x := w.heap.size) (Nat.le_refl _))
  have HN1 := Lib.hid (h.newer (x := w.heap.size + 1) (Nat.le_succ _))
  have HL := Lib.hid h
  have HAD := Lib.hid (fun (κj : Nat → Nat) (wr : World) (ramj : List UInt8) (hl : Lab w0 κj wr gs gr gm room s r win ramj) => add_any hl A 0 a1 (by decide))
  have HAD2 := Lib.hid (fun (κj : Nat → Nat) (wr : World) (ramj : List UInt8) (hl : Lab w0 κj wr gs gr gm room s r win ramj) => add_any hl (nextA A) 0 nb (by decide))
  have HST := Lib.hid (fun (κj : Nat → Nat) (wr : World) (ramj : List UInt8) (hl : Lab w0 κj wr gs gr gm room s r win ramj) => Store_lab hl a (y : Int) A y ha rfl a1 y1 _ _ rfl rfl)
  have HST2 := Lib.hid (fun (κj : Nat → Nat) (wr : World) (ramj : List UInt8) (hl : Lab w0 κj wr gs gr gm room s r win ramj) => Store_lab hl b (x : Int) (nextA A) x hb rfl nb x1 _ _ rfl rfl)
  rw [← ha] at HAD ⊢
  rw [← hb] at HAD2
  clear h hsz ha hb
  go_enter Tryz.func106, Tryz.ntmps106
  go_wp2
  rw [← hW0]
  have HAB := Lib.hid ab
  clear hW0 ab
  go_loopw [17] (fun i wr => ∃ j : Nat, i = .int .i64 (j : Int) ∧ Tried w0 W0 κ gs gr gm room s r win ram A j wr) (fun i _ => 2 - (intOf i).toNat)
  case atStart => exact ⟨0, rfl, ⟨κ, ram, HL.out.next HK0.out, Step.of (Keeps.refl _ _), .inl ⟨rfl, rfl⟩⟩⟩
  case round =>
    obtain ⟨j, rfl, ⟨κj, ramj, hl, hs, hj⟩⟩ := hrel
    have c0 := hs.cell (p := ⟨w.heap.size, 0, none⟩) HC0.out.1 HN0.out
    have c1 := hs.cell (p := ⟨w.heap.size, 1, none⟩) HC0.out.2.1 HN0.out
    have c2 := hs.cell (p := ⟨w.heap.size, 2, none⟩) HC0.out.2.2 HN0.out
    have d0 := hs.cell (p := ⟨w.heap.size + 1, 0, none⟩) HC1.out.1 HN1.out
    have d1 := hs.cell (p := ⟨w.heap.size + 1, 1, none⟩) HC1.out.2 HN1.out
    have HLj := Lib.hid hl
    have HSj := Lib.hid hs
    rcases hj with ⟨rfl, rfl⟩ | ⟨rfl, hr1, ht1⟩ | ⟨rfl, hr2, ht2⟩
    · have HA := Lib.hid (HAD.out κj wr ramj hl)
      have HT1 : Hid (addT win ramj A = 0 → ∀ κ' w', Lab w0 κ' w' gs gr gm room s r win (addL win ramj A 0) → Step κj wr κ' w' → Tried w0 W0 κ gs gr gm room s r win ramj A 1 w') := fun h0 κ' w' hl' hs' => ⟨κ', _, hl', hs.trans hs', .inr (.inl ⟨rfl, rfl, h0⟩)⟩
      have HT2 : Hid (¬ addT win ramj A = 0 → store2T win ramj A y x = addT win ramj A ∧ store2L win ramj A y x = addL win ramj A 0) := fun h0 => by
        have e : triedT win ramj A = addT win ramj A := by unfold triedT; rw [if_neg h0]
        constructor
        · unfold store2T; rw [e, if_neg h0]
        · unfold store2L; rw [e, if_neg h0]; unfold triedL; rw [if_neg h0]
      clear hl hs HAD HAD2 HST HST2
      by_cases h0 : addT win ramj A = 0
      · rw [h0] at HA
        go_wp2_with (go_at_call 104; refine HA.out.mono ?_; rintro e w1 ⟨rfl, κ1, hl1, hs1⟩; have HT := Lib.hid (HT1.out h0 κ1 w1 hl1 hs1); clear hl1 hs1)
        go_roundw
        case rel => exact ⟨1, by go_num, HT.out⟩
        case measure => simp [intOf]
      · obtain ⟨e1, e2⟩ := HT2.out h0
        have HE1 := Lib.hid e1
        have HE2 := Lib.hid e2
        clear e1 e2
        generalize addT win ramj A = T at *
        go_wp2_with (go_at_call 104; refine HA.out.mono ?_; rintro e w1 ⟨rfl, κ1, hl1, hs1⟩; have HL1 := Lib.hid hl1; have HS1 := Lib.hid ((Step.of HK0.out).trans (HSj.out.trans hs1)); clear hl1 hs1)
        go_ret
        rw [HE1.out, HE2.out]
        exact ⟨rfl, κ1, HL1.out, HS1.out⟩
    · have HA := Lib.hid (HAD2.out κj wr ramj hl)
      have HR1 := Lib.hid hr1
      have e1 : triedT win ram A = addT win ramj (nextA A) := by unfold triedT; rw [if_pos ht1, hr1]
      have e2 : triedL win ram A = addL win ramj (nextA A) 0 := by unfold triedL; rw [if_pos ht1, hr1]
      have HT1 : Hid (addT win ramj (nextA A) = 0 → ∀ κ' w', Lab w0 κ' w' gs gr gm room s r win (addL win ramj (nextA A) 0) → Step κj wr κ' w' → Tried w0 W0 κ gs gr gm room s r win ram A 2 w') := fun h0 κ' w' hl' hs' => ⟨κ', _, hl', hs.trans hs', .inr (.inr ⟨rfl, e2.symm, e1.trans h0⟩)⟩
      have HT2 : Hid (¬ addT win ramj (nextA A) = 0 → store2T win ram A y x = addT win ramj (nextA A) ∧ store2L win ram A y x = addL win ramj (nextA A) 0) := fun h0 => by
        constructor
        · unfold store2T; rw [e1, if_neg h0]
        · unfold store2L; rw [e1, if_neg h0, e2]
      clear hl hs HAD HAD2 HST HST2 e1 e2 hr1 ht1
      by_cases h0 : addT win ramj (nextA A) = 0
      · rw [h0] at HA
        go_wp2_with (go_at_call 104; refine HA.out.mono ?_; rintro e w1 ⟨rfl, κ1, hl1, hs1⟩; have HT := Lib.hid (HT1.out h0 κ1 w1 hl1 hs1); clear hl1 hs1)
        go_roundw
        case rel => exact ⟨2, by go_num, HT.out⟩
        case measure => simp [intOf]
      · obtain ⟨e1, e2⟩ := HT2.out h0
        have HE1 := Lib.hid e1
        have HE2 := Lib.hid e2
        clear e1 e2
        generalize addT win ramj (nextA A) = T at *
        go_wp2_with (go_at_call 104; refine HA.out.mono ?_; rintro e w1 ⟨rfl, κ1, hl1, hs1⟩; have HL1 := Lib.hid hl1; have HS1 := Lib.hid ((Step.of HK0.out).trans (HSj.out.trans hs1)); clear hl1 hs1)
        go_ret
        rw [HE1.out, HE2.out]
        exact ⟨rfl, κ1, HL1.out, HS1.out⟩
    · have HA := Lib.hid (HST.out κj wr ramj hl)
      have HX := Lib.hid (show store2T win ram A y x = storeT win (storeL ramj A y) (nextA A) ∧ store2L win ram A y x = storeL (storeL ramj A y) (nextA A) x from by
        constructor
        · unfold store2T; rw [if_pos ht2, hr2]
        · unfold store2L; rw [if_pos ht2, hr2])
      clear hl hs HAD HAD2 HST hr2 ht2
      generalize storeT win ramj A = T at *
      generalize storeL ramj A y = R at *
      have HNJ := Lib.hid (HSj.out.col HSZ0.out HN0.out)
      have ab := HAB.out
      go_upto_region 9 with (go_at_call 100; refine HA.out.mono ?_; rintro e w1 ⟨rfl, κ1, hl1, hs1⟩; have HL1 := Lib.hid hl1; have HS1 := Lib.hid ((Step.of HK0.out).trans (HSj.out.trans hs1)); replace c2 := hs1.cell c2 HNJ.out; have HB2 := Lib.hid (HST2.out κ1 w1 R hl1); clear hl1 hs1)
      clear HST2
      generalize storeT win R (nextA A) = T2 at *
      generalize storeL R (nextA A) x = R2 at *
      go_wp2_with (go_at_call 100; refine HB2.out.mono ?_; rintro e w3 ⟨rfl, κ3, hl3, hs3⟩; have HL3 := Lib.hid hl3; have HS3 := Lib.hid (HS1.out.trans hs3); clear hl3 hs3)
      go_ret
      rw [HX.out.1, HX.out.2]
      exact ⟨rfl, κ3, HL3.out, HS3.out⟩
end
end Go.Proofs.YtfnjjanknfmibaaGreat
