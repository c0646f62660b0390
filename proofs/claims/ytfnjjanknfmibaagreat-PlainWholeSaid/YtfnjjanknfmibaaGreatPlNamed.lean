/-
  Plain primitives: some done one behind the other, by their names.
-/
import Derived.Test.YtfnjjanknfmibaaGreatPlWorld
namespace Go.Proofs.YtfnjjanknfmibaaGreat
open Go.RowKit
set_option linter.unusedVariables false

/-- Some primitives, till one throws. -/
def namedM (room : Int) (win : List UInt8) : List Nat → PSt → Int × PSt
  | [], x => (0, x)
  | i :: l, x => if (doP room win i x).1 = 0 then namedM room win l (doP room win i x).2 else doP room win i x

set_option maxRecDepth 100000 in
theorem named73 (i : Nat) (h : i < 73) : namedP (primI i).name = some (primI i) := by
  have h0 : (List.range 73).all (fun i => (namedP (primI i).name).map (·.num) == some (i + 1)) = true := by kernel_rfl
  have h1 := List.all_eq_true.1 h0 i (List.mem_range.2 h)
  cases hq : namedP (primI i).name with
  | none => rw [hq] at h1; cases h1
  | some p =>
    rw [hq] at h1
    have hn : p.num = i + 1 := by simpa using h1
    unfold namedP at hq
    have h2 := List.mem_of_find?_eq_some hq
    obtain ⟨j, hj⟩ := List.mem_iff_getElem?.1 h2
    have hl := (List.getElem?_eq_some_iff.1 hj).1
    rw [tabL_length] at hl
    rw [primI_get hl] at hj
    injection hj with hj
    subst hj
    have hg := getP_at hl
    rw [hn, get73 i h] at hg
    exact hg.symm

/-- The world of both stacks and memory, laid in a variable. -/
structure NamedRel (w0 W0 : World) (κ : Nat → Nat) (gs gr gm : Nat) (room : Int) (win : List UInt8) (is : List Nat) (x : PSt) (j : Nat) (wr : World) : Prop where
  ex : ∃ κj y, Lab w0 κj wr gs gr gm room y.s y.r win y.ram ∧ Step κ W0 κj wr ∧ namedM room win is x = namedM room win (is.drop j) y

section
variable {w0 w : World} {κ : Nat → Nat} {gs gr gm : Nat} {room : Int} {s r : List (BitVec 32)} {win ram : List UInt8}

set_option maxRecDepth 100000 in
set_option maxHeartbeats 2000000 in
theorem Named_12 (h : Lab w0 κ w gs gr gm room s r win ram) (Nb n cap : Nat) (is : List Nat) (hn : is.length = n) (hn1 : n ≤ 100) (hb : κ Nb = 0) (h73 : ∀ (j i : Nat), is[j]? = some i → i < 73)
    (hc : ∀ (j i : Nat), is[j]? = some i → w.cell? ⟨Nb, j, none⟩ = some (str (primI i).name)) :
    Calls Tryz.prog 40 #[.agg #[.pointer (some ⟨gs, 0, none⟩), .pointer (some ⟨gr, 0, none⟩), .pointer (some ⟨gm, 0, none⟩)], .slice (some ⟨Nb, 0, none⟩) n cap] w fun e w' =>
      ∃ κ', e = .returned (.int .i32 (namedM room win is ⟨s, r, ram⟩).1) ∧ Lab w0 κ' w' gs gr gm room (namedM room win is ⟨s, r, ram⟩).2.s (namedM room win is ⟨s, r, ram⟩).2.r win (namedM room win is ⟨s, r, ram⟩).2.ram ∧ Step κ w κ' w' := by
  have HNA := Lib.hid (fun W i (hi : i < 73) => Named_any W (primI i).name)
  have HN0 := Lib.hid (h.newer (x := w.heap.size) (Nat.le_refl _))
  have HL := Lib.hid h
  have H73 := Lib.hid h73
  have HC := Lib.hid hc
  have HNN := Lib.hid hn
  have HBB := Lib.hid hb
  have HV := Lib.hid (cell_alloc_new w #[.pointer (some ⟨gs, 0, none⟩), .pointer (some ⟨gr, 0, none⟩), .pointer (some ⟨gm, 0, none⟩)] 28)
  have HK := Lib.hid (Keeps.alloc [] w (.cells #[.pointer (some ⟨gs, 0, none⟩), .pointer (some ⟨gr, 0, none⟩), .pointer (some ⟨gm, 0, none⟩)] 28))
  clear h hc h73 hn hb
  go_enter Tryz.func40, Tryz.ntmps40
  go_wp2
  generalize w.alloc (.cells #[.pointer (some ⟨gs, 0, none⟩), .pointer (some ⟨gr, 0, none⟩), .pointer (some ⟨gm, 0, none⟩)] 28) = V at *
  go_loopw [12] (fun i wr => ∃ j : Nat, j ≤ n ∧ i = .int .i64 (j : Int) ∧ NamedRel w0 V κ gs gr gm room win is ⟨s, r, ram⟩ j wr) (fun i _ => n - (intOf i).toNat)
  case atStart => exact ⟨0, by omega, rfl, ⟨κ, ⟨s, r, ram⟩, HL.out.next HK.out, Step.of (Keeps.refl _ _), rfl⟩⟩
  case round =>
    obtain ⟨j, hj, rfl, ⟨κj, y, hl, hs, hm⟩⟩ := hrel
    by_cases hlt : j < n
    · have hji : (j : Int) < n := by omega
      obtain ⟨i, hi⟩ : ∃ i, is[j]? = some i := ⟨_, List.getElem?_eq_getElem (by rw [HNN.out]; exact hlt)⟩
      have hi73 := H73.out j i hi
      have b0 : wr.cell? ⟨w.heap.size, 0, none⟩ = some (.pointer (some ⟨gs, 0, none⟩)) := hs.cell (HV.out 0) HN0.out
      have b1 : wr.cell? ⟨w.heap.size, 1, none⟩ = some (.pointer (some ⟨gr, 0, none⟩)) := hs.cell (HV.out 1) HN0.out
      have b2 : wr.cell? ⟨w.heap.size, 2, none⟩ = some (.pointer (some ⟨gm, 0, none⟩)) := hs.cell (HV.out 2) HN0.out
      have cj := hs.cell (HK.out.cell (HC.out j i hi) (by simp)) HBB.out
      have hd : is.drop j = i :: is.drop (j + 1) := by
        rw [List.drop_eq_getElem_cons (by rw [HNN.out]; exact hlt)]
        congr 1
        exact (List.getElem?_eq_some_iff.1 hi).2
      have HND := Lib.hid (fun W => HNA.out W i hi73)
      rw [named73 i hi73] at HND
      simp only [pOf, Option.getD_some, Option.isSome_some] at HND
      rw [pmv_lit] at HND
      have HDO := Lib.hid (fun W (hk : Keeps [] wr W) => (Do_prim (hl.next hk) i hi73 (primI i).num (prim73 i hi73).1).mono (fun e w7 (hh : ∃ κ', _ ∧ _ ∧ _) => (⟨hh.choose, hh.choose_spec.1, hh.choose_spec.2.1, (hs.trans (Step.of hk)).trans hh.choose_spec.2.2⟩ : ∃ κ', e = .returned (.int .i32 (doP room win i y).1) ∧ Lab w0 κ' w7 gs gr gm room (doP room win i y).2.s (doP room win i y).2.r win (doP room win i y).2.ram ∧ Step κ V κ' w7)))
      have HM := Lib.hid (show namedM room win is ⟨s, r, ram⟩ = if (doP room win i y).1 = 0 then namedM room win (is.drop (j + 1)) (doP room win i y).2 else doP room win i y from by rw [hm, hd]; rfl)
      have HB := Lib.hid (fun U W (hk : Keeps [] (U.alloc (.cells #[.int .u32 ((primI i).num : Int), .string ⟨(primI i).name.toArray⟩, .int .i64 ((primI i).takes : Int), .int .i64 ((primI i).gives : Int), .int .i64 ((primI i).ops : Int), .bool (primI i).text, .bool (primI i).jump] 40)) W) => Whole.keeps (Whole.new U 40 [.int .u32 ((primI i).num : Int), .string ⟨(primI i).name.toArray⟩, .int .i64 ((primI i).takes : Int), .int .i64 ((primI i).gives : Int), .int .i64 ((primI i).ops : Int), .bool (primI i).text, .bool (primI i).jump]) hk (by simp))
      have HA3 := Lib.hid (fun W (hk : Keeps [] wr W) => And.intro ((Keeps.alloc [] W (.cells #[.int .u32 ((primI i).num : Int), .string ⟨(primI i).name.toArray⟩, .int .i64 ((primI i).takes : Int), .int .i64 ((primI i).gives : Int), .int .i64 ((primI i).ops : Int), .bool (primI i).text, .bool (primI i).jump] 40)).cell (hk.cell b0 (by simp)) (by simp)) (And.intro ((Keeps.alloc [] W (.cells #[.int .u32 ((primI i).num : Int), .string ⟨(primI i).name.toArray⟩, .int .i64 ((primI i).takes : Int), .int .i64 ((primI i).gives : Int), .int .i64 ((primI i).ops : Int), .bool (primI i).text, .bool (primI i).jump] 40)).cell (hk.cell b1 (by simp)) (by simp)) ((Keeps.alloc [] W (.cells #[.int .u32 ((primI i).num : Int), .string ⟨(primI i).name.toArray⟩, .int .i64 ((primI i).takes : Int), .int .i64 ((primI i).gives : Int), .int .i64 ((primI i).ops : Int), .bool (primI i).text, .bool (primI i).jump] 40)).cell (hk.cell b2 (by simp)) (by simp))))
      unfold str at cj HND
      clear hl hs hm hd hi HNA
      generalize doP room win i y = Y at *
      generalize primI i = p at *
      generalize (p.num : Int) = a1 at *
      generalize ByteArray.mk p.name.toArray = st at *
      generalize (p.takes : Int) = t at *
      generalize (p.gives : Int) = g at *
      generalize (p.ops : Int) = o at *
      generalize p.text = tx at *
      generalize p.jump = jp at *
      by_cases h0 : Y.1 = 0
      · rw [h0] at HDO
        go_wp2_with (first
          | (go_at_call 112; refine (HND.out _).mono ?_; rintro e w1 ⟨rfl, hk1⟩; have HK1 := Lib.hid hk1; obtain ⟨b0, b1, b2⟩ := HA3.out w1 hk1; have p0 := ((HB.out w1 _ (Keeps.refl _ _)).prim).1; clear hk1)
          | (go_at_call 8; refine (HDO.out _ (HK1.out.trans (Keeps.alloc [] _ _))).mono ?_; rintro e w2 ⟨κ2, rfl, hl2, hs2⟩; have HL2 := Lib.hid hl2; have HS2 := Lib.hid hs2; clear hl2 hs2))
        go_roundw
        case rel => exact ⟨j + 1, by omega, by go_num, ⟨κ2, Y.2, HL2.out, HS2.out, by rw [HM.out, if_pos h0]⟩⟩
        case measure => simp [intOf]; omega
      · have HM0 := Lib.hid (HM.out.trans (if_neg h0))
        clear HM
        generalize hy1 : Y.1 = T at *
        go_wp2_with (first
          | (go_at_call 112; refine (HND.out _).mono ?_; rintro e w1 ⟨rfl, hk1⟩; have HK1 := Lib.hid hk1; obtain ⟨b0, b1, b2⟩ := HA3.out w1 hk1; have p0 := ((HB.out w1 _ (Keeps.refl _ _)).prim).1; clear hk1)
          | (go_at_call 8; refine (HDO.out _ (HK1.out.trans (Keeps.alloc [] _ _))).mono ?_; rintro e w2 ⟨κ2, rfl, hl2, hs2⟩; have HL2 := Lib.hid hl2; have HS2 := Lib.hid hs2; clear hl2 hs2))
        go_ret
        rw [HM0.out, hy1]
        exact ⟨κ2, rfl, HL2.out, (Step.of HK.out).trans HS2.out⟩
    · obtain rfl : j = n := by omega
      have HLy := Lib.hid hl
      have HSy := Lib.hid hs
      have HM0 := Lib.hid (show namedM room win is ⟨s, r, ram⟩ = (0, y) from by rw [hm, List.drop_eq_nil_of_le (by rw [HNN.out]; exact Nat.le_refl _)]; rfl)
      clear hl hs hm
      go_wp2
      go_ret
      rw [HM0.out]
      exact ⟨κj, rfl, HLy.out, (Step.of HK.out).trans HSy.out⟩
end
end Go.Proofs.YtfnjjanknfmibaaGreat
