/-
  PlainWhole: what each primitive does to the numbers of cells. Written by draft/genpl15.py.
-/
import Derived.Test.YtfnjjanknfmibaaGreatPlWhM
namespace Go.Proofs.YtfnjjanknfmibaaGreat
open Go.RowKit
set_option linter.unusedVariables false

def rMove (i : Nat) : Int := if i = 70 then 1 else if i = 71 then -1 else 0
/-- Thrown, nothing is another one; not thrown, so many cells are given, and the stacks are as long as is said. -/
def FineY (i : Nat) (x : PSt) (y : List (BitVec 32) × Int × PSt) : Prop :=
  (y.2.1 ≠ 0 → y.2.2 = x) ∧ (y.2.1 = 0 → y.2.2.s.length = x.s.length ∧ y.1.length = gN i x.s ∧ (y.2.2.r.length : Int) = x.r.length + rMove i)
def Fine (i : Nat) : Prop := ∀ (room : Int) (win : List UInt8) (x : PSt), win.length ≤ 65536 → (primI i).takes ≤ x.s.length → FineY i x (effM i room win (x.s.drop (x.s.length - (primI i).takes)) x)

theorem fine_same {i : Nat} {x : PSt} {g : List (BitVec 32)} {t : Int} (hg : t = 0 → g.length = gN i x.s) (hr : rMove i = 0) : FineY i x (g, t, x) :=
  ⟨fun _ => rfl, fun h => ⟨rfl, hg h, by rw [hr]; show (x.r.length : Int) = _; omega⟩⟩
theorem fine_pure (i G : Nat) (f : List (BitVec 32) → List (BitVec 32) × Int) (he : effM i = pureE f) (hl : ∀ c, (f c).1.length = G) (hg : ∀ s, gN i s = G) (hr : rMove i = 0) : Fine i := by
  intro room win x _ _
  rw [he]
  exact fine_same (t := (f _).2) (fun _ => (hl _).trans (hg _).symm) hr
theorem fine_write {i : Nat} {x : PSt} {t : Int} {ram' : List UInt8} (hm : t ≠ 0 → ram' = x.ram) (hg : ∀ s, gN i s = 0) (hr : rMove i = 0) : FineY i x ([], t, ⟨x.s, x.r, ram'⟩) :=
  ⟨fun h => by show PSt.mk x.s x.r ram' = x; rw [hm h], fun h => ⟨rfl, (hg _).symm, by rw [hr]; show (x.r.length : Int) = _; omega⟩⟩

theorem storeT_len {win r1 r2 : List UInt8} {A : Nat} (h : r1.length = r2.length) : storeT win r1 A = storeT win r2 A := by
  unfold storeT pT inAt
  rw [h]
theorem storeL_len (ram : List UInt8) (A x : Nat) : (storeL ram A x).length = ram.length := by
  unfold storeL
  split
  · unfold pL
    split
    · next h => exact putAt_length _ _ _ (by unfold inAt at h; omega)
    · rfl
  · rfl
theorem store2_thr {win ram : List UInt8} {A y x : Nat} (hw : win.length ≤ 65536) (h : store2T win ram A y x ≠ 0) : store2L win ram A y x = ram := by
  unfold store2T at h
  unfold store2L
  by_cases h1 : triedT win ram A = 0
  · rw [if_pos h1] at h
    rw [triedL_same hw, storeT_len (storeL_len ram A y)] at h
    unfold triedT at h1
    split at h1
    · rw [addL_same hw] at h1
      unfold addT at h1
      split at h1
      · exact absurd h1 h
      · next h2 => exact absurd h1 h2
    · next h2 => exact absurd h1 h2
  · rw [if_neg h1]
    exact triedL_same hw
theorem rollL_len (s : List (BitVec 32)) (i : Int) : (rollL s i).length = s.length := by
  unfold rollL
  split
  · simp; omega
  · rfl
theorem roll_fine (x : PSt) (i : Int) (hi : 1 ≤ i) : FineY 14 x ([], rollT x.s i, ⟨rollS x.s i, x.r, x.ram⟩) := by
  unfold rollT rollS
  by_cases h0 : peekT x.s i (-4) = 0
  · rw [if_pos h0, if_pos h0]
    have hin : 0 ≤ i ∧ i < x.s.length := by
      unfold peekT at h0
      split at h0
      · assumption
      · simp at h0
    have h1 : peekT (rollL x.s i) 1 (-4) = 0 := by unfold peekT; rw [rollL_len, if_pos (by omega)]
    refine ⟨fun h => absurd h1 h, fun _ => ⟨?_, rfl, ?_⟩⟩
    · show (rollL (rollL x.s i) 1).length = _
      rw [rollL_len, rollL_len]
    · show (x.r.length : Int) = x.r.length + rMove 14
      rw [show rMove 14 = 0 from rfl]; omega
  · rw [if_neg h0, if_neg h0]
    refine ⟨fun _ => ?_, fun h => absurd h h0⟩
    show PSt.mk (rollL x.s i) x.r x.ram = x
    have : rollL x.s i = x.s := by
      unfold rollL
      rw [if_neg (fun hh => h0 (by unfold peekT; rw [if_pos hh]))]
    rw [this]
theorem fine_0 : Fine 0 := fine_pure 0 2 _ rfl (fun c => rfl) (fun s => by kernel_rfl) rfl
theorem fine_1 : Fine 1 := fine_pure 1 0 _ rfl (fun c => rfl) (fun s => by kernel_rfl) rfl
theorem fine_2 : Fine 2 := fine_pure 2 2 _ rfl (fun c => rfl) (fun s => by kernel_rfl) rfl
theorem fine_3 : Fine 3 := fine_pure 3 3 _ rfl (fun c => rfl) (fun s => by kernel_rfl) rfl
theorem fine_4 : Fine 4 := fine_pure 4 3 _ rfl (fun c => rfl) (fun s => by kernel_rfl) rfl
theorem fine_6 : Fine 6 := fine_pure 6 1 _ rfl (fun c => rfl) (fun s => by kernel_rfl) rfl
theorem fine_7 : Fine 7 := fine_pure 7 3 _ rfl (fun c => rfl) (fun s => by kernel_rfl) rfl
theorem fine_8 : Fine 8 := fine_pure 8 4 _ rfl (fun c => rfl) (fun s => by kernel_rfl) rfl
theorem fine_9 : Fine 9 := fine_pure 9 0 _ rfl (fun c => rfl) (fun s => by kernel_rfl) rfl
theorem fine_10 : Fine 10 := fine_pure 10 4 _ rfl (fun c => rfl) (fun s => by kernel_rfl) rfl
theorem fine_11 : Fine 11 := fine_pure 11 6 _ rfl (fun c => rfl) (fun s => by kernel_rfl) rfl
theorem fine_15 : Fine 15 := fine_pure 15 1 _ rfl (fun c => rfl) (fun s => by kernel_rfl) rfl
theorem fine_16 : Fine 16 := fine_pure 16 1 _ rfl (fun c => rfl) (fun s => by kernel_rfl) rfl
theorem fine_17 : Fine 17 := fine_pure 17 1 _ rfl (fun c => rfl) (fun s => by kernel_rfl) rfl
theorem fine_18 : Fine 18 := fine_pure 18 1 _ rfl (fun c => rfl) (fun s => by kernel_rfl) rfl
theorem fine_19 : Fine 19 := fine_pure 19 1 _ rfl (fun c => rfl) (fun s => by kernel_rfl) rfl
theorem fine_20 : Fine 20 := fine_pure 20 2 _ rfl (fun c => rfl) (fun s => by kernel_rfl) rfl
theorem fine_21 : Fine 21 := fine_pure 21 1 _ rfl (fun c => rfl) (fun s => by kernel_rfl) rfl
theorem fine_22 : Fine 22 := fine_pure 22 2 _ rfl (fun c => rfl) (fun s => by kernel_rfl) rfl
theorem fine_23 : Fine 23 := fine_pure 23 1 _ rfl (fun c => rfl) (fun s => by kernel_rfl) rfl
theorem fine_24 : Fine 24 := fine_pure 24 1 _ rfl (fun c => rfl) (fun s => by kernel_rfl) rfl
theorem fine_25 : Fine 25 := fine_pure 25 1 _ rfl (fun c => rfl) (fun s => by kernel_rfl) rfl
theorem fine_26 : Fine 26 := fine_pure 26 1 _ rfl (fun c => rfl) (fun s => by kernel_rfl) rfl
theorem fine_27 : Fine 27 := fine_pure 27 1 _ rfl (fun c => rfl) (fun s => by kernel_rfl) rfl
theorem fine_28 : Fine 28 := fine_pure 28 1 _ rfl (fun c => rfl) (fun s => by kernel_rfl) rfl
theorem fine_29 : Fine 29 := fine_pure 29 1 _ rfl (fun c => rfl) (fun s => by kernel_rfl) rfl
theorem fine_30 : Fine 30 := fine_pure 30 1 _ rfl (fun c => rfl) (fun s => by kernel_rfl) rfl
theorem fine_31 : Fine 31 := fine_pure 31 2 _ rfl (fun c => rfl) (fun s => by kernel_rfl) rfl
theorem fine_32 : Fine 32 := fine_pure 32 2 _ rfl (fun c => rfl) (fun s => by kernel_rfl) rfl
theorem fine_33 : Fine 33 := fine_pure 33 2 _ rfl (fun c => rfl) (fun s => by kernel_rfl) rfl
theorem fine_34 : Fine 34 := fine_pure 34 2 _ rfl (fun c => rfl) (fun s => by kernel_rfl) rfl
theorem fine_35 : Fine 35 := fine_pure 35 2 _ rfl (fun c => rfl) (fun s => by kernel_rfl) rfl
theorem fine_36 : Fine 36 := fine_pure 36 2 _ rfl (fun c => rfl) (fun s => by kernel_rfl) rfl
theorem fine_37 : Fine 37 := fine_pure 37 2 _ rfl (fun c => rfl) (fun s => by kernel_rfl) rfl
theorem fine_38 : Fine 38 := fine_pure 38 2 _ rfl (fun c => rfl) (fun s => by kernel_rfl) rfl
theorem fine_39 : Fine 39 := fine_pure 39 1 _ rfl (fun c => rfl) (fun s => by kernel_rfl) rfl
theorem fine_40 : Fine 40 := fine_pure 40 1 _ rfl (fun c => rfl) (fun s => by kernel_rfl) rfl
theorem fine_41 : Fine 41 := fine_pure 41 1 _ rfl (fun c => rfl) (fun s => by kernel_rfl) rfl
theorem fine_42 : Fine 42 := fine_pure 42 1 _ rfl (fun c => rfl) (fun s => by kernel_rfl) rfl
theorem fine_43 : Fine 43 := fine_pure 43 1 _ rfl (fun c => rfl) (fun s => by kernel_rfl) rfl
theorem fine_44 : Fine 44 := fine_pure 44 1 _ rfl (fun c => rfl) (fun s => by kernel_rfl) rfl
theorem fine_45 : Fine 45 := fine_pure 45 1 _ rfl (fun c => rfl) (fun s => by kernel_rfl) rfl
theorem fine_46 : Fine 46 := fine_pure 46 1 _ rfl (fun c => rfl) (fun s => by kernel_rfl) rfl
theorem fine_47 : Fine 47 := fine_pure 47 1 _ rfl (fun c => rfl) (fun s => by kernel_rfl) rfl
theorem fine_48 : Fine 48 := fine_pure 48 1 _ rfl (fun c => rfl) (fun s => by kernel_rfl) rfl
theorem fine_49 : Fine 49 := fine_pure 49 1 _ rfl (fun c => rfl) (fun s => by kernel_rfl) rfl
theorem fine_50 : Fine 50 := fine_pure 50 1 _ rfl (fun c => rfl) (fun s => by kernel_rfl) rfl
theorem fine_51 : Fine 51 := fine_pure 51 1 _ rfl (fun c => rfl) (fun s => by kernel_rfl) rfl
theorem fine_52 : Fine 52 := fine_pure 52 1 _ rfl (fun c => rfl) (fun s => by kernel_rfl) rfl
theorem fine_53 : Fine 53 := fine_pure 53 1 _ rfl (fun c => rfl) (fun s => by kernel_rfl) rfl
theorem fine_54 : Fine 54 := fine_pure 54 1 _ rfl (fun c => rfl) (fun s => by kernel_rfl) rfl
theorem fine_64 : Fine 64 := fine_pure 64 1 _ rfl (fun c => rfl) (fun s => by kernel_rfl) rfl
theorem fine_65 : Fine 65 := fine_pure 65 1 _ rfl (fun c => rfl) (fun s => by kernel_rfl) rfl
theorem fine_66 : Fine 66 := fine_pure 66 1 _ rfl (fun c => rfl) (fun s => by kernel_rfl) rfl
theorem fine_67 : Fine 67 := fine_pure 67 1 _ rfl (fun c => rfl) (fun s => by kernel_rfl) rfl
theorem fine_68 : Fine 68 := fine_pure 68 1 _ rfl (fun c => rfl) (fun s => by kernel_rfl) rfl
theorem fine_5 : Fine 5 := by
  intro room win x hw ht
  refine fine_same (fun _ => ?_) rfl
  have hc : (x.s.drop (x.s.length - (primI 5).takes)).getD 0 0#32 = peekX x.s 0 := by
    have ht' : (1 : Nat) ≤ x.s.length := ht
    show (x.s.drop (x.s.length - 1)).getD 0 0#32 = _
    unfold peekX
    rw [if_pos (by omega), List.getD_eq_getElem?_getD, List.getElem?_drop, List.getD_eq_getElem?_getD]
    simp
  show (if (x.s.drop (x.s.length - (primI 5).takes)).getD 0 0#32 = 0#32 then [_] else [_, _]).length = gN 5 x.s
  rw [hc]
  show _ = (if peekX x.s 0 = 0#32 then 1 else 2)
  split <;> rfl
theorem fine_12 : Fine 12 := by
  intro room win x hw ht
  exact fine_same (fun _ => by kernel_rfl) rfl
theorem fine_13 : Fine 13 := by
  intro room win x hw ht
  exact fine_same (fun _ => by kernel_rfl) rfl
theorem fine_14 : Fine 14 := by
  intro room win x hw ht
  exact roll_fine x _ (belowI_bounds _).1
theorem fine_55 : Fine 55 := by
  intro room win x hw ht
  exact fine_same (fun _ => by kernel_rfl) rfl
theorem fine_56 : Fine 56 := by
  intro room win x hw ht
  exact fine_write (fun h => storeL_thr h) (fun s => by kernel_rfl) rfl
theorem fine_57 : Fine 57 := by
  intro room win x hw ht
  exact fine_same (fun _ => by kernel_rfl) rfl
theorem fine_58 : Fine 58 := by
  intro room win x hw ht
  exact fine_write (fun h => pL_thr (win := win) (bs := [_]) h) (fun s => by kernel_rfl) rfl
theorem fine_59 : Fine 59 := by
  intro room win x hw ht
  exact fine_write (fun h => addL_thr h) (fun s => by kernel_rfl) rfl
theorem fine_60 : Fine 60 := by
  intro room win x hw ht
  refine fine_same (fun h => ?_) rfl
  have h' : (if loadT win x.ram ((x.s.drop (x.s.length - (primI 60).takes)).getD 0 0#32).toNat = 0 then loadT win x.ram (nextA ((x.s.drop (x.s.length - (primI 60).takes)).getD 0 0#32).toNat) else loadT win x.ram ((x.s.drop (x.s.length - (primI 60).takes)).getD 0 0#32).toNat) = 0 := h
  have h1 : loadT win x.ram ((x.s.drop (x.s.length - (primI 60).takes)).getD 0 0#32).toNat = 0 := by
    split at h'
    · assumption
    · exact h'
  show (if loadT win x.ram ((x.s.drop (x.s.length - (primI 60).takes)).getD 0 0#32).toNat = 0 then [_, _] else []).length = _
  rw [if_pos h1]; kernel_rfl
theorem fine_61 : Fine 61 := by
  intro room win x hw ht
  exact fine_write (fun h => store2_thr hw h) (fun s => by kernel_rfl) rfl
theorem fine_62 : Fine 62 := by
  intro room win x hw ht
  exact fine_write (fun h => moveL_thr h) (fun s => by kernel_rfl) rfl
theorem fine_63 : Fine 63 := by
  intro room win x hw ht
  exact fine_write (fun h => pL_thr (win := win) (by rw [List.length_replicate]; exact h)) (fun s => by kernel_rfl) rfl
theorem fine_69 : Fine 69 := by
  intro room win x hw ht
  exact fine_same (fun _ => by kernel_rfl) rfl
theorem fine_70 : Fine 70 := by
  intro room win x hw ht
  refine ⟨fun h => ?_, fun h => ⟨rfl, by kernel_rfl, ?_⟩⟩
  · show PSt.mk x.s (pushL room x.r [_]) x.ram = x
    have h' : pushT room (-5) x.r [(x.s.drop (x.s.length - (primI 70).takes)).getD 0 0#32] ≠ 0 := h
    unfold pushT at h'
    unfold pushL
    split
    · next h1 => rw [if_pos h1] at h'; exact absurd rfl h'
    · rfl
  · have h' : pushT room (-5) x.r [(x.s.drop (x.s.length - (primI 70).takes)).getD 0 0#32] = 0 := h
    show ((pushL room x.r [(x.s.drop (x.s.length - (primI 70).takes)).getD 0 0#32]).length : Int) = _
    unfold pushT at h'
    unfold pushL
    split
    · rw [List.length_append, show rMove 70 = 1 from rfl]; simp
    · next h1 => rw [if_neg h1] at h'; simp at h'
theorem fine_71 : Fine 71 := by
  intro room win x hw ht
  refine ⟨fun h => ?_, fun h => ⟨rfl, by kernel_rfl, ?_⟩⟩
  · show PSt.mk x.s (x.r.take (x.r.length - 1)) x.ram = x
    have h' : peekT x.r 0 (-6) ≠ 0 := h
    have h0 : x.r = [] := by
      unfold peekT at h'
      split at h'
      · exact absurd rfl h'
      · exact List.eq_nil_of_length_eq_zero (by omega)
    rw [h0]
    show PSt.mk x.s [] x.ram = x
    rw [← h0]
  · have h' : peekT x.r 0 (-6) = 0 := h
    show ((x.r.take (x.r.length - 1)).length : Int) = _
    unfold peekT at h'
    split at h'
    · rw [show rMove 71 = -1 from rfl]; simp; omega
    · simp at h'
theorem fine_72 : Fine 72 := by
  intro room win x hw ht
  exact fine_same (fun _ => by kernel_rfl) rfl
set_option maxRecDepth 100000 in
theorem fine_any : ∀ i, i < 73 → Fine i := by
  refine all_succ (all_succ (all_succ (all_succ (all_succ (all_succ (all_succ (all_succ (all_succ (all_succ (all_succ (all_succ (all_succ (all_succ (all_succ (all_succ (all_succ (all_succ (all_succ (all_succ (all_succ (all_succ (all_succ (all_succ (all_succ (all_succ (all_succ (all_succ (all_succ (all_succ (all_succ (all_succ (all_succ (all_succ (all_succ (all_succ (all_succ (all_succ (all_succ (all_succ (all_succ (all_succ (all_succ (all_succ (all_succ (all_succ (all_succ (all_succ (all_succ (all_succ (all_succ (all_succ (all_succ (all_succ (all_succ (all_succ (all_succ (all_succ (all_succ (all_succ (all_succ (all_succ (all_succ (all_succ (all_succ (all_succ (all_succ (all_succ (all_succ (all_succ (all_succ (all_succ (all_succ (fun i hi => absurd hi (by omega)) fine_0) fine_1) fine_2) fine_3) fine_4) fine_5) fine_6) fine_7) fine_8) fine_9) fine_10) fine_11) fine_12) fine_13) fine_14) fine_15) fine_16) fine_17) fine_18) fine_19) fine_20) fine_21) fine_22) fine_23) fine_24) fine_25) fine_26) fine_27) fine_28) fine_29) fine_30) fine_31) fine_32) fine_33) fine_34) fine_35) fine_36) fine_37) fine_38) fine_39) fine_40) fine_41) fine_42) fine_43) fine_44) fine_45) fine_46) fine_47) fine_48) fine_49) fine_50) fine_51) fine_52) fine_53) fine_54) fine_55) fine_56) fine_57) fine_58) fine_59) fine_60) fine_61) fine_62) fine_63) fine_64) fine_65) fine_66) fine_67) fine_68) fine_69) fine_70) fine_71) fine_72
end Go.Proofs.YtfnjjanknfmibaaGreat
