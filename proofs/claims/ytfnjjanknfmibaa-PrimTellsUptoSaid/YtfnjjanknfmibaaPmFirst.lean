/-
  Code: how long the instruction is with which it begins.
-/
import Derived.Test.YtfnjjanknfmibaaPmGet
import Derived.Test.YtfnjjanknfmibaaPmMath
namespace Go.Proofs.Ytfnjjanknfmibaa
open Go.RowKit Go.Deep
set_option linter.unusedVariables false

theorem cellsOf_any (w : World) (n : Nat) (hn : n ≤ 1000) : Calls Try.prog 65 #[.int .i64 (n : Int)] w fun e w' => e = .returned (.int .i64 (((n + 3) / 4 : Nat) : Int)) ∧ w = w' := by
  have e1 : ((n : Int) + 3).tdiv 4 = (((n + 3) / 4 : Nat) : Int) := by
    rw [Int.tdiv_eq_ediv_of_nonneg (by omega)]; omega
  have e2 : IntKind.i64.wrap ((n : Int) + 3) = (n : Int) + 3 := IntWalk.i64_in _ (by omega)
  have e3 : IntKind.i64.wrap (((n + 3) / 4 : Nat) : Int) = (((n + 3) / 4 : Nat) : Int) := IntWalk.i64_in _ (by omega)
  generalize ((n + 3) / 4 : Nat) = q at *
  go_enter Try.func65, Try.ntmps65
  go_wp2
  go_ret
  exact ⟨rfl, rfl⟩

/-- Code that a slice reads as, of at least one cell, as the walks take it. -/
theorem UReads.head1 {w : World} {v : Value} {c : List (BitVec 32)} {M off : Nat} (h : UReads w v c M off) (hne : c ≠ []) :
    ∃ cap, v = .slice (some ⟨M, off, none⟩) c.length cap ∧ c.length ≤ cap ∧ w.cell? ⟨M, off, none⟩ = some (.int .u32 (cellN c 0 : Int)) ∧ ∀ i, i < c.length → w.cell? ⟨M, off + i, none⟩ = some (.int .u32 (cellN c i : Int)) := by
  obtain ⟨cap, hv, hc, hcell⟩ := h.cells hne
  have hall : ∀ i, i < c.length → w.cell? ⟨M, off + i, none⟩ = some (.int .u32 (cellN c i : Int)) := by
    intro i hi
    rw [hcell i c[i] (List.getElem?_eq_getElem hi)]
    unfold cellN
    rw [List.getD_eq_getElem?_getD, List.getElem?_eq_getElem hi]; rfl
  exact ⟨cap, hv, hc, hall 0 (List.length_pos_iff.2 hne), hall⟩

theorem cellN_cons (x : BitVec 32) (r : List (BitVec 32)) : cellN (x :: r) 0 = x.toNat ∧ cellN (x :: r) 1 = (r.getD 0 0).toNat := ⟨rfl, rfl⟩

/-- How long, by the cells' numbers. -/
theorem longC_nums {c : List (BitVec 32)} (hne : c ≠ []) : longC c =
    if 256 ≤ cellN c 0 then 1
    else match getP (cellN c 0) with
      | none => 0
      | some p =>
        if c.length < 1 + p.ops then 0
        else if p.text then
          (if 1000 < cellN c 1 then 0 else if c.length < 1 + p.ops + (cellN c 1 + 3) / 4 then 0 else 1 + p.ops + (cellN c 1 + 3) / 4)
        else 1 + p.ops := by
  cases c with
  | nil => exact absurd rfl hne
  | cons x r => rfl

set_option maxRecDepth 100000 in
set_option maxHeartbeats 2000000 in
theorem tabFirst_any (w : World) (b : Nat) (hb : TabAt w b) (v : Value) (c : List (BitVec 32)) (M off : Nat) (h : UReads w v c M off) (hne : c ≠ []) (hm : c.length ≤ maxLen) :
    Calls Try.prog 36 #[.pointer (some ⟨b, 0, none⟩), v] w fun e w' => e = .returned (.int .i64 (longC c : Int)) ∧ Keeps [] w w' := by
  rw [longC_nums hne]
  obtain ⟨cap, rfl, hcap, hc0, hcs⟩ := h.head1 hne
  have hn1 : 1 ≤ c.length := List.length_pos_iff.2 hne
  have HG := Lib.hid (tabGet_any w b (cellN c 0) hb)
  have hc1 : 2 ≤ c.length → w.cell? ⟨M, off + 1, none⟩ = some (.int .u32 (cellN c 1 : Int)) := fun h => hcs 1 (by omega)
  have HC1 := Lib.hid hc1
  clear hb h hne hcs hc1
  unfold maxLen at hm
  generalize hn : c.length = n at *
  clear hn
  generalize cellN c 0 = X at *
  generalize cellN c 1 = Y at *
  have hn1' : (1 : Int) ≤ (n : Int) := by omega
  by_cases hX : 256 ≤ X
  · rw [if_pos hX]
    have hX' : (256 : Int) ≤ (X : Int) := by omega
    go_enter Try.func36, Try.ntmps36
    go_wp2
    go_ret
    exact ⟨rfl, Keeps.refl _ _⟩
  · rw [if_neg hX]
    have hX' : ¬ (256 : Int) ≤ (X : Int) := by omega
    cases hp : getP X with
    | none =>
      rw [hp] at HG
      dsimp only [pOf, Option.getD_none, Option.isSome_none] at HG ⊢
      rw [pmv_lit] at HG
      clear hp
      go_enter Try.func36, Try.ntmps36
      go_wp2_with (refine HG.out.mono ?_; rintro e w3 ⟨rfl, hk3⟩; have HK3 := Lib.hid hk3; clear hk3)
      go_ret
      exact ⟨rfl, HK3.out.trans (Keeps.alloc [] _ _)⟩
    | some p =>
      rw [hp] at HG
      obtain ⟨hops, htext, _⟩ := getP_text hp
      dsimp only [pOf, Option.getD_some, Option.isSome_some] at HG ⊢
      rw [pmv_lit] at HG
      clear hp hX
      generalize (p.num : Int) = nm at *
      generalize ByteArray.mk p.name.toArray = s at *
      generalize (p.takes : Int) = t at *
      generalize (p.gives : Int) = g at *
      generalize p.ops = o at *
      generalize p.text = tx at *
      generalize p.jump = jp at *
      have HT := Lib.hid htext
      clear htext
      cases tx with
      | false =>
        rw [if_neg (show ¬ (false = true) by decide)]
        by_cases hno : n < 1 + o
        · rw [if_pos hno]
          have hno' : ((1 : Int) + (o : Int)) > (n : Int) := by omega
          have e1 : IntKind.i64.wrap ((1 : Int) + (o : Int)) = (1 : Int) + (o : Int) := IntWalk.i64_in _ (by omega)
          go_enter Try.func36, Try.ntmps36
          go_wp2_with (refine HG.out.mono ?_; rintro e w3 ⟨rfl, hk3⟩; have HK3 := Lib.hid hk3; clear hk3)
          go_ret
          exact ⟨rfl, HK3.out.trans (Keeps.alloc [] _ _)⟩
        · rw [if_neg hno]
          have hno' : ¬ ((1 : Int) + (o : Int)) > (n : Int) := by omega
          have e1 : IntKind.i64.wrap ((1 : Int) + (o : Int)) = (1 : Int) + (o : Int) := IntWalk.i64_in _ (by omega)
          go_enter Try.func36, Try.ntmps36
          go_wp2_with (refine HG.out.mono ?_; rintro e w3 ⟨rfl, hk3⟩; have HK3 := Lib.hid hk3; clear hk3)
          go_ret
          exact ⟨ret_int1 (by omega), HK3.out.trans (Keeps.alloc [] _ _)⟩
      | true =>
        rw [if_pos (rfl : true = true)]
        obtain rfl : o = 1 := (HT.out rfl).1
        by_cases hno : n < 1 + 1
        · rw [if_pos hno]
          have hno' : ¬ (2 : Int) ≤ (n : Int) := by omega
          have hno2 : (2 : Int) > (n : Int) := by omega
          go_enter Try.func36, Try.ntmps36
          go_wp2_with (refine HG.out.mono ?_; rintro e w3 ⟨rfl, hk3⟩; have HK3 := Lib.hid hk3; clear hk3)
          go_ret
          exact ⟨rfl, HK3.out.trans (Keeps.alloc [] _ _)⟩
        · rw [if_neg hno]
          have hno' : (2 : Int) ≤ (n : Int) := by omega
          by_cases hY : 1000 < Y
          · rw [if_pos hY]
            have hY' : (Y : Int) > 1000 := by omega
            have hc1 := HC1.out (by omega)
            have HW := Lib.hid fun W (hk : Keeps [] w W) (o : Obj) => (Keeps.alloc [] W o).cell (hk.cell hc1 (by simp)) (by simp)
            go_enter Try.func36, Try.ntmps36
            go_wp2_with (refine HG.out.mono ?_; rintro e w3 ⟨rfl, hk3⟩; have hd1 := HW.out w3 hk3; have HK3 := Lib.hid hk3; clear hk3)
            go_ret
            exact ⟨rfl, HK3.out.trans (Keeps.alloc [] _ _)⟩
          · rw [if_neg hY]
            have hY' : ¬ (Y : Int) > 1000 := by omega
            have e0 : IntKind.i64.wrap (Y : Int) = (Y : Int) := IntWalk.i64_in _ (by omega)
            have hq : (Y + 3) / 4 ≤ 250 := by omega
            by_cases hnm : n < 1 + 1 + (Y + 3) / 4
            · rw [if_pos hnm]
              have HC := Lib.hid fun W => cellsOf_any W Y (by omega)
              generalize (Y + 3) / 4 = q at *
              have hnm' : (2 : Int) + (q : Int) > (n : Int) := by omega
              have e1 : IntKind.i64.wrap ((2 : Int) + (q : Int)) = (2 : Int) + (q : Int) := IntWalk.i64_in _ (by omega)
              have hc1 := HC1.out (by omega)
              have HW := Lib.hid fun W (hk : Keeps [] w W) (o : Obj) => (Keeps.alloc [] W o).cell (hk.cell hc1 (by simp)) (by simp)
              go_enter Try.func36, Try.ntmps36
              go_wp2_with (first | (refine HG.out.mono ?_; rintro e w3 ⟨rfl, hk3⟩; have hd1 := HW.out w3 hk3; have HK3 := Lib.hid hk3; clear hk3) | (refine (HC.out _).mono ?_; rintro e w4 ⟨rfl, rfl⟩))
              go_ret
              exact ⟨rfl, HK3.out.trans (Keeps.alloc [] _ _)⟩
            · rw [if_neg hnm]
              have HC := Lib.hid fun W => cellsOf_any W Y (by omega)
              generalize (Y + 3) / 4 = q at *
              have hnm' : ¬ (2 : Int) + (q : Int) > (n : Int) := by omega
              have e1 : IntKind.i64.wrap ((2 : Int) + (q : Int)) = (2 : Int) + (q : Int) := IntWalk.i64_in _ (by omega)
              have hc1 := HC1.out (by omega)
              have HW := Lib.hid fun W (hk : Keeps [] w W) (o : Obj) => (Keeps.alloc [] W o).cell (hk.cell hc1 (by simp)) (by simp)
              go_enter Try.func36, Try.ntmps36
              go_wp2_with (first | (refine HG.out.mono ?_; rintro e w3 ⟨rfl, hk3⟩; have hd1 := HW.out w3 hk3; have HK3 := Lib.hid hk3; clear hk3) | (refine (HC.out _).mono ?_; rintro e w4 ⟨rfl, rfl⟩))
              go_ret
              exact ⟨ret_int1 (by omega), HK3.out.trans (Keeps.alloc [] _ _)⟩
end Go.Proofs.Ytfnjjanknfmibaa
