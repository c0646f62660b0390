/-
  Plain primitives: Do for each number.
-/
import Derived.Test.YtfnjjanknfmibaaGreatPlTab
namespace Go.Proofs.YtfnjjanknfmibaaGreat
open Go.RowKit
set_option linter.unusedVariables false

/-- How many cells a primitive gives. -/
def gN (i : Nat) (s : List (BitVec 32)) : Nat := if i = 5 then (if peekX s 0 = 0#32 then 1 else 2) else (primI i).gives
/-- What Do does with number i + 1. -/
def doP (room : Int) (win : List UInt8) (i : Nat) (x : PSt) : Int × PSt := doM room win (primI i).takes (gN i x.s) (effM i) x

set_option maxRecDepth 100000 in
theorem prim73 (i : Nat) (h : i < 73) : (primI i).num = i + 1 ∧ (primI i).takes ≤ 6 ∧ (primI i).gives ≤ 6 ∧ ((primI i).name == [63, 68, 85, 80]) = decide (i = 5) := by
  have h0 : (List.range 73).all (fun i => decide ((primI i).num = i + 1 ∧ (primI i).takes ≤ 6 ∧ (primI i).gives ≤ 6 ∧ ((primI i).name == [63, 68, 85, 80]) = decide (i = 5))) = true := by kernel_rfl
  exact of_decide_eq_true (List.all_eq_true.1 h0 i (List.mem_range.2 h))

theorem get73 (i : Nat) (h : i < 73) : getP (i + 1) = some (primI i) := by
  have := getP_at (i := i) (by omega)
  rwa [(prim73 i h).1] at this

section
variable {w0 w : World} {κ : Nat → Nat} {gs gr gm : Nat} {room : Int} {s r : List (BitVec 32)} {win ram : List UInt8}

theorem Do_prim (h : Lab w0 κ w gs gr gm room s r win ram) (i : Nat) (hi : i < 73) (n : Nat) (hn : n = i + 1) :
    Calls Tryz.prog 8 #[.int .u32 (n : Int), .pointer (some ⟨gs, 0, none⟩), .pointer (some ⟨gr, 0, none⟩), .pointer (some ⟨gm, 0, none⟩)] w fun e w' =>
      ∃ κ', e = .returned (.int .i32 (doP room win i ⟨s, r, ram⟩).1) ∧ Lab w0 κ' w' gs gr gm room (doP room win i ⟨s, r, ram⟩).2.s (doP room win i ⟨s, r, ram⟩).2.r win (doP room win i ⟨s, r, ram⟩).2.ram ∧ Step κ w κ' w' := by
  subst hn
  obtain ⟨hnum, ht, hg, hq⟩ := prim73 i hi
  refine Do_does h (i + 1) (primI i) (get73 i hi) (gN i s) (effM i) ht ?_ ?_ ?_
  · unfold gN; split
    · split <;> omega
    · exact hg
  · intro W hk
    refine (eff_any _ _ _ i hi W).mono ?_
    rintro e w' ⟨fn, first, cap, he, hk', hd⟩
    exact ⟨fn, first, cap, he, hk', hd gs gr gm rfl rfl rfl⟩
  · intro W hk
    unfold gN
    by_cases h5 : i = 5
    · rw [if_pos h5]
      subst h5
      exact gives_qdup (h.next hk) _ (by rw [hq]; rfl) (by kernel_rfl)
    · rw [if_neg h5]
      exact gives_plain (h.next hk) _ (by rw [hq]; simp [h5])
end

set_option maxRecDepth 100000 in
theorem none73 (n : Nat) (h : ¬ (1 ≤ n ∧ n ≤ 73)) : let l := (pOf (getP n)).name
    (namesMoved.all (fun x => !(l == x)) = true ∧ namesOne.all (fun x => !(l == x)) = true ∧ (l == [87, 73, 84, 72, 73, 78]) = false ∧ namesTwo.all (fun x => !(l == x)) = true) ∧ (namesDivided.all (fun x => !(l == x)) = true ∧ namesDoubled.all (fun x => !(l == x)) = true ∧ namesStacked.all (fun x => !(l == x)) = true ∧ namesStored.all (fun x => !(l == x)) = true) := by
  have h0 : (List.range 113).all (fun i => decide (i < 73) || decide (let l := (primI i).name
    (namesMoved.all (fun x => !(l == x)) = true ∧ namesOne.all (fun x => !(l == x)) = true ∧ (l == [87, 73, 84, 72, 73, 78]) = false ∧ namesTwo.all (fun x => !(l == x)) = true) ∧ (namesDivided.all (fun x => !(l == x)) = true ∧ namesDoubled.all (fun x => !(l == x)) = true ∧ namesStacked.all (fun x => !(l == x)) = true ∧ namesStored.all (fun x => !(l == x)) = true))) = true := by kernel_rfl
  cases hg : getP n with
  | none => exact of_decide_eq_true (by kernel_rfl)
  | some p =>
    obtain ⟨i, hi, rfl, hnum⟩ := getP_some hg
    have h1 := List.all_eq_true.1 h0 i (List.mem_range.2 hi)
    by_cases h73 : i < 73
    · have := (prim73 i h73).1
      exact absurd (show 1 ≤ n ∧ n ≤ 73 by omega) h
    · rw [decide_eq_false h73, Bool.false_or] at h1
      exact of_decide_eq_true h1

set_option maxRecDepth 100000 in
set_option maxHeartbeats 1000000 in
theorem Do_word (w : World) (n : Nat) (h : ¬ (1 ≤ n ∧ n ≤ 73)) (a b c : Option Addr) :
    Calls Tryz.prog 8 #[.int .u32 (n : Int), .pointer a, .pointer b, .pointer c] w fun e w' => e = .returned (.int .i32 (-13)) ∧ Keeps [] w w' := by
  have f1 := run_nil_eql 59 under_effect
  obtain ⟨⟨h0, h1, h2, h3⟩, h4, h5, h6, h7⟩ := none73 n h
  have HE := Lib.hid (fun W => effect_none W a b c _ (no0 _ h0) (no1 _ h1) (no2 _ h2 h3) (no3 _ h4) (no4 _ h5) (no5 a b c _ h6) (no6 a b c _ h7))
  have HGET := Lib.hid (fun W => Get_any W n)
  rw [pmv_lit] at HGET
  clear h h0 h1 h2 h3 h4 h5 h6 h7
  generalize pOf (getP n) = p at *
  generalize (getP n).isSome = bb at *
  generalize (p.num : Int) = a1 at *
  generalize ByteArray.mk p.name.toArray = st at *
  generalize (p.takes : Int) = t at *
  generalize (p.gives : Int) = g at *
  generalize (p.ops : Int) = o at *
  generalize p.text = tx at *
  generalize p.jump = jp at *
  go_enter Tryz.func8, Tryz.ntmps8
  go_wp2_with (first
    | (go_at_call 11; refine (HGET.out _).mono ?_; rintro e w1 ⟨rfl, hk1⟩; have HK1 := Lib.hid hk1; clear hk1)
    | (go_at_call 20; refine (HE.out _).mono ?_; rintro e w2 ⟨rfl, hk2⟩; have HK2 := Lib.hid hk2; clear hk2))
  go_ret
  exact ⟨rfl, (HK1.out.trans (Keeps.alloc [] _ _)).trans HK2.out⟩

set_option maxRecDepth 100000 in
set_option maxHeartbeats 1000000 in
theorem gives_nil (w : World) (p : Pm) : Calls Tryz.prog 22 #[pmv p, .pointer none] w fun e w' => (∃ g : Int, e = .returned (.int .i64 g)) ∧ Keeps [] w w' := by
  have HP := Lib.hid (fun W => Peek_not W none (.inl rfl) 0)
  rw [pmv_lit]
  generalize (p.num : Int) = a at *
  generalize ByteArray.mk p.name.toArray = st at *
  generalize (p.takes : Int) = t at *
  generalize (p.gives : Int) = g at *
  generalize (p.ops : Int) = o at *
  generalize p.text = tx at *
  generalize p.jump = jp at *
  cases hq : (st.toList == [63, 68, 85, 80]) <;>
  · go_enter Tryz.func22, Tryz.ntmps22
    go_wp2_with (go_at_call 39; refine (HP.out _).mono ?_; rintro e w4 ⟨rfl, rfl⟩)
    go_ret
    exact ⟨⟨_, rfl⟩, Keeps.alloc [] _ _⟩

set_option maxRecDepth 100000 in
set_option maxHeartbeats 1000000 in
theorem Do_nil (w : World) (i : Nat) (hi : i < 73) (n : Nat) (hn : n = i + 1) :
    Calls Tryz.prog 8 #[.int .u32 (n : Int), .pointer none, .pointer none, .pointer none] w fun e w' => e = .returned (.int .i32 (-4)) ∧ Keeps [] w w' := by
  have f1 := run_fn_eql 59 under_effect
  have HGET := Lib.hid (fun W => Get_any W n)
  rw [hn, get73 i hi, ← hn] at HGET
  simp only [pOf, Option.getD_some, Option.isSome_some] at HGET
  have HE := Lib.hid (fun W => eff_any none none none i hi W)
  have HG := Lib.hid (fun W => gives_nil W (primI i))
  have HM := Lib.hid (fun W a b => May_not W none (.inl rfl) a b)
  unfold str at HE
  rw [pmv_lit] at HGET HG
  generalize effM i = E at *
  generalize primI i = p at *
  generalize p.takes = k at *
  generalize (p.num : Int) = a at *
  generalize ByteArray.mk p.name.toArray = st at *
  generalize (p.gives : Int) = g at *
  generalize (p.ops : Int) = o at *
  generalize p.text = tx at *
  generalize p.jump = jp at *
  have HB := Lib.hid (fun (v W : World) (hk : Keeps [] (v.alloc (.cells #[.int .u32 a, .string st, .int .i64 (k : Int), .int .i64 g, .int .i64 o, .bool tx, .bool jp] 40)) W) => Whole.keeps (Whole.new v 40 [.int .u32 a, .string st, .int .i64 (k : Int), .int .i64 g, .int .i64 o, .bool tx, .bool jp]) hk (by simp))
  clear hn
  go_enter Tryz.func8, Tryz.ntmps8
  go_upto_region 5 with (first
    | (go_at_call 11; refine (HGET.out _).mono ?_; rintro e w1 ⟨rfl, hk1⟩; have HK1 := Lib.hid hk1; clear hk1)
    | (go_at_call 20; refine (HE.out _).mono ?_; rintro e w2 ⟨fn, first, cap, rfl, hk2, hd⟩; have HK2 := Lib.hid hk2; clear hk2 hd))
  have q := Lib.hid (fun W (hk : Keeps [] w2 W) => (HB.out w1 W (HK2.out.trans hk)).prim)
  have q0 := fun W hk => (q.out W hk).1
  have q1 := fun W hk => (q.out W hk).2.1
  have q2 := fun W hk => (q.out W hk).2.2.1
  have q3 := fun W hk => (q.out W hk).2.2.2.1
  have q4 := fun W hk => (q.out W hk).2.2.2.2.1
  have q5 := fun W hk => (q.out W hk).2.2.2.2.2.1
  have q6 := fun W hk => (q.out W hk).2.2.2.2.2.2
  have HK := Lib.hid ((HK1.out.trans (Keeps.alloc [] w1 (.cells #[.int .u32 a, .string st, .int .i64 (k : Int), .int .i64 g, .int .i64 o, .bool tx, .bool jp] 40))).trans HK2.out)
  clear HB HK1 HK2 HGET HE
  go_region_held3 (fun W' => Keeps [] w2 W') (first | assumption | exact Keeps.refl [] _ | exact Keeps.drew [] _ | exact Keeps.trans (by assumption) (by assumption) | exact (Keeps.drew [] _).trans (by assumption)) (first
    | (go_at_call 22; refine (HG.out _).mono ?_; rintro e w3 ⟨⟨gg, rfl⟩, hk3⟩)
    | (go_at_call 21; refine (HM.out _ _ _).mono ?_; rintro e w4 ⟨rfl, rfl⟩))
  all_goals (try go_wp2)
  all_goals go_ret
  all_goals exact ⟨rfl, HK.out.trans (by assumption)⟩
end Go.Proofs.YtfnjjanknfmibaaGreat
