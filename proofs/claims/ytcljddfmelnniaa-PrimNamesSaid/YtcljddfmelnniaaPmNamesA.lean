/-
  PrimNames: numbers and names are unlike, each primitive is told by both.
-/
import Derived.Test.YtcljddfmelnniaaPmAw
namespace Go.Proofs.Ytcljddfmelnniaa
open Go.RowKit Go.Deep
set_option linter.unusedVariables false

def lowP (i : Nat) : List UInt8 := (primI i).name.map smallC
set_option maxRecDepth 100000 in
theorem names_unlike : ∀ i, i < 113 → ∀ k, k < i → lowP k ≠ lowP i := by
  have h : (List.range 113).all (fun i => (List.range i).all fun k => !(lowP k == lowP i)) = true := by kernel_rfl
  intro i hi k hk
  have h1 := List.all_eq_true.1 h i (List.mem_range.2 hi)
  have h2 := List.all_eq_true.1 h1 k (List.mem_range.2 hk)
  intro e
  rw [e] at h2
  simp at h2

theorem alike_self (a : List UInt8) : alikeB a a = true := by unfold alikeB; simp
theorem alike_iff (a b : List UInt8) : alikeB a b = true ↔ a.map smallC = b.map smallC := by unfold alikeB; simp

theorem namedP_own {i : Nat} (h : i < 113) : namedP (primI i).name = some (primI i) :=
  namedP_at h (alike_self _) (fun k hk => by
    cases hq : alikeB (primI k).name (primI i).name with
    | false => rfl
    | true => exact absurd ((alike_iff _ _).1 hq) (names_unlike i h k hk))

set_option maxRecDepth 100000 in
theorem prim_fine (i : Nat) (h : i < 113) : 0 < (primI i).num ∧ rightW ⟨(primI i).name, 0, []⟩ = true := by
  have h0 : (List.range 113).all (fun i => decide (0 < (primI i).num) && rightW ⟨(primI i).name, 0, []⟩) = true := by kernel_rfl
  have := List.all_eq_true.1 h0 i (List.mem_range.2 h)
  simpa using this

/-- A world behind another one, whose blocks it has. -/
structure After (w : World) where
  U : World
  k : Keeps [] w U

theorem wp_region_class {P : Program} {id : Nat} {Q : Exit → Act → World → Prop} {a : Act} {w : World} {l : List Oper} {S : Type} (f : S → World) (s0 : S) (hm : P.follows .mixedOrders = true) (hB : Region.lexB .any l.toArray = true) (h0 : w.drew = f s0)
    (h : wpQuiet P l.toArray (fun w' => ∃ n, w' = f n) (fun a' => ∀ w', (∃ n, w' = f n) → Q .normal a' w') l a) : (Code.region id l.toArray true).wp P Q a w :=
  wp_region_quiet (C := fun w' => ∃ n, w' = f n) hm hB ⟨s0, h0⟩ (by simpa using h)

theorem getP_isSome (n : Nat) : (getP n).isSome = true ↔ ∃ i, i < 113 ∧ (primI i).num = n := by
  constructor
  · intro h
    cases hg : getP n with
    | none => rw [hg] at h; cases h
    | some p => obtain ⟨i, hi, _, hn⟩ := getP_some hg; exact ⟨i, hi, by rw [← hn]; congr 1⟩
  · rintro ⟨i, hi, rfl⟩
    rw [getP_at hi]; rfl

/-- Where the primitive with a number stands among the first k: -1 if none does. -/
def atN (n k : Nat) (z : Int) : Prop := (z = -1 ∧ ∀ j, j < k → (primI j).num ≠ n) ∨ ∃ j : Nat, j < k ∧ z = (j : Int) ∧ (primI j).num = n

set_option maxRecDepth 100000 in
set_option maxHeartbeats 8000000 in
theorem PrimNames_any (w : World) (n : Nat) (hn : n < 4294967296) : Calls Try.prog 5 #[.int .u32 (n : Int)] w fun e w' => e = .returned (.bool true) ∧ Keeps [] w w' := by
  have HAL := Lib.hid All_any
  have HGT := Lib.hid Get_any
  have HND := Lib.hid Named_any
  have HAW := Lib.hid awake11_any
  have HRT := Lib.hid fun W x => Right_any W x none 0 _ rfl
  go_enter Try.func5, Try.ntmps5
  go_wp2_with (go_at_call 19; refine (HAL.out _).mono ?_; rintro e w1 ⟨b1, rfl, hb1, hw1, hk1⟩; have HW1 := Lib.hid hw1; have K1 := Lib.hid hk1; have HB1 := Lib.hid hb1; clear hw1 hk1 hb1)
  go_loopw [4, 18] (fun x y wr => ∃ (k : Nat) (z : Int), k ≤ 113 ∧ x = .int .i64 z ∧ y = .int .i64 (k : Int) ∧ atN n k z ∧ Keeps [] w1 wr) (fun _ y _ => 113 - (intOf y).toNat)
  case atStart => exact ⟨0, -1, by omega, rfl, rfl, .inl ⟨rfl, fun j hj => by omega⟩, Keeps.refl _ _⟩
  case round =>
    obtain ⟨k, z, hk, rfl, rfl, hz, hkr⟩ := hrel
    have HK := Lib.hid hkr
    have HZ := Lib.hid hz
    by_cases hlt : k < 113
    · have hlt' : (k : Int) < 113 := by omega
      obtain ⟨c0, c1, c2, c3, c4, c5, c6⟩ := (HW1.out.tab.keeps hkr (by simp)).prim hlt
      have HG := Lib.hid fun W => HGT.out W (primI k).num
      have HN := Lib.hid fun W => HND.out W (primI k).name
      rw [getP_at hlt] at HG
      rw [namedP_own hlt] at HN
      dsimp only [pOf, Option.getD_some, Option.isSome_some] at HG HN
      rw [pmv_lit] at HG HN
      have HR := Lib.hid fun W => HRT.out W ⟨(primI k).name, 0, []⟩
      obtain ⟨hf1, hf2⟩ := prim_fine k hlt
      rw [hf2] at HR
      have hsm := num_small k hlt
      obtain ⟨ho, ht, hj, _⟩ := prim_text k hlt
      have hprev : ∀ m, m + 1 = k → (primI m).num < (primI k).num := fun m hm => by subst hm; exact num_mono m (by omega)
      have HPV := Lib.hid hprev
      have HTB := Lib.hid HW1.out.tab
      have hneq := fun W => prim_neq_self W (primI k).num (primI k).takes (primI k).gives (primI k).ops ⟨(primI k).name.toArray⟩ (primI k).text (primI k).jump
      unfold wvl at HR
      unfold str at *
      have HNUM := Lib.hid (rfl : (primI k).num = (primI k).num)
      clear hf2 hprev hz hkr
      obtain ⟨am, ham⟩ : ∃ am, am = (primI k).num := ⟨_, rfl⟩
      simp only [← ham] at c0 HG HN hf1 hsm hneq
      have HAM := Lib.hid ham
      clear ham HNUM
      generalize ByteArray.mk (primI k).name.toArray = s at *
      generalize (primI k).takes = tn at *
      generalize (primI k).gives = gn at *
      generalize (primI k).ops = oo at *
      generalize (primI k).text = tx at *
      generalize (primI k).jump = jp at *
      have ht0 : ¬ (tn : Int) < 0 := by omega
      have hg0 : ¬ (gn : Int) < 0 := by omega
      have ho0 : ¬ (oo : Int) < 0 := by omega
      have ho2 : ¬ (oo : Int) > 2 := by omega
      have ha0 : ((am : Int) == 0) = false := by simp; omega
      have ha1 : ¬ (am : Int) = 0 := by omega
      have ha2 : ¬ (am : Int) ≥ 256 := by omega
      have hcase : (tx = false ∧ jp = false) ∨ (tx = true ∧ jp = false ∧ oo = 1) ∨ (tx = false ∧ jp = true ∧ oo = 1) := by
        cases tx <;> cases jp <;> simp_all
      clear ht hj ho
      rcases hcase with ⟨rfl, rfl⟩ | ⟨rfl, rfl, rfl⟩ | ⟨rfl, rfl, rfl⟩
      all_goals
        go_upto_region 6 with fail
        generalize hV : World.alloc wr _ = V6
        have WP := Lib.hid (show Whole V6 wr.heap.size 27 [.int .u32 (am : Int), .string s, .int .i64 (tn : Int), .int .i64 (gn : Int), .int .i64 _, .bool _, .bool _] by rw [← hV]; exact Whole.new wr 27 _)
        have KV6 := Lib.hid (show Keeps [] wr V6 by rw [← hV]; exact Keeps.alloc [] _ _)
        clear hV c0 c1 c2 c3 c4 c5 c6
        generalize wr.heap.size = B6 at *
        have p0 := WP.out.cell 0
        have p1 := WP.out.cell 1
        simp only [List.getElem?_cons_zero, List.getElem?_cons_succ] at p0 p1
        go_upto_region 7 with (go_at_call 9; refine (HG.out _).mono ?_; rintro e w2 ⟨rfl, hk2⟩; have K2 := Lib.hid hk2; clear hk2)
        generalize hV : World.alloc w2 _ = V7
        have WQ := Lib.hid (show Whole V7 w2.heap.size 27 [.int .u32 (am : Int), .string s, .int .i64 (tn : Int), .int .i64 (gn : Int), .int .i64 _, .bool _, .bool _] by rw [← hV]; exact Whole.new w2 27 _)
        have KV7 := Lib.hid (show Keeps [] V6 V7 by rw [← hV]; exact K2.out.trans (Keeps.alloc [] _ _))
        clear hV p0 p1
        generalize w2.heap.size = B7 at *
        have p1 := (WP.out.keeps KV7.out (by simp)).cell 1
        simp only [List.getElem?_cons_zero, List.getElem?_cons_succ] at p1
        go_upto_region 8 with (go_at_call 11; refine (HN.out _).mono ?_; rintro e w3 ⟨rfl, hk3⟩; have K3 := Lib.hid hk3; clear hk3)
        generalize hV : World.alloc w3 _ = V8
        have WR := Lib.hid (show Whole V8 w3.heap.size 27 [.int .u32 (am : Int), .string s, .int .i64 (tn : Int), .int .i64 (gn : Int), .int .i64 _, .bool _, .bool _] by rw [← hV]; exact Whole.new w3 27 _)
        have KV8 := Lib.hid (show Keeps [] V7 V8 by rw [← hV]; exact K3.out.trans (Keeps.alloc [] _ _))
        clear hV p1
        generalize w3.heap.size = B8 at *
        have KP8 := Lib.hid (HK.out.trans ((KV6.out.trans KV7.out).trans KV8.out))
        obtain ⟨a0, a1, a2, a3, a4, a5, a6⟩ := (WP.out.keeps (KV7.out.trans KV8.out) (by simp)).prim
        obtain ⟨d0, d1, d2, d3, d4, d5, d6⟩ := (WQ.out.keeps KV8.out (by simp)).prim
        obtain ⟨f0, f1, f2, f3, f4, f5, f6⟩ := WR.out.prim
        clear WP WQ WR
        go_upto_region 10 with fail
        have HF0 := Lib.hid fun (nq : After V8) => nq.k.cell a0 (by simp)
        have HF1 := Lib.hid fun (nq : After V8) => nq.k.cell a1 (by simp)
        have hf0 : ∀ nq : After V8, nq.U.cell? ⟨B6, 0, none⟩ = some (.int .u32 (am : Int)) := fun nq => nq.k.cell a0 (by simp)
        have hf1' : ∀ nq : After V8, nq.U.cell? ⟨B6, 1, none⟩ = some (.string s) := fun nq => nq.k.cell a1 (by simp)
        have HRQ := Lib.hid fun (nq : After V8) => (show Calls Try.prog 22 #[.agg #[.string s, .int .u8 0, .slice none 0 0]] nq.U fun e w'' => e = .returned (.bool true) ∧ ∃ n', w'' = After.U n' from
          (HR.out nq.U).mono fun e w'' h => ⟨h.1, (⟨w'', nq.k.trans h.2⟩ : After V8), rfl⟩)
        have HA0 := Lib.hid a0
        have hloop : ∀ (kk : Int), (kk > 0 → ∃ m : Nat, m + 1 = k ∧ True) → True := fun _ _ => trivial
        clear HF0 HF1 d0 d1 d2 d3 d4 d5 d6 f0 f1 f2 f3 f4 f5 f6 a1 a2 a3 a4 a5 a6 hneq hloop
        have hne : Nonempty (After V8) := ⟨⟨V8, Keeps.refl _ _⟩⟩
        obtain ⟨m, hm⟩ | hk0 : (∃ m, m + 1 = k) ∨ k = 0 := by
          cases k with
          | zero => exact .inr rfl
          | succ m => exact .inl ⟨m, rfl⟩
        · have hkp : (k : Int) > 0 := by omega
          have hkpN : 0 < k := by omega
          have hmN : m < 113 := by omega
          have hm113 : (m : Int) < 113 := by omega
          have hwm : IntKind.i64.wrap ((k : Int) - 1) = (m : Int) := by rw [show (k : Int) - 1 = (m : Int) by omega]; exact IntWalk.i64_in _ (by omega)
          have hpm := HPV.out m hm
          rw [← HAM.out] at hpm
          have hcm := ((HTB.out.keeps KP8.out (by simp)).prim (i := m) (by omega)).1
          generalize (primI m).num = pm at *
          have hcq : ∀ nq : After V8, nq.U.cell? ⟨b1, m * 7, none⟩ = some (.int .u32 (pm : Int)) := fun nq => nq.k.cell hcm (by simp)
          have hpa : ¬ (pm : Int) ≥ (am : Int) := by omega
          clear hcm hpm hm a0
          refine wp_region_class (S := After V8) After.U ⟨V8.drew, Keeps.drew [] V8⟩ (by kernel_rfl) (by kernel_rfl) rfl ?_
          repeat (go_big_quiet_step ((go_at_call 22; exact HRQ.out _)))
          refine wpQuiet_nil ?_
          rintro _ ⟨nq, rfl⟩
          have KL := Lib.hid nq.k
          have hb6 := hf0 nq
          have HKX := Lib.hid (KP8.out.trans nq.k)
          generalize nq.U = wq at *
          clear hf0 hf1'
          by_cases hq : am = n
          · have hq' : (am : Int) = (n : Int) := by omega
            have hqb : ((am : Int) == (n : Int)) = true := by simp; omega
            go_wp2
            go_roundw
            case rel => exact ⟨k + 1, (k : Int), by omega, rfl, by go_num, .inr ⟨k, by omega, rfl, by rw [← HAM.out]; exact hq⟩, HKX.out⟩
            case measure => simp [intOf]; omega
          · have hq' : ¬ (am : Int) = (n : Int) := by omega
            have hqb : ((am : Int) == (n : Int)) = false := by simp; omega
            go_wp2
            go_roundw
            case rel => exact ⟨k + 1, z, by omega, rfl, by go_num, by
              rcases HZ.out with ⟨h1, h2⟩ | ⟨j, h1, h2, h3⟩
              · exact .inl ⟨h1, fun j hj => by
                  by_cases he : j = k
                  · subst he; rw [← HAM.out]; exact hq
                  · exact h2 j (by omega)⟩
              · exact .inr ⟨j, by omega, h2, h3⟩, HKX.out⟩
            case measure => simp [intOf]; omega
        · have hkn : ¬ (k : Int) > 0 := by omega
          have hknN : ¬ 0 < k := by omega
          clear a0
          refine wp_region_class (S := After V8) After.U ⟨V8.drew, Keeps.drew [] V8⟩ (by kernel_rfl) (by kernel_rfl) rfl ?_
          clear hk0
          repeat (go_big_quiet_step ((go_at_call 22; exact HRQ.out _)))
          refine wpQuiet_nil ?_
          rintro _ ⟨nq, rfl⟩
          have KL := Lib.hid nq.k
          have hb6 := hf0 nq
          have HKX := Lib.hid (KP8.out.trans nq.k)
          generalize nq.U = wq at *
          clear hf0 hf1'
          by_cases hq : am = n
          · have hq' : (am : Int) = (n : Int) := by omega
            have hqb : ((am : Int) == (n : Int)) = true := by simp; omega
            go_wp2
            go_roundw
            case rel => exact ⟨k + 1, (k : Int), by omega, rfl, by go_num, .inr ⟨k, by omega, rfl, by rw [← HAM.out]; exact hq⟩, HKX.out⟩
            case measure => simp [intOf]; omega
          · have hq' : ¬ (am : Int) = (n : Int) := by omega
            have hqb : ((am : Int) == (n : Int)) = false := by simp; omega
            go_wp2
            go_roundw
            case rel => exact ⟨k + 1, z, by omega, rfl, by go_num, by
              rcases HZ.out with ⟨h1, h2⟩ | ⟨j, h1, h2, h3⟩
              · exact .inl ⟨h1, fun j hj => by
                  by_cases he : j = k
                  · subst he; rw [← HAM.out]; exact hq
                  · exact h2 j (by omega)⟩
              · exact .inr ⟨j, by omega, h2, h3⟩, HKX.out⟩
            case measure => simp [intOf]; omega
    · obtain rfl : k = 113 := by omega
      have HB := Lib.hid HB1.out
      have hgz : ∃ (p : Pm) (q : Bool), pOf (getP n) = p ∧ (getP n).isSome = q ∧ ((q = true ∧ ∃ j : Nat, z = (j : Int)) ∨ (q = false ∧ z = -1)) := by
        rcases hz with ⟨h1, h2⟩ | ⟨j, h1, h2, h3⟩
        · exact ⟨_, false, rfl, by rw [getP_none h2]; rfl, .inr ⟨rfl, h1⟩⟩
        · exact ⟨_, true, rfl, by rw [← h3, getP_at h1]; rfl, .inl ⟨rfl, j, h2⟩⟩
      obtain ⟨p, q, hp, hq, hz⟩ := hgz
      have HG := Lib.hid fun W => HGT.out W n
      rw [hp, hq, pmv_lit] at HG
      clear hp hq hkr HRT HND
      generalize (p.num : Int) = pa at *
      generalize ByteArray.mk p.name.toArray = ps at *
      generalize (p.takes : Int) = pt at *
      generalize (p.gives : Int) = pg at *
      generalize (p.ops : Int) = po at *
      generalize p.text = px at *
      generalize p.jump = pj at *
      have hzq : (q = true ∧ z ≥ 0 ∧ decide (z ≥ 0) = true) ∨ (q = false ∧ ¬ z ≥ 0 ∧ decide (z ≥ 0) = false) := by
        rcases hz with ⟨h1, j, h2⟩ | ⟨h1, h2⟩
        · exact .inl ⟨h1, by omega, by simp; omega⟩
        · exact .inr ⟨h1, by omega, by simp; omega⟩
      clear hz
      rcases hzq with ⟨rfl, hz1, hz2⟩ | ⟨rfl, hz1, hz2⟩
      all_goals
        go_wp2_with (go_at_call 9; refine (HG.out _).mono ?_; rintro e w2 ⟨rfl, hk2⟩; have K2 := Lib.hid (HK.out.trans hk2); clear hk2)
        generalize hV : World.alloc w2 _ = V
        have KV := Lib.hid (show Keeps [] w1 V by rw [← hV]; exact K2.out.trans (Keeps.alloc [] _ _))
        clear hV
        go_loopw [135] (fun x wq => ∃ i : Nat, i ≤ 113 ∧ x = .int .i64 (i : Int) ∧ (∃ xs, Whole wq b1 51 xs ∧ xs.length = 791) ∧ Keeps [b1] V wq) (fun x _ => 113 - (intOf x).toNat)
        case atStart => exact ⟨0, by omega, rfl, ⟨_, HW1.out.keeps KV.out (by simp), by rw [cellsP_length, tabL_length]⟩, Keeps.refl _ _⟩
        case round =>
          obtain ⟨i, hi, rfl, ⟨xs, hxs, hxl⟩, hkq⟩ := hrel
          have HXS := Lib.hid hxs
          have HXL := Lib.hid hxl
          have HKQ := Lib.hid hkq
          by_cases hli : i < 113
          · have hli' : (i : Int) < 113 := by omega
            have hcell : ∀ j, j < 7 → ∃ u, wr.cell? ⟨b1, i * 7 + j, none⟩ = some u := fun j hj => ⟨_, (hxs.cell (i * 7 + j)).trans (List.getElem?_eq_getElem (by omega))⟩
            obtain ⟨x0, c0⟩ := hcell 0 (by omega)
            obtain ⟨x1, c1⟩ := hcell 1 (by omega)
            obtain ⟨x2, c2⟩ := hcell 2 (by omega)
            obtain ⟨x3, c3⟩ := hcell 3 (by omega)
            obtain ⟨x4, c4⟩ := hcell 4 (by omega)
            obtain ⟨x5, c5⟩ := hcell 5 (by omega)
            obtain ⟨x6, c6⟩ := hcell 6 (by omega)
            rw [Nat.add_zero] at c0
            have f0 := hxs.frozen (i * 7)
            have f1 := hxs.frozen (i * 7 + 1)
            have f2 := hxs.frozen (i * 7 + 2)
            have f3 := hxs.frozen (i * 7 + 3)
            have f4 := hxs.frozen (i * 7 + 4)
            have f5 := hxs.frozen (i * 7 + 5)
            have f6 := hxs.frozen (i * 7 + 6)
            clear hxs hxl hkq hcell
            go_wp2
            go_roundw
            case rel =>
              refine ⟨i + 1, by omega, by go_num, ⟨_, ((((((HXS.out.set (i * 7) _).set (i * 7 + 1) _).set (i * 7 + 2) _).set (i * 7 + 3) _).set (i * 7 + 4) _).set (i * 7 + 5) _).set (i * 7 + 6) _, by simp [HXL.out]⟩, HKQ.out.trans ?_⟩
              have k : ∀ (w : World) i v, Keeps [b1] w (w.setCell ⟨b1, i, none⟩ v) := fun w i v => Keeps.setCell w (by simp) v
              exact (((((((k _ _ _).trans (k _ _ _)).trans (k _ _ _)).trans (k _ _ _)).trans (k _ _ _)).trans (k _ _ _)).trans (k _ _ _))
            case measure => simp [intOf]; omega
          · obtain rfl : i = 113 := by omega
            have hkk : Keeps [] w wr := (K1.out.trans KV.out).then hkq (fun x hx => .inr (by have := HB.out; simp at hx; omega))
            have HKK := Lib.hid hkk
            clear hxs hxl hkq hkk
            go_wp2_with (first
              | (go_at_call 19; refine (HAL.out _).mono ?_; rintro e w9 ⟨b9, rfl, hb9, hw9, hk9⟩; have e1 := hw9.tab 1 (.string ⟨#[68, 85, 80]⟩) rfl; have HK9 := Lib.hid (HKK.out.trans hk9); clear hb9 hw9 hk9)
              | (go_at_call 8; refine (HAW.out _).mono ?_; rintro e wa ⟨rfl, hka⟩; have HKA := Lib.hid (HK9.out.trans hka); clear hka))
            go_ret
            exact ⟨rfl, HKA.out⟩
end Go.Proofs.Ytcljddfmelnniaa
