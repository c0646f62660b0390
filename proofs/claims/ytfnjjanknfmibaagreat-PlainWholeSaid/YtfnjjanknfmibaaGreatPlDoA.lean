/-
  Plain primitives: Do.
-/
import Derived.Test.YtfnjjanknfmibaaGreatPlDo
import Derived.Test.YtfnjjanknfmibaaGreatPlEff
namespace Go.Proofs.YtfnjjanknfmibaaGreat
open Go.RowKit
set_option linter.unusedVariables false

section
variable {w0 w : World} {κ : Nat → Nat} {gs gr gm : Nat} {room : Int} {s r : List (BitVec 32)} {win ram : List UInt8}

set_option maxRecDepth 100000 in
theorem gives_qdup (h : Lab w0 κ w gs gr gm room s r win ram) (p : Pm) (hp : (p.name == [63, 68, 85, 80]) = true) (hg : p.gives = 1) :
    Calls Tryz.prog 22 #[pmv p, .pointer (some ⟨gs, 0, none⟩)] w fun e w' => e = .returned (.int .i64 ((if peekX s 0 = 0#32 then 1 else 2 : Nat) : Int)) ∧ Keeps [] w w' := by
  have HP := Lib.hid (fun W (hk : Keeps [] w W) => Peek_lab (h.next hk) 0 _ _ rfl rfl)
  have hs : ((ByteArray.mk p.name.toArray).toList == [63, 68, 85, 80]) = true := by rw [show (ByteArray.mk p.name.toArray).toList = p.name by simp [ByteArray.toList_eq]]; exact hp
  rw [pmv_lit, hg]
  clear hp h hg
  generalize (p.num : Int) = a at *
  generalize ByteArray.mk p.name.toArray = st at *
  generalize (p.takes : Int) = t at *
  generalize (p.ops : Int) = o at *
  generalize p.text = tx at *
  generalize p.jump = jp at *
  generalize peekT s 0 (-4) = T at *
  have HW := Lib.hid (fun W (hk : Keeps [] (w.alloc (.cells #[.int .u32 a, .string st, .int .i64 t, .int .i64 1, .int .i64 o, .bool tx, .bool jp] 40)) W) => Whole.keeps (Whole.new w 40 [.int .u32 a, .string st, .int .i64 t, .int .i64 1, .int .i64 o, .bool tx, .bool jp]) hk (by simp))
  by_cases hx : peekX s 0 = 0#32
  · rw [if_pos hx]
    rw [hx, show (((0#32 : BitVec 32).toNat : Nat) : Int) = 0 from rfl] at HP
    clear hx
    go_enter Tryz.func22, Tryz.ntmps22
    go_wp2_with (refine (HP.out _ (Keeps.alloc [] _ _)).mono ?_; rintro e w4 ⟨rfl, hk4⟩; have HK4 := Lib.hid hk4; have hw4 := HW.out w4 hk4; obtain ⟨c0, c1, c2, c3, c4, c5, c6⟩ := hw4.prim; clear hw4 hk4)
    go_ret
    exact ⟨rfl, (Keeps.alloc [] _ _).trans HK4.out⟩
  · rw [if_neg hx]
    obtain ⟨X, hX⟩ : ∃ X : Int, X = ((peekX s 0).toNat : Int) := ⟨_, rfl⟩
    have hx1 : ¬ X = 0 := by rw [hX]; intro e; exact hx (BitVec.eq_of_toNat_eq (by simpa using e))
    have hx2 : (X == 0) = false := by simpa using hx1
    rw [← hX] at HP
    clear hx hX
    go_enter Tryz.func22, Tryz.ntmps22
    go_wp2_with (refine (HP.out _ (Keeps.alloc [] _ _)).mono ?_; rintro e w4 ⟨rfl, hk4⟩; have HK4 := Lib.hid hk4; have hw4 := HW.out w4 hk4; obtain ⟨c0, c1, c2, c3, c4, c5, c6⟩ := hw4.prim; clear hw4 hk4)
    go_ret
    exact ⟨rfl, (Keeps.alloc [] _ _).trans HK4.out⟩

set_option maxRecDepth 100000 in
set_option maxHeartbeats 1000000 in
theorem Do_does (h : Lab w0 κ w gs gr gm room s r win ram) (n : Nat) (p : Pm) (hp : getP n = some p) (G : Nat) (E : Eff) (hk6 : p.takes ≤ 6) (hG6 : G ≤ 6)
    (HE : ∀ W, Keeps [] w W → Calls Tryz.prog 20 #[.agg #[.pointer (some ⟨gs, 0, none⟩), .pointer (some ⟨gr, 0, none⟩), .pointer (some ⟨gm, 0, none⟩)], str p.name] W fun e w' => ∃ fn first cap, e = .returned (.func (.func fn) first cap) ∧ Keeps [] W w' ∧ Does gs gr gm p.takes E w' fn first cap)
    (HG : ∀ W, Keeps [] w W → Calls Tryz.prog 22 #[pmv p, .pointer (some ⟨gs, 0, none⟩)] W fun e w' => e = .returned (.int .i64 (G : Int)) ∧ Keeps [] W w') :
    Calls Tryz.prog 8 #[.int .u32 (n : Int), .pointer (some ⟨gs, 0, none⟩), .pointer (some ⟨gr, 0, none⟩), .pointer (some ⟨gm, 0, none⟩)] w fun e w' =>
      ∃ κ', e = .returned (.int .i32 (doM room win p.takes G E ⟨s, r, ram⟩).1) ∧ Lab w0 κ' w' gs gr gm room (doM room win p.takes G E ⟨s, r, ram⟩).2.s (doM room win p.takes G E ⟨s, r, ram⟩).2.r win (doM room win p.takes G E ⟨s, r, ram⟩).2.ram ∧ Step κ w κ' w' := by
  have f1 := run_fn_eql 59 under_effect
  have HGET := Lib.hid (fun W => Get_any W n)
  rw [hp] at HGET
  simp only [pOf, Option.getD_some, Option.isSome_some] at HGET
  have HE' := Lib.hid HE
  have HG' := Lib.hid HG
  have HL := Lib.hid h
  have HM := Lib.hid (fun W (hk : Keeps [] w W) => May_lab (h.next hk) (p.takes : Int) (G : Int) _ (by omega) (by omega) rfl)
  have HUP := Lib.hid (fun W (hk : Keeps [] w W) (hn : p.takes ≤ s.length) => upper_lab (h.next hk) p.takes hn hk6)
  unfold str at HE'
  rw [pmv_lit] at HGET HG'
  clear HE HG h hp
  generalize p.takes = k at *
  generalize (p.num : Int) = a at *
  generalize ByteArray.mk p.name.toArray = st at *
  generalize (p.gives : Int) = g at *
  generalize (p.ops : Int) = o at *
  generalize p.text = tx at *
  generalize p.jump = jp at *
  have HB := Lib.hid (fun (v W : World) (hk : Keeps [] (v.alloc (.cells #[.int .u32 a, .string st, .int .i64 (k : Int), .int .i64 g, .int .i64 o, .bool tx, .bool jp] 40)) W) => Whole.keeps (Whole.new v 40 [.int .u32 a, .string st, .int .i64 (k : Int), .int .i64 g, .int .i64 o, .bool tx, .bool jp]) hk (by simp))
  go_enter Tryz.func8, Tryz.ntmps8
  go_upto_region 2 with (first | (go_at_call 11; refine (HGET.out _).mono ?_; rintro e w1 ⟨rfl, hk1⟩; have HK1 := Lib.hid hk1; clear hk1))
  have HW1 := Lib.hid (HK1.out.trans (Keeps.alloc [] w1 (.cells #[.int .u32 a, .string st, .int .i64 (k : Int), .int .i64 g, .int .i64 o, .bool tx, .bool jp] 40)))
  have HB1 := Lib.hid (fun W hk => HB.out w1 W hk)
  have HSZ := Lib.hid HK1.out.size
  clear HB HK1 HGET
  generalize w1.alloc (.cells #[.int .u32 a, .string st, .int .i64 (k : Int), .int .i64 g, .int .i64 o, .bool tx, .bool jp] 40) = V at *
  obtain ⟨B, hB⟩ : ∃ B, B = w1.heap.size := ⟨_, rfl⟩
  rw [← hB] at HB1 HSZ ⊢
  clear hB
  obtain ⟨c0, c1, c2, c3, c4, c5, c6⟩ := (HB1.out V (Keeps.refl _ _)).prim
  have HEV := Lib.hid (HE'.out V HW1.out)
  clear HE'
  go_upto_region 5 with (first | (go_at_call 20; refine HEV.out.mono ?_; rintro e w2 ⟨fn, first, cap, rfl, hk2, hd⟩; have HK2 := Lib.hid hk2; have HD := Lib.hid hd; clear hk2 hd))
  have q := Lib.hid (fun W (hk : Keeps [] w2 W) => (HB1.out W (HK2.out.trans hk)).prim)
  have q0 := fun W hk => (q.out W hk).1
  have q1 := fun W hk => (q.out W hk).2.1
  have q2 := fun W hk => (q.out W hk).2.2.1
  have q3 := fun W hk => (q.out W hk).2.2.2.1
  have q4 := fun W hk => (q.out W hk).2.2.2.2.1
  have q5 := fun W hk => (q.out W hk).2.2.2.2.2.1
  have q6 := fun W hk => (q.out W hk).2.2.2.2.2.2
  have HW2 := Lib.hid (HW1.out.trans HK2.out)
  have HG2 := Lib.hid (fun W (hk : Keeps [] w2 W) => HG'.out W (HW2.out.trans hk))
  have HM2 := Lib.hid (fun W (hk : Keeps [] w2 W) => HM.out W (HW2.out.trans hk))
  obtain ⟨T, hT⟩ : ∃ T, T = mayT room (-3) (-4) s (k : Int) (G : Int) := ⟨_, rfl⟩
  rw [← hT] at HM2
  have HT := Lib.hid hT
  clear hT HG' HM HEV c0 c1 c2 c3 c4 c5 c6
  go_region_held3 (fun W' => Keeps [] w2 W') (first | assumption | exact Keeps.refl [] _ | exact Keeps.drew [] _ | exact Keeps.trans (by assumption) (by assumption) | exact (Keeps.drew [] _).trans (by assumption)) (first
    | (go_at_call 22; refine (HG2.out _ (by first | assumption | exact Keeps.refl [] _ | exact Keeps.drew [] _ | exact Keeps.trans (by assumption) (by assumption) | exact (Keeps.drew [] _).trans (by assumption))).mono ?_; rintro e w3 ⟨rfl, hk3⟩)
    | (go_at_call 21; refine (HM2.out _ (by first | assumption | exact Keeps.refl [] _ | exact Keeps.drew [] _ | exact Keeps.trans (by assumption) (by assumption) | exact (Keeps.drew [] _).trans (by assumption))).mono ?_; rintro e w4 ⟨rfl, hk4⟩))
  have HW4 := Lib.hid (show Keeps [] w w4 from HW2.out.trans (by assumption))
  have HKD := Lib.hid (show Keeps [] w2 w4 by assumption)
  have HC := Lib.hid (fun W (hk : Keeps [] w4 W) => q2 W (HKD.out.trans hk))
  clear q0 q1 q2 q3 q4 q5 q6 q HG2 HM2 hk3 hk4
  have HD0 := Lib.hid HD.out.1
  have HD1 := Lib.hid (fun W (hk : Keeps [] w4 W) => HD.out.2 w0 W κ room s r win ram)
  by_cases h0 : T = 0
  · have hks : k ≤ s.length := mayT_zero (HT.out.symm.trans h0)
    have hEnt := HD.out.1
    unfold Entered at hEnt
    have HU := Lib.hid (HUP.out w4 HW4.out hks)
    have HX := Lib.hid (fun W (hk : Keeps [] w4 W) (hu : UReads W (.slice (some ⟨w4.heap.size, 0, none⟩) k k) (s.drop (s.length - k)) w4.heap.size 0) => HD.out.2 w0 W κ room s r win ram w4.heap.size (s.drop (s.length - k)) (HKD.out.trans hk) (HL.out.next (HW4.out.trans hk)) hu (by simp; omega))
    have HR : Hid (∀ (g : List (BitVec 32)) (t : Int) (X : PSt), E room win (s.drop (s.length - k)) ⟨s, r, ram⟩ = (g, t, X) → doM room win k G E ⟨s, r, ram⟩ = if t = 0 then (pushT room (-3) (cutL X.s ((X.s.length : Int) - k)) g, ⟨pushL room (cutL X.s ((X.s.length : Int) - k)) g, X.r, X.ram⟩) else (t, X)) := by
      intro g t X hX
      unfold doM
      rw [← HT.out, if_pos h0, hX]
    obtain ⟨⟨g6, t6, X6⟩, hY⟩ : ∃ Y, Y = E room win (s.drop (s.length - k)) ⟨s, r, ram⟩ := ⟨_, rfl⟩
    rw [← hY] at HX
    have HDO := Lib.hid (HR.out _ _ _ hY.symm)
    clear hY HR
    subst h0
    generalize s.drop (s.length - k) = cs at *
    have c2 := HC.out w4 (Keeps.refl _ _)
    go_upto_region 9 with (first
      | (go_at_call 23; refine HU.out.mono ?_; rintro e w5 ⟨rfl, hu5, hk5⟩; have HU5 := Lib.hid hu5; have HK5 := Lib.hid hk5; clear hu5 hk5)
      | (refine (HX.out w5 HK5.out HU5.out).mono ?_; rintro e w6 ⟨gv, M6, o6, κ6, rfl, hL6, hS6, hu6, hM6, hl6⟩; have HL6 := Lib.hid hL6; have HS6 := Lib.hid hS6; have HU6 := Lib.hid hu6; have HM6 := Lib.hid hM6; have HLN := Lib.hid hl6; clear hL6 hS6 hu6 hM6 hl6))
    by_cases h1 : t6 = 0
    · have HB6 := Lib.hid (HS6.out.cell (HC.out w5 HK5.out) (HL.out.newer HSZ.out))
      subst h1
      have hlen := HL6.out.lens
      have HLEN := Lib.hid (fun W (hk : Keeps [] w6 W) => Len_lab (HL6.out.next hk) (X6.s.length : Int) rfl)
      have HCUT := Lib.hid (fun W (hk : Keeps [] w6 W) => (Cut_lab (HL6.out.next hk) ((X6.s.length : Int) - k) _ _ rfl rfl).mono (fun e w7 (hh : _ ∧ ∃ κ', _ ∧ _) => (⟨hh.1, hh.2.choose, hh.2.choose_spec.1, (Step.of hk).trans hh.2.choose_spec.2⟩ : e = .returned (.int .i32 (cutT X6.s ((X6.s.length : Int) - k) (-4))) ∧ ∃ κ', Lab w0 κ' w7 gs gr gm room (cutL X6.s ((X6.s.length : Int) - k)) X6.r win X6.ram ∧ Step κ6 w6 κ' w7)))
      have hb6 := HB6.out
      have hL1 : X6.s.length ≤ 4096 := hlen.1
      clear hlen c2
      have HDO1 := HDO.out
      rw [if_pos rfl] at HDO1
      have HDO2 := Lib.hid HDO1
      clear HDO1 HDO
      obtain ⟨D, hD⟩ : ∃ D : Int, D = (X6.s.length : Int) - k := ⟨_, rfl⟩
      have e1 : IntKind.i64.wrap ((X6.s.length : Int) - (k : Int)) = D := by rw [hD, IntKind.wrap_i64]; omega
      rw [← hD] at HCUT HDO2
      clear hD
      generalize cutT X6.s D (-4) = tc at *
      generalize cutL X6.s D = s7 at *
      generalize X6.s.length = L6 at *
      go_upto_region 11 with fail
      go_region_with (first
        | (go_at_call 25; refine (HLEN.out _ (by first | exact Keeps.refl [] _ | exact Keeps.drew [] _ | exact Keeps.drewN [] _ _)).mono ?_; rintro e w8 ⟨rfl, rfl⟩)
        | (go_at_call 24; refine (HCUT.out _ (by first | exact Keeps.refl [] _ | exact Keeps.drew [] _ | exact Keeps.drewN [] _ _)).mono ?_; rintro e w7 ⟨rfl, κ7, hL7, hS7⟩; have HL7 := Lib.hid hL7; have HS7 := Lib.hid hS7; clear hL7 hS7))
      all_goals (go_wp2_with (go_at_call 14; refine (Push_lab HL7.out gv g6 M6 o6 (HS7.out.ureads HU6.out HM6.out) (by have := HLN.out; unfold maxLen; omega) _ _ rfl rfl).mono ?_; rintro e w9 ⟨rfl, κ9, hL9, hS9⟩; have HL9 := Lib.hid hL9; have HS9 := Lib.hid hS9; clear hL9 hS9))
      all_goals go_ret
      all_goals rw [HDO2.out]
      all_goals exact ⟨κ9, rfl, HL9.out, (((Step.of (HW4.out.trans HK5.out)).trans HS6.out).trans HS7.out).trans HS9.out⟩
    · go_wp2
      go_ret
      have hdo := HDO.out
      rw [if_neg h1] at hdo
      rw [hdo]
      exact ⟨κ6, rfl, HL6.out, (Step.of (HW4.out.trans HK5.out)).trans HS6.out⟩
  · go_wp2
    go_ret
    refine ⟨κ, ?_, ?_, Step.of HW4.out⟩
    · unfold doM; rw [← HT.out, if_neg h0]; rfl
    · unfold doM; rw [← HT.out, if_neg h0]; exact HL.out.next HW4.out
end
end Go.Proofs.YtfnjjanknfmibaaGreat
