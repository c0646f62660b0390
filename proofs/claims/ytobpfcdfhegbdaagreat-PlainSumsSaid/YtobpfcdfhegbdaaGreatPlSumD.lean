/-
  PlainSums: a division, and what takes it back.
-/
import Derived.Test.YtobpfcdfhegbdaaGreatPlSumM
namespace Go.Proofs.YtobpfcdfhegbdaaGreat
open Go.RowKit
set_option linter.unusedVariables false

theorem quo_out (D n : Int) (d1 : -2147483648 ≤ D) (d2 : D ≤ 2147483647) (hn : n ≠ 0) (h : Cell.quoOf true D n < -2147483648 ∨ 2147483647 < Cell.quoOf true D n) : D = -2147483648 ∧ n = -1 := by
  have ha : (D.tdiv n).natAbs = D.natAbs / n.natAbs := Int.natAbs_tdiv D n
  by_cases h1 : n = 1
  · subst h1
    rw [Cell.quo_true] at h
    have e1 : D.tdiv 1 = D := Int.tdiv_one D
    have e2 : D.tmod 1 = 0 := Int.tmod_one D
    rw [e1, e2] at h
    simp [Cell.lessB] at h
    omega
  · by_cases h2 : n = -1
    · subst h2
      rw [Cell.quo_true] at h
      have e1 : D.tdiv (-1) = -D := by rw [Int.tdiv_neg, Int.tdiv_one]
      have e2 : D.tmod (-1) = 0 := by rw [Int.tmod_neg, Int.tmod_one]
      rw [e1, e2] at h
      simp [Cell.lessB] at h
      exact ⟨by omega, rfl⟩
    · have hn2 : 2 ≤ n.natAbs := by omega
      have hle : D.natAbs / n.natAbs ≤ D.natAbs / 2 := Nat.div_le_div_left hn2 (by decide)
      rw [Cell.quo_true] at h
      have hb : (D.tdiv n).natAbs ≤ 1073741824 := by omega
      generalize D.tdiv n = q at *
      split at h <;> omega

theorem signed_double (a : BitVec 32) : sD a (signB a) = sC a := by
  have ha := a.isLt
  unfold sD signB sC flB
  by_cases h : wrap32 (a.toNat : Int) < 0
  · rw [decide_eq_true h]
    show wrap32 ((4294967295#32 : BitVec 32).toNat : Int) * 4294967296 + _ = _
    rw [show ((4294967295#32 : BitVec 32).toNat : Int) = 4294967295 from rfl]
    unfold wrap32 at *
    omega
  · rw [decide_eq_false h]
    show wrap32 ((0#32 : BitVec 32).toNat : Int) * 4294967296 + _ = _
    rw [show ((0#32 : BitVec 32).toNat : Int) = 0 from rfl]
    unfold wrap32 at *
    omega

/-- A signed cell divided by another one: what is thrown, or the dividend is come back to. -/
theorem div_ways (a b : BitVec 32) : (divI true (sD a (signB a)) (sC b) = (0, 0, -10) ∧ b = 0#32) ∨ (divI true (sD a (signB a)) (sC b) = (0, 0, -11) ∧ a = 2147483648#32 ∧ b = 4294967295#32) ∨
    (∃ R Q : Int, divI true (sD a (signB a)) (sC b) = (R, Q, 0) ∧ Q * sC b + R = sC a) := by
  have ha := a.isLt
  have hb := b.isLt
  rw [signed_double]
  unfold divI
  by_cases h0 : sC b = 0
  · rw [if_pos h0]
    refine .inl ⟨rfl, eq_of_int ?_⟩
    show (b.toNat : Int) = 0
    unfold sC wrap32 at h0
    omega
  · rw [if_neg h0]
    have hs := sC_bounds a
    by_cases h1 : Cell.quoOf true (sC a) (sC b) < -2147483648 ∨ 2147483647 < Cell.quoOf true (sC a) (sC b)
    · rw [if_pos h1]
      obtain ⟨e1, e2⟩ := quo_out (sC a) (sC b) hs.1 (by omega) h0 h1
      refine .inr (.inl ⟨rfl, eq_of_int ?_, eq_of_int ?_⟩)
      · show (a.toNat : Int) = 2147483648
        unfold sC wrap32 at e1
        omega
      · show (b.toNat : Int) = 4294967295
        unfold sC wrap32 at e2
        omega
    · rw [if_neg h1]
      exact .inr (.inr ⟨_, _, rfl, Cell.split true (sC a) (sC b)⟩)

theorem back_sum (a b : BitVec 32) (R Q : Int) (h : Q * sC b + R = sC a) : e_add (cI R) (e_mul (cI Q) b) = a := by
  have ha := a.isLt
  have hb := b.isLt
  apply eq_of_int
  unfold e_add e_mul
  rw [cI_toNat, cI_toNat, cI_toNat, cI_toNat]
  have h1 : (Q % 4294967296) * (b.toNat : Int) % 4294967296 = Q * sC b % 4294967296 := by
    have e : sC b % 4294967296 = (b.toNat : Int) := by unfold sC; rw [wrap32_mod]; omega
    rw [← e, ← Int.mul_emod]
  rw [h1, ← Int.add_emod, Int.add_comm, h]
  unfold sC wrap32
  omega
theorem E20 (x y : BitVec 32) (st : PSt) : effM 20 20 [] [x, y] st = ((E_slashmod [x, y]).1, (E_slashmod [x, y]).2, st) := rfl
theorem slashmod_is (x y : BitVec 32) : E_slashmod [x, y] = mkB (divI true (sD x (signB x)) (sC y)) := rfl
theorem E17 (x y : BitVec 32) (st : PSt) : effM 17 20 [] [x, y] st = ([e_mul x y], 0, st) := rfl
theorem E15 (x y : BitVec 32) (st : PSt) : effM 15 20 [] [x, y] st = ([e_add x y], 0, st) := rfl

theorem do_thr (room : Int) (win : List UInt8) (k G : Nat) (E : Eff) (pre c r g : List (BitVec 32)) (ram : List UInt8) (t : Int) (ht : t ≠ 0) (hc : c.length = k) (hE : E room win c ⟨pre ++ c, r, ram⟩ = (g, t, ⟨pre ++ c, r, ram⟩))
    (h1 : (pre.length : Int) + k ≤ room) (h2 : (pre.length : Int) + G ≤ room) : doM room win k G E ⟨pre ++ c, r, ram⟩ = (t, ⟨pre ++ c, r, ram⟩) := by
  have hl : (pre ++ c).length = pre.length + k := by rw [List.length_append, hc]
  have hd : (pre ++ c).drop ((pre ++ c).length - k) = c := by
    rw [hl, show pre.length + k - k = pre.length by omega]; simp
  have hm : mayT room (-3) (-4) (pre ++ c) k G = 0 := by
    unfold mayT
    rw [hl, if_neg (by omega), if_neg (by omega)]
  unfold doM
  rw [hm, if_pos rfl]
  show (if (E room win ((pre ++ c).drop ((pre ++ c).length - k)) ⟨pre ++ c, r, ram⟩).2.1 = 0 then _ else _) = _
  rw [hd, hE, if_neg ht]

set_option maxRecDepth 100000 in
theorem dm_thr (a b : BitVec 32) (ram : List UInt8) (t : Int) (ht : t ≠ 0) (h : divI true (sD a (signB a)) (sC b) = (0, 0, t)) : namedM 20 [] [70, 20, 71, 17, 15] ⟨[a, b, b], [], ram⟩ = (t, ⟨[a, b], [b], ram⟩) := by
  refine (named_gen 70 1 0 [20, 71, 17, 15] [a, b] [b] [] [] [b] ram ram (by kernel_rfl) (by kernel_rfl) rfl (E70 _ _ _) rfl (by simp) (by simp)).trans ?_
  have hd : doP 20 [] 20 ⟨[] ++ [a, b], [b], ram⟩ = (t, ⟨[] ++ [a, b], [b], ram⟩) := by
    unfold doP
    rw [show (primI 20).takes = 2 from by kernel_rfl, show gN 20 (PSt.mk ([] ++ [a, b]) [b] ram).s = 2 from by kernel_rfl]
    refine do_thr 20 [] 2 2 (effM 20) [] [a, b] [b] (mkB (0, 0, t)).1 ram t ht rfl ?_ (by simp) (by simp)
    rw [E20, slashmod_is, h]
    rfl
  show (if (doP 20 [] 20 ⟨[] ++ [a, b], [b], ram⟩).1 = 0 then _ else doP 20 [] 20 ⟨[] ++ [a, b], [b], ram⟩) = _
  rw [hd, if_neg ht]
  rfl
set_option maxRecDepth 100000 in
theorem dm_ok (a b : BitVec 32) (ram : List UInt8) (R Q : Int) (h : divI true (sD a (signB a)) (sC b) = (R, Q, 0)) (hb : Q * sC b + R = sC a) : namedM 20 [] [70, 20, 71, 17, 15] ⟨[a, b, b], [], ram⟩ = (0, ⟨[a], [], ram⟩) := by
  refine (named_gen 70 1 0 [20, 71, 17, 15] [a, b] [b] [] [] [b] ram ram (by kernel_rfl) (by kernel_rfl) rfl (E70 _ _ _) rfl (by simp) (by simp)).trans ?_
  refine (named_gen 20 2 2 [71, 17, 15] [] [a, b] [b] [cI R, cI Q] [b] ram ram (by kernel_rfl) (by kernel_rfl) rfl (by rw [E20, slashmod_is, h]; rfl) rfl (by simp) (by simp)).trans ?_
  refine (named_gen 71 0 1 [17, 15] [cI R, cI Q] [] [b] [b] [] ram ram (by kernel_rfl) (by kernel_rfl) rfl (E71 _ _ _) rfl (by simp) (by simp)).trans ?_
  refine (named_gen 17 2 1 [15] [cI R] [cI Q, b] [] [e_mul (cI Q) b] [] ram ram (by kernel_rfl) (by kernel_rfl) rfl (E17 _ _ _) rfl (by simp) (by simp)).trans ?_
  refine (named_gen 15 2 1 [] [] [cI R, e_mul (cI Q) b] [] [e_add (cI R) (e_mul (cI Q) b)] [] ram ram (by kernel_rfl) (by kernel_rfl) rfl (E15 _ _ _) rfl (by simp) (by simp)).trans ?_
  rw [back_sum a b R Q hb]
  rfl

theorem begun_at (W : World) (v : Value) (l : List (BitVec 32)) (M : Nat) (h : UReads W v l M 0) (hl : l.length ≤ 20) :
    Calls Tryz.prog 8 #[.int .i64 20, v, .slice none 0 0, .slice none 0 0] W fun e w' => ∃ gs gr gm κ, e = .returned (.tuple #[.agg #[.pointer (some ⟨gs, 0, none⟩), .pointer (some ⟨gr, 0, none⟩), .pointer (some ⟨gm, 0, none⟩)], .bool true]) ∧
      Lab W κ w' gs gr gm 20 l [] [] (List.replicate 32 0) ∧ Keeps [] W w' := by
  have HB := Begun_any W 20 (by decide) (by decide) v (.slice none 0 0) (.slice none 0 0) l [] [] M 0 0 0 0 h (UReads.nil _ _ _) (.inl ⟨rfl, rfl⟩) (by unfold maxLen; omega) (by decide) (by decide)
  simp only [List.take_nil, show Int.toNat 20 = 20 from rfl] at HB
  rw [show l.take (min l.length 20) = l from List.take_of_length_le (by omega)] at HB
  exact HB
theorem named_lit {w0 U : World} {κ : Nat → Nat} {gs gr gm : Nat} {l s' r' : List (BitVec 32)} {ram' : List UInt8} (hl : Lab w0 κ U gs gr gm 20 l [] [] (List.replicate 32 0)) (NM : Array Value) (is : List Nat) (n : Nat) (t : Int) (hNM : NM = (is.map fun i => str (primI i).name).toArray) (hn : is.length = n) (h2 : n ≤ 100) (h73 : is.all (fun i => decide (i < 73)) = true)
    (hM : namedM 20 [] is ⟨l, [], List.replicate 32 0⟩ = (t, ⟨s', r', ram'⟩)) :
    Calls Tryz.prog 17 #[.agg #[.pointer (some ⟨gs, 0, none⟩), .pointer (some ⟨gr, 0, none⟩), .pointer (some ⟨gm, 0, none⟩)], .slice (some ⟨U.heap.size, 0, none⟩) n n] (U.alloc (.cells NM 9)) fun e w' =>
      ∃ κ', e = .returned (.int .i32 t) ∧ Lab w0 κ' w' gs gr gm 20 s' r' [] ram' ∧ Step κ U κ' w' := by
  have h := Named_12 (hl.next (Keeps.alloc [] U (.cells NM 9))) U.heap.size n n is hn h2 (hl.newer (Nat.le_refl _)) (fun j i hj => of_decide_eq_true (List.all_eq_true.1 h73 i (List.mem_of_getElem? hj))) (fun j i hj => by rw [cell_alloc_new, hNM]; simp [hj])
  rw [hM] at h
  refine h.mono ?_
  rintro e w' ⟨κ', he, hl', hs⟩
  exact ⟨κ', he, hl', (Step.of (Keeps.alloc [] U _)).trans hs⟩
theorem cells_same (w : World) (va vb : Value) (l : List (BitVec 32)) (Ma oa Mb ob : Nat) (ha : UReads w va l Ma oa) (hb : UReads w vb l Mb ob) (hl : l.length ≤ maxLen) :
    Calls Tryz.prog 13 #[va, vb] w fun e w' => e = .returned (.bool true) ∧ Keeps [] w w' := by
  have h := cells12_any w va vb l l Ma oa Mb ob ha hb hl
  rwa [decide_eq_true (rfl : l = l)] at h
end Go.Proofs.YtobpfcdfhegbdaaGreat
