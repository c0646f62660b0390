/-
  Contracts of the document's long numbers: root.
-/
import Derived.Test.YtlnmbfddhdjioaaDoorShaLongB
import Derived.Test.YtlnmbfddhdjioaaDoorShaLongN
import Derived.Test.YtlnmbfddhdjioaaDoorShaJ
namespace Go.Proofs.YtlnmbfddhdjioaaDoor
open Go.RowKit

set_option maxHeartbeats 4000000 in
theorem root_any (w : World) (p k : Nat) (hp : p < 65536) (hk : k = 2 ∨ k = 3) :
    Calls Tryd.prog 16 #[nv p, .int .i64 k] w fun e w' => e = .returned (nv (rootK k p 41 % 4294967296)) ∧ Keeps [] w w' := by
  obtain ⟨i0, hi, hz0, hz1, hz2⟩ := info_parts infoU32n
  have hk0 : 0 < k := by omega
  have hk4 : k < 4 := by omega
  clear hk
  have hmk := fun w : World => run_long w ((2 : Int) * (k : Int)) (2 * k) (by omega) (by omega)
  have hmk3 := fun w : World => run_long w (3 : Int) 3 (by omega) (by omega)
  go_enter Tryd.func16, Tryd.ntmps16
  go_wp2_with (at_builtin; refine wpList_append_own _ rfl _ _ 53 rfl w.heap.size 38 i0 (.int .u32 0) 1 4 Tryd.underlying53 hi hz0 hz1 hz2 rfl (by decide) (.slice (some ⟨w.heap.size, 0, none⟩) (2 * k) (2 * k)) (2 * k) (List.replicate (2 * k) (nv 0)) rfl ?c0 ⟨w.heap.size + 1, 0, none⟩ 1 1 [nv p] rfl rfl ?c1 ?c2 ?c3 ?c4 ?c5 ?_)
  case c0 =>
    refine Whole.owns (ys := []) ?_ (Nat.le_refl _) (by simp) (by simp) (by unfold maxLen; omega)
    rw [List.append_nil]
    exact (Whole.new w 38 (List.replicate (2 * k) (nv 0))).keeps (Keeps.alloc [] _ _) (by simp)
  case c1 =>
    intro i u hu
    rw [Addr.add_off, Nat.zero_add]
    have := (Whole.new (w.alloc (.cells (List.replicate (2 * k) (nv 0)).toArray 38)) 38 [nv p]).cell i
    rw [World.size_alloc] at this
    exact this.trans hu
  case c2 => intro u hu; simp at hu; subst hu; rfl
  case c3 => unfold maxLen; omega
  case c4 => omega
  case c5 => simp only [World.size_alloc]; omega
  intro v' w1 hown1 hg1 _
  have hk1 := Keeps.owned2 (((Keeps.alloc [] w _).trans (Keeps.alloc [] _ _)) : Keeps [] w ((w.alloc (.cells (List.replicate (2 * k) (nv 0)).toArray 38)).alloc (.cells #[nv p] 38))) (by
    refine Whole.owns (ys := []) (n := 2 * k) (xs := List.replicate (2 * k) (nv 0)) (T := 38) (b := w.heap.size) (cap := 2 * k) ?_ (Nat.le_refl _) (by simp) (by simp) (by unfold maxLen; omega)
    rw [List.append_nil]
    exact (Whole.new w 38 (List.replicate (2 * k) (nv 0))).keeps (Keeps.alloc [] _ _) (by simp)) hg1
  obtain ⟨ao, cp, rfl⟩ := owns_shape2 hown1
  obtain ⟨tb, tc, htv, _, rT⟩ := Row.ofOwns hown1 (by intro e; injection e with _ e; omega)
  injection htv with e1 e2 e3
  subst e1 e3
  have eT : List.replicate (2 * k) (nv 0) ++ [nv p] = (digs (2 * k + 1) (p * 65536 ^ (2 * k))).map nv := by
    rw [← digs_shift (2 * k) p hp, List.map_append, List.map_replicate]; rfl
  rw [eT] at rT
  have RT := Lib.hid rT
  have K1 := Lib.hid hk1
  have LT := Lib.hid (show p * 65536 ^ (2 * k) < 65536 ^ (2 * k + 1) by rw [Nat.pow_succ, Nat.mul_comm]; exact Nat.mul_lt_mul_of_pos_left hp (Nat.pow_pos (by decide)))
  clear rT hk1 hown1 hg1 eT hi hz0 hz1 hz2 e2 hmk
  go_wp2
  go_loopw [7] (fun i wr => ∃ j : Nat, j ≤ 41 ∧ i = .int .i64 (40 - (j : Int)) ∧ Row wr w1.heap.size 38 ((digs 3 (rootK k p j)).map nv) 3 ∧ Row wr tb 38 ((digs (2 * k + 1) (p * 65536 ^ (2 * k))).map nv) cp ∧ Keeps [] w wr) (fun i _ => (intOf i + 1).toNat)
  case atStart =>
    refine ⟨0, by omega, rfl, ?_, RT.out.keeps (Keeps.alloc [] _ _) (by simp), K1.out.trans (Keeps.alloc [] _ _)⟩
    rw [show (digs 3 (rootK k p 0)).map nv = [nv 0, nv 0, nv 0] by rw [show rootK k p 0 = 0 from rfl, show digs 3 0 = [0, 0, 0] by decide]; rfl]
    exact ⟨by simp, #[nv 0, nv 0, nv 0], heap_alloc_new w1 _, by simp, by rfl⟩
  case round =>
    have hne : tb ≠ w1.heap.size := by have := RT.out.lt; omega
    have hsz : w.heap.size ≤ w1.heap.size := K1.out.size
    have HNE := Lib.hid hne
    have HSZ := Lib.hid hsz
    clear RT K1 hne hsz
    obtain ⟨j, hj, rfl, rB, rT, kp⟩ := hrel
    by_cases hlt : j < 41
    · obtain ⟨bit, hbit⟩ : ∃ bit : Nat, bit = 40 - j := ⟨_, rfl⟩
      have ebit : (40 : Int) - (j : Int) = (bit : Int) := by omega
      rw [ebit]
      obtain ⟨hr1, hr2⟩ := rootK_room k p j hj
      rw [show 41 - j = bit + 1 by omega] at hr1 hr2
      have HRJ := Lib.hid (show rootK k p (j + 1) = if p * 65536 ^ (2 * k) < (rootK k p j + 2 ^ bit) ^ k then rootK k p j else rootK k p j + 2 ^ bit by rw [rootK, hbit])
      have hbj : (bit : Int) - 1 = 40 - ((j + 1 : Nat) : Int) := by omega
      have HBJ := Lib.hid hbj
      have hb40 : bit ≤ 40 := by omega
      have hb40' : (bit : Int) ≤ 40 := by omega
      clear hbj hbit ebit
      obtain ⟨hdp, hset⟩ := bit_set (rootK k p j) bit hb40 hr1 hr2
      have hq : bit / 16 < 3 := by omega
      have hback := bit_back (rootK k p j) (bit / 16) (dig (rootK k p j) (bit / 16) + 2 ^ (bit % 16)) hq
      rw [hset] at hback
      have hv' : rootK k p j + 2 ^ bit < 65536 ^ 3 := by
        have e : (2 : Nat) ^ 41 < 65536 ^ 3 := by decide
        rw [Nat.pow_succ] at hr2
        have : 0 < 2 ^ bit := Nat.pow_pos (by decide)
        omega
      have HPR := Lib.hid (fun i (hi : 0 < i) => pow_room (rootK k p j + 2 ^ bit) i hv' hi)
      have HV' := Lib.hid hv'
      have p0 := rB.cell (bit / 16) (v := nv (dig (rootK k p j) (bit / 16))) (by rw [List.getElem?_map, digs_get 3 _ _ hq]; rfl)
      have fz := rB.frozen (bit / 16)
      have RS := Lib.hid (rB.set (bit / 16) (nv (dig (rootK k p j) (bit / 16) + 2 ^ (bit % 16))))
      rw [← List.map_set, hset] at RS
      have HBK := Lib.hid hback
      have hg1 : (digs 3 (rootK k p j + 2 ^ bit))[bit / 16]? = some (dig (rootK k p j) (bit / 16) + 2 ^ (bit % 16)) := by
        rw [← hset, List.getElem?_set_self (by rw [digs_length]; exact hq)]
      have HG1 := Lib.hid hg1
      clear hr1 hr2 hset hback hv' hg1
      have RT := Lib.hid rT
      have KP := Lib.hid kp
      clear rB rT kp
      have q1 : (bit : Int) / 16 = ((bit / 16 : Nat) : Int) := by omega
      have q2 : (bit : Int).tdiv 16 = ((bit / 16 : Nat) : Int) := by rw [Int.tdiv_eq_ediv_of_nonneg (by omega)]; exact q1
      have q3 : (bit : Int) % 16 = ((bit % 16 : Nat) : Int) := by omega
      have q4 : (bit : Int).tmod 16 = ((bit % 16 : Nat) : Int) := by rw [Int.tmod_eq_emod_of_nonneg (by omega)]; exact q3
      have hr16 : bit % 16 < 16 := Nat.mod_lt _ (by decide)
      have hP : (2 : Int) ^ (bit % 16) = ((2 ^ (bit % 16) : Nat) : Int) := by rw [Int.natCast_pow]; rfl
      generalize hvv : rootK k p j + 2 ^ bit = v' at *
      generalize rootK k p j = v at *
      clear hvv
      generalize bit / 16 = q at *
      generalize bit % 16 = r at *
      generalize dig v q = d at *
      generalize 2 ^ r = P at *
      have hs := Int.natCast_add d P
      have q5 : (q : Int) < 3 := by omega
      have q6 : min r 32 = r := by omega
      have q7 : IntKind.u64.wrap (r : Int) = (r : Int) := IntWalk.u64_in _ (by omega)
      have q8 : IntKind.u32.wrap (P : Int) = (P : Int) := wrap_u32n _ (by omega)
      have q9 : (P : Int) % 4294967296 = (P : Int) := by omega
      have q10 : IntKind.u32.wrap ((d : Int) + (P : Int)) = (d : Int) + (P : Int) := IntWalk.u32_in _ (by omega)
      have q11 : ((d : Int) + (P : Int)) % 4294967296 = (d : Int) + (P : Int) := by omega
      clear hs
      go_wp2
      go_loopw [8, 9] (fun pv iv wr => ∃ (i b' c' : Nat), 1 ≤ i ∧ i ≤ k ∧ iv = .int .i64 i ∧ pv = .slice (some ⟨b', 0, none⟩) (3 * i : Nat) c' ∧ Row wr b' 38 ((digs (3 * i) (v' ^ i)).map nv) c' ∧ Row wr w1.heap.size 38 ((digs 3 v').map nv) 3 ∧ Row wr tb 38 ((digs (2 * k + 1) (p * 65536 ^ (2 * k))).map nv) cp ∧ Keeps [] w wr) (fun _ i _ => k - (intOf i).toNat)
      case atStart =>
        refine ⟨1, w1.heap.size, 3, Nat.le_refl _, hk0, rfl, rfl, ?_, RS.out, RT.out.keeps (Keeps.setCell (S := [w1.heap.size]) _ (by simp) _) (by simpa using HNE.out), KP.out.then (Keeps.setCell (S := [w1.heap.size]) _ (by simp) _) (fun x hx => .inr (by have := HSZ.out; simp at hx; omega))⟩
        rw [Nat.pow_one]
        exact RS.out
      case round =>
        clear RS RT KP
        obtain ⟨i, b', c', hi1, hik, rfl, rfl, rP, rB, rT, kp⟩ := hrel
        have RP := Lib.hid rP
        have RB := Lib.hid rB
        have RT := Lib.hid rT
        have KP := Lib.hid kp
        by_cases hlik : i < k
        · have hlik' : (i : Int) < k := by omega
          clear rP rB rT kp p0 fz
          go_wp2_with fail
          refine (times_any _ b' w1.heap.size (3 * i) 3 c' 3 (v' ^ i) v' (by omega) (by omega) (HPR.out i (by omega)) HV'.out RP.out RB.out).mono ?_
          rintro e w3 ⟨rfl, rP3, k3⟩
          have RP3 := Lib.hid rP3
          have K3 := Lib.hid k3
          clear rP3 k3
          go_wp2
          go_roundw
          case rel => exact ⟨i + 1, _, _, by omega, by omega, by go_num, rfl, RP3.out, RB.out.keeps K3.out (by simp), RT.out.keeps K3.out (by simp), KP.out.trans K3.out⟩
          case measure => simp [intOf]; omega
        · obtain rfl : i = k := by omega
          have HAB := Lib.hid (above_any wr b' tb (3 * i) (2 * i + 1) c' cp (v' ^ i) (p * 65536 ^ (2 * i)) (by omega) (by omega) (HPR.out i (by omega)) LT.out rP rT)
          have p1 := rB.cell q (v := nv (d + P)) (by rw [List.getElem?_map, HG1.out]; rfl)
          have fz1 := rB.frozen q
          have RS := Lib.hid (rB.set q (nv d))
          rw [← List.map_set, HBK.out] at RS
          clear rP rB rT kp p0 fz
          have q12 : (d : Int) + (P : Int) - (P : Int) = (d : Int) := by omega
          have q13 : IntKind.u32.wrap (d : Int) = (d : Int) := wrap_u32n _ (by omega)
          by_cases hab : p * 65536 ^ (2 * i) < v' ^ i
          · have hr := HRJ.out
            rw [if_pos hab] at hr
            rw [decide_eq_true hab] at HAB
            have HR := Lib.hid hr
            clear hr hab HRJ
            go_wp2_with fail
            refine HAB.out.mono ?_
            rintro e w3 ⟨rfl, rfl⟩
            go_wp2
            go_roundw
            case rel =>
              refine ⟨j + 1, by omega, ?_, ?_, RT.out.keeps (Keeps.setCell (S := [w1.heap.size]) _ (by simp) _) (by simpa using HNE.out), KP.out.then (Keeps.setCell (S := [w1.heap.size]) _ (by simp) _) (fun x hx => .inr (by have := HSZ.out; simp at hx; omega))⟩
              · rw [← HBJ.out]
              · rw [HR.out]; exact RS.out
            case measure => simp [intOf]
          · have hr := HRJ.out
            rw [if_neg hab] at hr
            rw [decide_eq_false hab] at HAB
            have HR := Lib.hid hr
            clear hr hab HRJ
            go_wp2_with fail
            refine HAB.out.mono ?_
            rintro e w3 ⟨rfl, rfl⟩
            go_wp2
            go_roundw
            case rel =>
              refine ⟨j + 1, by omega, ?_, by rw [HR.out]; exact RB.out, RT.out, KP.out⟩
              rw [← HBJ.out]
            case measure => simp [intOf]
    · obtain rfl : j = 41 := by omega
      have HL := Lib.hid (low_root (rootK k p 41))
      have l0 := dig_lt (rootK k p 41) 0
      have l1 := dig_lt (rootK k p 41) 1
      have p0 := rB.cell 0 (v := nv (dig (rootK k p 41) 0)) (by rw [List.getElem?_map, digs_get 3 _ _ (by decide)]; rfl)
      have p1 := rB.cell 1 (v := nv (dig (rootK k p 41) 1)) (by rw [List.getElem?_map, digs_get 3 _ _ (by decide)]; rfl)
      have KP := Lib.hid kp
      clear rB rT kp
      generalize hR : rootK k p 41 % 4294967296 = R at *
      have HRR := Lib.hid hR
      clear hR
      generalize dig (rootK k p 41) 0 = d0 at *
      generalize dig (rootK k p 41) 1 = d1 at *
      have u1 : IntKind.u32.wrap ((d1 : Int) * 65536) = (d1 : Int) * 65536 := IntWalk.u32_in _ (by omega)
      have u2 : IntKind.u32.wrap ((d1 : Int) * 65536 + (d0 : Int)) = (R : Int) := by
        have := HL.out
        rw [IntWalk.u32_in _ (by omega)]; omega
      have u3 : ((d1 : Int) * 65536) % 4294967296 = (d1 : Int) * 65536 := by omega
      have u4 : ((d1 : Int) * 65536 + (d0 : Int)) = (R : Int) := by have := HL.out; omega
      have u5 : IntKind.u32.wrap (R : Int) = (R : Int) := by rw [← u4]; exact IntWalk.u32_in _ (by omega)
      have u6 : (R : Int) % 4294967296 = (R : Int) := by omega
      clear u2
      go_wp2
      go_quiet (fail)
      go_wp2
      go_ret
      rw [HRR.out]
      exact ⟨rfl, KP.out.trans (Keeps.drewN [] _ _)⟩
end Go.Proofs.YtlnmbfddhdjioaaDoor
