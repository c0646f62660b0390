/-
  Contracts of the document's sum: the first primes.
-/
import Derived.Test.YtlnmbfddhdjioaaDoorShaLongC
import Derived.Test.YtlnmbfddhdjioaaDoorShaLongD
namespace Go.Proofs.YtlnmbfddhdjioaaDoor
open Go.RowKit

theorem all_take (f : Nat → Bool) (l : List Nat) (i : Nat) (q : Nat) (h : l[i]? = some q) : (l.take (i + 1)).all f = ((l.take i).all f && f q) := by
  rw [List.take_add_one, h]
  simp

set_option maxHeartbeats 4000000 in
theorem Primes_any (w : World) :
    Calls Tryd.prog 15 #[.int .i64 64] w fun e w' => ∃ b c, e = .returned (.slice (some ⟨b, 0, none⟩) 64 c) ∧ w.heap.size ≤ b ∧ Row w' b 38 (PL.map nv) c ∧ Keeps [] w w' := by
  obtain ⟨i0, hi, hz0, hz1, hz2⟩ := info_parts infoU32n
  go_enter Tryd.func15, Tryd.ntmps15
  go_wp2
  go_loopw [3, 4] (fun v c wr => ∃ (k n : Nat) (ao : Option Addr) (cp : Nat), 2 ≤ k ∧ k ≤ 312 ∧ n = (pl k).length ∧ c = nv k ∧ v = .slice ao n cp ∧ wr.ownsRow w.heap.size 38 1 (.slice ao n cp) n ((pl k).map nv) ∧ Keeps [] w wr) (fun _ c _ => 312 - (intOf c).toNat)
  case atStart => exact ⟨2, 0, none, 0, by decide, by decide, by rw [pl_start]; rfl, rfl, rfl, by rw [pl_start]; exact World.ownsRow_nil _ _ _ _, Keeps.refl _ _⟩
  case round =>
    obtain ⟨k, n, ao, cp, hk2, hk, hn, rfl, rfl, hown, kp⟩ := hrel
    have HO := Lib.hid hown
    have KP := Lib.hid kp
    clear hown kp
    by_cases hlt : k < 312
    · obtain ⟨hl64, hnext⟩ := pl_facts k hlt hk2
      rw [← hn] at hl64
      have hl64' : (n : Int) < 64 := by omega
      have HN := Lib.hid hnext
      have HLN := Lib.hid hn
      clear hnext hn
      have hpos := pl_pos k
      have HP := Lib.hid hpos
      clear hpos
      obtain ⟨wo, rfl⟩ : ∃ wo : World, wo = wr := ⟨_, rfl⟩
      go_wp2
      go_loop [5, 6] (fun t i => ∃ j : Nat, j ≤ n ∧ i = .int .i64 j ∧ t = .bool (((pl k).take j).all fun q => k % q != 0)) (fun _ i => n - (intOf i).toNat)
      case atStart => exact ⟨0, Nat.zero_le _, rfl, rfl⟩
      case round =>
        obtain ⟨j, hj, rfl, rfl⟩ := hrel
        by_cases hjn : j < n
        · have hjn' : (j : Int) < n := by omega
          have hg : (pl k)[j]? = some ((pl k).getD j 0) := by
            have := HLN.out
            rw [List.getD_eq_getElem?_getD, List.getElem?_eq_getElem (by omega)]; rfl
          have HT := Lib.hid (all_take (fun q => k % q != 0) (pl k) j _ hg)
          have hq := HP.out _ (List.mem_of_getElem? hg)
          obtain ⟨b, c', hv, _, rB⟩ := Row.ofOwns HO.out (by intro e; injection e with _ e; omega)
          injection hv with e1 e2 e3
          subst e1 e3
          have p0 := rB.cell j (v := nv ((pl k).getD j 0)) (by rw [List.getElem?_map, hg]; rfl)
          clear rB hg
          generalize (pl k).getD j 0 = q at *
          generalize ((pl k).take j).all (fun q => k % q != 0) = t at *
          obtain ⟨hq0, hq1⟩ := hq
          have m1 : (k : Int) % (q : Int) = ((k % q : Nat) : Int) := by rw [Int.natCast_emod]
          have m2 : (k : Int).tmod (q : Int) = ((k % q : Nat) : Int) := by rw [Int.tmod_eq_emod_of_nonneg (by omega)]; exact m1
          have m3 : (q : Int) ≠ 0 := by omega
          have m4 : ((q : Int) == 0) = false := by rw [beq_eq_false_iff_ne]; exact m3
          have m5 : k % q < q := Nat.mod_lt _ hq0
          have m6 : ((((k % q : Nat) : Int) == 0) : Bool) = (k % q == 0) := by
            rw [Bool.eq_iff_iff, beq_iff_eq, beq_iff_eq]; omega
          have hbn : (k % q != 0) = !(k % q == 0) := rfl
          rw [hbn] at HT
          generalize k % q = r at *
          have u1 := wrap_u32n r (by omega)
          cases t
          · go_wp2
            go_round
            case rel => exact ⟨j + 1, by omega, by go_num, by rw [HT.out]; rfl⟩
            case measure => simp [intOf]; omega
          · go_wp2
            go_round
            case rel =>
              refine ⟨j + 1, by omega, by go_num, ?_⟩
              rw [HT.out]
              rw [Bool.true_and]
              congr 1
              show (!((r : Int) == 0)) = _
              rw [m6]
            case measure => simp [intOf]; omega
        · obtain rfl : j = n := by omega
          have HT := Lib.hid (show ((pl k).take j).all (fun q => k % q != 0) = (pl k).all (fun q => k % q != 0) by rw [List.take_of_length_le (by rw [HLN.out]; exact Nat.le_refl _)])
          have HNX := HN.out
          cases hall : (pl k).all (fun q => k % q != 0)
          · rw [hall] at HT HNX
            rw [HT.out]
            rw [if_neg (by decide)] at HNX
            have HX := Lib.hid HNX
            clear HNX HT hall HN
            go_wp2
            go_roundw
            case rel => exact ⟨k + 1, j, ao, cp, by omega, by omega, by rw [HX.out]; exact HLN.out, by go_num, rfl, by rw [HX.out]; exact HO.out, KP.out⟩
            case measure => simp [intOf]; omega
          · rw [hall] at HT HNX
            rw [HT.out]
            rw [if_pos rfl] at HNX
            have HX := Lib.hid HNX
            clear HNX HT hall HN
            go_wp2_with (at_builtin; refine wpList_append_own _ rfl _ _ 39 rfl w.heap.size 38 i0 (.int .u32 0) 1 4 Tryd.underlying39 hi hz0 hz1 hz2 rfl (by decide) (.slice ao j cp) j ((pl k).map nv) rfl (HO.out.alloc _) ⟨wo.heap.size, 0, none⟩ 1 1 [nv k] rfl rfl ?c1 ?c2 ?c3 ?c4 ?c5 ?_)
            case c2 => first | rfl | (intro u hu; simp at hu; subst hu; rfl)
            case c3 => first | omega | (unfold maxLen; omega)
            case c4 => omega
            case c5 => have := KP.out.size; first | omega | (simp only [World.size_alloc]; omega)
            intro v' w1 hown1 hg1 _
            have KP1 := Lib.hid ((KP.out.trans (Keeps.alloc [] wo _)).owned2 (HO.out.alloc _) hg1)
            obtain ⟨ao', cp', rfl⟩ := owns_shape2 hown1
            have HO1 := Lib.hid hown1
            clear hown1 hg1
            go_wp2
            go_roundw
            case rel =>
              refine ⟨k + 1, j + 1, ao', cp', by omega, by omega, ?_, by go_num, rfl, ?_, KP1.out⟩
              · rw [HX.out, List.length_append, HLN.out]; rfl
              · rw [HX.out, List.map_append]; exact HO1.out
            case measure => simp [intOf]; omega
    · obtain rfl : k = 312 := by omega
      rw [pl_end] at hn
      rw [PL_length] at hn
      subst hn
      obtain ⟨b, c', hv, hb, rB⟩ := Row.ofOwns HO.out (by intro e; injection e with _ e; omega)
      injection hv with e1 e2 e3
      subst e1 e3
      rw [pl_end] at rB
      have RB := Lib.hid rB
      clear rB
      go_wp2
      go_ret
      exact ⟨b, _, rfl, hb, RB.out, KP.out⟩
end Go.Proofs.YtlnmbfddhdjioaaDoor
