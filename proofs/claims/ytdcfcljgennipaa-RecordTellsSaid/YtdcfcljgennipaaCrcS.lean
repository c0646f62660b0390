/-
  The document's CRC, walked.
-/
import Derived.Test.YtdcfcljgennipaaCrcQ
import Derived.Test.YtdcfcljgennipaaCrcR
namespace Go.Proofs.Ytdcfcljgennipaa
open Go.RowKit Go.Deep

theorem sizeBool (w : World) : (sizeOf 4).run Try.prog w = .ok 1 w := by
  obtain ⟨i0, hi, hz0, hz1, hz2⟩ := info_parts infoBool
  simp [sizeOf, typeInfo, hi, hz1]

theorem run_rest (w : World) (b len cap lo : Nat) (h : lo ≤ len) (hc : lo < cap) : (Instr.sliceAt 118 (.slice (some ⟨b, 0, none⟩) len cap) (some (.int .i64 lo)) none none).run Try.prog w = .ok (.slice (some ⟨b, lo, none⟩) (len - lo) (cap - lo)) w := by
  have hu : Try.prog.underlying 118 = some (.slice (Try.prog.elem 118)) := by kernel_rfl
  rw [run_sliceAt_slice _ _ _ _ _ _ hu, run_slice_l _ _ _ _ _ hu _ _ (by omega) (by omega), show Try.prog.elem 118 = 4 by kernel_rfl, sizeBool]
  simp only [Result.andThen, sliced, Int.toNat_natCast]
  rw [if_neg (by omega)]
  simp only [Option.map_some, Addr.add_off, Nat.mul_one, Nat.zero_add]

theorem powers_get (k : Nat) (h : k < 14) : ∃ p : Nat, p ≤ 26 ∧ powersN[k]? = some p ∧ powersN.take (k + 1) = powersN.take k ++ [p] := by
  have hl : k < powersN.length := h
  refine ⟨powersN[k], ?_, List.getElem?_eq_getElem hl, List.take_succ_eq_append_getElem hl⟩
  have : ∀ p ∈ powersN, p ≤ 26 := by decide
  exact this _ (List.getElem_mem _)

set_option maxRecDepth 100000 in
set_option maxHeartbeats 8000000 in
theorem R2Of_any (w : World) (p : Option Addr) (l : List UInt8) (cap : Nat) (hl : l.length ≤ 5000) (hc : ∀ i c, l[i]? = some c → ∃ M off, p = some ⟨M, off, none⟩ ∧ w.cell? ⟨M, off + i, none⟩ = some (bv c)) :
    Calls Try.prog 57 #[.slice p l.length cap] w fun e w' => e = .returned (uv (crcOf l)) ∧ Keeps [] w w' := by
  have HC := Lib.hid hc
  clear hc
  have hml := bitsOf_length l
  have HCR := Lib.hid (show crcOf l = ~~~ (feed ones32 (bitsOf l)) by unfold crcOf; rw [addl_feed])
  go_enter Try.func57, Try.ntmps57
  go_wp2_with fail
  refine (R2bits_any _ p l cap hl HC.out).mono ?_
  rintro e w1 ⟨B, cB, rfl, hB, rB, k1⟩
  have RB := Lib.hid rB
  have K1 := Lib.hid k1
  have room := rB.room
  rw [List.length_map, left_length _ _ (Nat.zero_le _)] at room
  have ltB := rB.lt
  clear rB k1
  go_wp2_with fail
  refine (R2powers_any _).mono ?_
  rintro e w2 ⟨rfl, rfl⟩
  generalize hm : bitsOf l = m at *
  generalize hn : l.length = n at *
  have HM := Lib.hid hml
  have HMM := Lib.hid hm
  clear hml hm hn HC
  go_wp2
  go_loopw [5] (fun i wr => ∃ k : Nat, k ≤ 8 * n ∧ i = .int .i64 k ∧ Row wr B 4 ((left m k).map Value.bool) cB ∧ Whole wr w1.heap.size 3 (powersN.map fun n : Nat => Value.int .i64 (n : Int)) ∧ Keeps [] w wr) (fun i _ => 8 * n - (intOf i).toNat)
  case atStart => exact ⟨0, Nat.zero_le _, rfl, RB.out.keeps (Keeps.alloc [] _ _) (by simp), Whole.new w1 _ _, K1.out.trans (Keeps.alloc [] _ _)⟩
  case round =>
    obtain ⟨k, hk, rfl, rB, wp, kp⟩ := hrel
    by_cases hlt : k < 8 * n
    · have hlt' : (k : Int) < 8 * n := by omega
      have hkm : k < m.length := by have := HM.out; omega
      have p0 := rB.cell k (v := .bool (m[k] ^^ (feed ones32 (m.take k)).getLsbD 0)) (by rw [List.getElem?_map, left_here m k hkm]; rfl)
      have fz := rB.frozen k
      have HSK := Lib.hid (left_skip m k hkm)
      have HFL := Lib.hid (left_flip m k hkm)
      have HS := Lib.hid (rB.set k (.bool false))
      have HLN := Lib.hid (left_length m k (Nat.le_of_lt hkm))
      generalize (m[k] ^^ (feed ones32 (m.take k)).getLsbD 0) = t at *
      have RB := Lib.hid rB
      have WP := Lib.hid wp
      have KP := Lib.hid kp
      clear rB wp kp
      obtain ⟨wo, rfl⟩ : ∃ wo : World, wo = wr := ⟨_, rfl⟩
      cases t
      · go_wp2
        go_roundw
        case rel => exact ⟨k + 1, by omega, by go_num, by rw [HSK.out rfl]; exact RB.out, WP.out, KP.out⟩
        case measure => simp [intOf]; omega
      · have HS2 := Lib.hid (show Row (wo.setCell ⟨B, k, none⟩ (.bool false)) B 4 (((left m k).set k false).map Value.bool) cB by rw [List.map_set]; exact HS.out)
        have HFL2 := Lib.hid (HFL.out rfl)
        have HLN2 := Lib.hid (show ((left m k).set k false).length = 8 * n + 32 by rw [List.length_set, HLN.out, HM.out])
        generalize (left m k).set k false = L at *
        clear HS HSK HFL
        go_wp2
        go_loopw [6] (fun i wr => ∃ j : Nat, j ≤ 14 ∧ i = .int .i64 j ∧ Row wr B 4 ((flipsAt k (powersN.take j) L).map Value.bool) cB ∧ Whole wr w1.heap.size 3 (powersN.map fun n : Nat => Value.int .i64 (n : Int)) ∧ Keeps [] w wr) (fun i _ => 14 - (intOf i).toNat)
        case atStart => exact ⟨0, Nat.zero_le _, rfl, HS2.out, WP.out.keeps (Keeps.setCell (S := [B]) _ (by simp) _) (by simp; omega), KP.out.then (Keeps.setCell (S := [B]) _ (by simp) _) (fun x hx => .inr (by simp at hx; omega))⟩
        case round =>
          obtain ⟨j, hj, rfl, rB, wp, kp⟩ := hrel
          by_cases hj14 : j < 14
          · have hj14' : (j : Int) < 14 := by omega
            obtain ⟨q, hq, eq1, eq2⟩ := powers_get j hj14
            have pq := wp.cell j
            rw [List.getElem?_map, eq1] at pq
            simp only [Option.map_some] at pq
            have hlq : k + 32 - q < (flipsAt k (powersN.take j) L).length := by rw [flipsAt_length, HLN2.out]; omega
            have p1 := rB.cell (k + 32 - q) (v := .bool ((flipsAt k (powersN.take j) L).getD (k + 32 - q) false)) (by rw [List.getElem?_map, List.getD_eq_getElem?_getD, List.getElem?_eq_getElem hlq]; rfl)
            have fz1 := rB.frozen (k + 32 - q)
            have HS := Lib.hid (rB.set (k + 32 - q) (.bool (!(flipsAt k (powersN.take j) L).getD (k + 32 - q) false)))
            have HE := Lib.hid (show flipsAt k (powersN.take (j + 1)) L = (flipsAt k (powersN.take j) L).set (k + 32 - q) (!(flipsAt k (powersN.take j) L).getD (k + 32 - q) false) by rw [eq2, flipsAt_snoc]; rfl)
            generalize (flipsAt k (powersN.take j) L).getD (k + 32 - q) false = t at *
            have WP := Lib.hid wp
            have KP := Lib.hid kp
            have hsum : ((k : Int) + 32 - (q : Int)) = ((k + 32 - q : Nat) : Int) := by omega
            clear rB wp kp eq1 eq2 hlq
            go_wp2
            go_region
            all_goals
              go_wp2
              go_roundw
              case rel =>
                refine ⟨j + 1, by omega, by go_num, ?_, WP.out.keeps ((Keeps.setCell (S := [B]) _ (by simp) _).trans (Keeps.drew _ _)) (by simp; omega), KP.out.then ((Keeps.setCell (S := [B]) _ (by simp) _).trans (Keeps.drew _ _)) (fun x hx => .inr (by simp at hx; omega))⟩
                have := HS.out
                rw [← List.map_set, ← HE.out] at this
                exact this.keeps (Keeps.drew [] _) (by simp)
              case measure => simp [intOf]; omega
          · obtain rfl : j = 14 := by omega
            have RB := Lib.hid rB
            have WP := Lib.hid wp
            have KP := Lib.hid kp
            clear rB wp kp
            go_wp2
            go_roundw
            case rel =>
              refine ⟨k + 1, by omega, by go_num, ?_, WP.out, KP.out⟩
              have := RB.out
              rw [show powersN.take 14 = powersN from rfl, HFL2.out] at this
              exact this
            case measure => simp [intOf]; omega
    · obtain rfl : k = 8 * n := by omega
      have hcB : 8 * n < cB := by have := HM.out; omega
      have hrest : ∀ w, (Instr.sliceAt 118 (.slice (some ⟨B, 0, none⟩) (8 * n + 32) cB) (some (.int .i64 (8 * (n : Int)))) none none).run Try.prog w = .ok (.slice (some ⟨B, 8 * n, none⟩) 32 (cB - 8 * n)) w := by
        intro w
        have := run_rest w B (8 * n + 32) cB (8 * n) (by omega) hcB
        rw [show 8 * n + 32 - 8 * n = 32 by omega, show ((8 * n : Nat) : Int) = 8 * (n : Int) by omega] at this
        exact this
      have HEND := Lib.hid (fun (j : Nat) (hj : j < 32) => show wr.cell? ⟨B, 8 * n + j, none⟩ = some (.bool ((feed ones32 m).getLsbD j)) from
        rB.cell (8 * n + j) (by have := HM.out; rw [List.getElem?_map, ← this, left_end m j hj]; rfl))
      have KP := Lib.hid kp
      clear rB wp kp hlt hk
      generalize hs : feed ones32 m = s at *
      have HB := Lib.hid (fun (j : Nat) => show (~~~ s).getLsbD j = (decide (j < 32) && !s.getLsbD j) from BitVec.getLsbD_not ..)
      obtain ⟨t, ht⟩ : ∃ t : Nat, t = (~~~ s).toNat := ⟨_, rfl⟩
      have HTB := Lib.hid (fun (j : Nat) (hj : j < 32) => show t.testBit j = !s.getLsbD j by
        have := HB.out j
        rw [decide_eq_true hj, Bool.true_and] at this
        rw [← this, ht]; rfl)
      have htl : t < 4294967296 := by rw [ht]; exact (~~~ s).isLt
      have HRES := Lib.hid (show uv (crcOf l) = .int .u32 (t : Int) by rw [HCR.out, ht])
      clear ht hs HB
      obtain ⟨wo, rfl⟩ : ∃ wo : World, wo = wr := ⟨_, rfl⟩
      go_wp2
      go_loop [8, 9] (fun o i => ∃ j : Nat, j ≤ 32 ∧ i = .int .i64 ((j : Int) - 1) ∧ o = .int .u32 ((t / 2 ^ j : Nat) : Int)) (fun _ i => (intOf i + 1).toNat)
      case atStart => exact ⟨32, Nat.le_refl _, rfl, by rw [Nat.div_eq_of_lt (by simpa using htl)]; rfl⟩
      case round =>
        obtain ⟨j, hj, rfl, rfl⟩ := hrel
        by_cases hj0 : 0 < j
        · obtain ⟨i, rfl⟩ : ∃ i, j = i + 1 := ⟨j - 1, by omega⟩
          have c0 := HEND.out i (by omega)
          have hb := HTB.out i (by omega)
          have hh := half_step t i
          rw [hb] at hh
          have hx : t / 2 ^ (i + 1) < 2147483648 := by
            have : t / 2 ^ (i + 1) ≤ t / 2 ^ 1 := Nat.div_le_div_left (Nat.pow_le_pow_right (by decide) (by omega)) (by decide)
            omega
          have hi1 : ((i + 1 : Nat) : Int) - 1 = (i : Int) := by omega
          rw [hi1]
          generalize t / 2 ^ (i + 1) = x at *
          have HH := Lib.hid hh
          clear hh hb hi1
          generalize s.getLsbD i = bt at *
          cases bt
          all_goals
            go_wp2
            go_round
            case rel => exact ⟨i, by omega, by go_num, by rw [HH.out]; simp; try omega⟩
            case measure => simp [intOf]; try omega
        · obtain rfl : j = 0 := by omega
          go_wp2
          go_ret
          rw [HRES.out]
          exact ⟨by simp, KP.out⟩
end Go.Proofs.Ytdcfcljgennipaa
