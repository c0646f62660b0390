/-
  The document's CRC: its bits, and its powers.
  The document's CRC, walked.
-/
import Derived.Test.YtdcfcljgennipaaCrcMath
import Derived.Test.YtdcfcljgennipaaGround
import Derived.OwnWalk
namespace Go.Proofs.Ytdcfcljgennipaa
open Go.RowKit Go.Deep

theorem infoBool : (Try.prog.info? 4).map (fun i => (i.zero, i.size, i.bytes)) = some (some (.bool false), 1, 1) := by kernel_rfl

def powers2 : List Nat := [26, 23, 22, 16, 12, 11, 10, 8, 7, 5, 4, 2, 1, 0]

set_option maxRecDepth 100000 in
set_option maxHeartbeats 400000 in
theorem R2powers_any (w : World) : Calls Try.prog 87 #[] w fun e w' => e = .returned (.slice (some ⟨w.heap.size, 0, none⟩) 14 14) ∧ w.alloc (.cells (powers2.map fun n : Nat => Value.int .i64 (n : Int)).toArray 3) = w' := by
  go_enter Try.func87, Try.ntmps87
  go_wp2
  go_ret
  exact ⟨rfl, rfl⟩

/-- The first i bits turned. -/
def turned (L : List Bool) (i : Nat) : List Bool := L.mapIdx fun j x => x ^^ decide (j < i)

theorem turned_length (L : List Bool) (i : Nat) : (turned L i).length = L.length := by simp [turned]
theorem turned_zero (L : List Bool) : turned L 0 = L := by
  apply List.ext_getElem?; intro j; simp [turned]
theorem turned_get (L : List Bool) (i j : Nat) : (turned L i)[j]? = (L[j]?).map fun x => x ^^ decide (j < i) := by simp [turned]
theorem turned_here (L : List Bool) (i : Nat) (h : i < L.length) : (turned L i)[i]? = some L[i] := by
  rw [turned_get, List.getElem?_eq_getElem h]; simp
theorem turned_set (L : List Bool) (i : Nat) (h : i < L.length) : (turned L i).set i (!L[i]) = turned L (i + 1) := by
  apply List.ext_getElem?
  intro j
  rw [List.getElem?_set, turned_get, turned_get, turned_length]
  by_cases e : i = j
  · subst e; rw [if_pos rfl, if_pos h, List.getElem?_eq_getElem h]; simp
  · rw [if_neg e]
    congr 1; funext x; congr 1; apply decide_eq_decide.2; omega
theorem turned_left (m : List Bool) : turned (m ++ List.replicate 32 false) 32 = left m 0 := by
  apply List.ext_getElem?
  intro j
  rw [turned_get, left_zero]

theorem bits_take (l : List UInt8) (k : Nat) (c : UInt8) (h : l[k]? = some c) : bitsOf (l.take (k + 1)) = bitsOf (l.take k) ++ byteBits c := by
  rw [List.take_add_one, h]
  unfold bitsOf
  rw [List.flatMap_append]
  simp

theorem byteBits_take (c : UInt8) (j : Nat) (h : j < 8) : (byteBits c).take (j + 1) = (byteBits c).take j ++ [c.toNat.testBit j] := by
  rw [List.take_succ_eq_append_getElem (by rw [byteBits_length]; exact h)]
  simp [byteBits]

theorem testBit_mod (n j : Nat) : ((((n / 2 ^ j : Nat) : Int) % 2 == 1) : Bool) = n.testBit j := by
  rw [Nat.testBit_eq_decide_div_mod_eq]
  generalize n / 2 ^ j = y
  rw [Bool.eq_iff_iff, beq_iff_eq, decide_eq_true_iff]
  omega

set_option maxRecDepth 100000 in
set_option maxHeartbeats 4000000 in
theorem R2bits_any (w : World) (p : Option Addr) (l : List UInt8) (cap : Nat) (hl : l.length ≤ 5000) (hc : ∀ i c, l[i]? = some c → ∃ M off, p = some ⟨M, off, none⟩ ∧ w.cell? ⟨M, off + i, none⟩ = some (bv c)) :
    Calls Try.prog 86 #[.slice p l.length cap, .int .i64 32] w fun e w' => ∃ b c, e = .returned (.slice (some ⟨b, 0, none⟩) (8 * l.length + 32) c) ∧ w.heap.size ≤ b ∧ Row w' b 4 ((left (bitsOf l) 0).map Value.bool) c ∧ Keeps [] w w' := by
  obtain ⟨i0, hi, hz0, hz1, hz2⟩ := info_parts infoBool
  have HC := Lib.hid hc
  clear hc
  go_enter Try.func86, Try.ntmps86
  go_wp2
  go_loopw [5, 6] (fun v i wr => ∃ (k : Nat) (ao : Option Addr) (cp : Nat), k ≤ l.length ∧ i = .int .i64 k ∧ v = .slice ao (8 * k) cp ∧ wr.ownsRow w.heap.size 4 1 (.slice ao (8 * k) cp) (8 * k) ((bitsOf (l.take k)).map Value.bool) ∧ Keeps [] w wr) (fun _ i _ => l.length - (intOf i).toNat)
  case atStart => exact ⟨0, none, 0, Nat.zero_le _, rfl, rfl, World.ownsRow_nil _ _ _ _, Keeps.refl _ _⟩
  case round =>
    obtain ⟨k, ao, cp, hk, rfl, rfl, hown, kp⟩ := hrel
    by_cases hlt : k < l.length
    · have hlt' : (k : Int) < l.length := by omega
      have hck : l[k]? = some (l.getD k 0) := by simp [List.getD, List.getElem?_eq_getElem hlt]
      obtain ⟨M, off, rfl, hcell⟩ := HC.out k _ hck
      have p0 := kp.cell hcell (by simp)
      have HT := Lib.hid (bits_take l k _ hck)
      generalize l.getD k 0 = c at *
      have hcb : c.toNat < 256 := c.toNat_lt
      have HO := Lib.hid hown
      have KP := Lib.hid kp
      clear hown kp hcell hck
      unfold bv at p0
      obtain ⟨wo, rfl⟩ : ∃ wo : World, wo = wr := ⟨_, rfl⟩
      go_wp2
      go_loopw [5, 7, 8] (fun v x i wr => ∃ (j : Nat) (ao : Option Addr) (cp : Nat), j ≤ 8 ∧ i = .int .i64 j ∧ x = .int .u8 ((c.toNat / 2 ^ j : Nat) : Int) ∧ v = .slice ao (8 * k + j) cp ∧ wr.ownsRow w.heap.size 4 1 (.slice ao (8 * k + j) cp) (8 * k + j) ((bitsOf (l.take k) ++ (byteBits c).take j).map Value.bool) ∧ Keeps [] w wr) (fun _ _ i _ => 8 - (intOf i).toNat)
      case atStart => exact ⟨0, ao, cp, Nat.zero_le _, rfl, by simp, rfl, by simpa using HO.out, KP.out⟩
      case round =>
        obtain ⟨j, ao, cp, hj, rfl, rfl, rfl, hown, kp⟩ := hrel
        have HO := Lib.hid hown
        have KP := Lib.hid kp
        clear hown kp
        by_cases hlt8 : j < 8
        · have hlt8' : (j : Int) < 8 := by omega
          have ht := testBit_mod c.toNat j
          have HB := Lib.hid (byteBits_take c j hlt8)
          have HD := Lib.hid (show c.toNat / 2 ^ j / 2 = c.toNat / 2 ^ (j + 1) by rw [Nat.div_div_eq_div_mul, Nat.pow_succ])
          have hy : c.toNat / 2 ^ j < 256 := Nat.lt_of_le_of_lt (Nat.div_le_self _ _) hcb
          generalize c.toNat / 2 ^ j = y at *
          generalize c.toNat.testBit j = t at *
          generalize (byteBits c).take j = bj at *
          go_wp2_with (at_builtin; refine wpList_append_own _ rfl _ _ 118 rfl w.heap.size 4 i0 (.bool false) 1 1 Try.underlying118 hi hz0 hz1 hz2 rfl (by decide) (.slice ao (8 * k + j) cp) (8 * k + j) ((bitsOf (l.take k) ++ bj).map Value.bool) rfl (HO.out.alloc _) ⟨wr.heap.size, 0, none⟩ 1 1 [.bool t] rfl rfl ?c1 ?c2 ?c3 ?c4 ?c5 ?_)
          case c1 =>
            intro i u hu
            rw [Addr.add_off, Nat.zero_add, cell_alloc_new]
            match i, hu with
            | 0, hu => simpa using hu
          case c2 => intro u hu; simp at hu; subst hu; rfl
          case c3 => unfold maxLen; omega
          case c4 => omega
          case c5 => have := KP.out.size; simp; omega
          intro v' w1 hown1 hg1 _
          have KP1 := Lib.hid ((KP.out.trans (Keeps.alloc [] wr _)).owned2 (HO.out.alloc _) hg1)
          obtain ⟨ao', cp', rfl⟩ := owns_shape2 hown1
          have HO1 := Lib.hid hown1
          clear hown1 hg1
          go_wp2
          go_roundw
          case rel =>
            refine ⟨j + 1, ao', cp', by omega, by go_num, by rw [← HD.out]; go_num, rfl, ?_, KP1.out⟩
            rw [HB.out]
            have := HO1.out
            simpa [List.append_assoc, Nat.add_assoc] using this
          case measure => simp [intOf]; omega
        · obtain rfl : j = 8 := by omega
          have HB := Lib.hid (show (byteBits c).take 8 = byteBits c from List.take_of_length_le (by rw [byteBits_length]; exact Nat.le_refl _))
          go_wp2
          go_roundw
          case rel =>
            refine ⟨k + 1, ao, cp, by omega, by go_num, rfl, ?_, KP.out⟩
            have := HO.out
            rw [HB.out, ← HT.out] at this
            exact this
          case measure => simp [intOf]; omega
    · obtain rfl : k = l.length := by omega
      rw [List.take_length] at hown
      have HO := Lib.hid hown
      have KP := Lib.hid kp
      clear hown kp
      have hbl := bitsOf_length l
      have HBL := Lib.hid hbl
      clear hbl
      obtain ⟨wo, rfl⟩ : ∃ wo : World, wo = wr := ⟨_, rfl⟩
      go_wp2
      go_loopw [5, 9] (fun v i wr => ∃ (k : Nat) (ao : Option Addr) (cp : Nat), k ≤ 32 ∧ i = .int .i64 k ∧ v = .slice ao (8 * l.length + k) cp ∧ wr.ownsRow w.heap.size 4 1 (.slice ao (8 * l.length + k) cp) (8 * l.length + k) ((bitsOf l ++ List.replicate k false).map Value.bool) ∧ Keeps [] w wr) (fun _ i _ => 32 - (intOf i).toNat)
      case atStart => exact ⟨0, ao, cp, Nat.zero_le _, rfl, rfl, by simpa using HO.out, KP.out⟩
      case round =>
        obtain ⟨k, ao, cp, hk, rfl, rfl, hown, kp⟩ := hrel
        have HO := Lib.hid hown
        have KP := Lib.hid kp
        clear hown kp
        by_cases hlt : k < 32
        · have hlt' : (k : Int) < 32 := by omega
          go_wp2_with (at_builtin; refine wpList_append_own _ rfl _ _ 118 rfl w.heap.size 4 i0 (.bool false) 1 1 Try.underlying118 hi hz0 hz1 hz2 rfl (by decide) (.slice ao (8 * l.length + k) cp) (8 * l.length + k) ((bitsOf l ++ List.replicate k false).map Value.bool) rfl (HO.out.alloc _) ⟨wr.heap.size, 0, none⟩ 1 1 [.bool false] rfl rfl ?d1 ?d2 ?d3 ?d4 ?d5 ?_)
          case d1 =>
            intro i u hu
            rw [Addr.add_off, Nat.zero_add, cell_alloc_new]
            match i, hu with
            | 0, hu => simpa using hu
          case d2 => intro u hu; simp at hu; subst hu; rfl
          case d3 => unfold maxLen; omega
          case d4 => omega
          case d5 => have := KP.out.size; simp; omega
          intro v' w1 hown1 hg1 _
          have KP1 := Lib.hid ((KP.out.trans (Keeps.alloc [] wr _)).owned2 (HO.out.alloc _) hg1)
          obtain ⟨ao', cp', rfl⟩ := owns_shape2 hown1
          have HO1 := Lib.hid hown1
          clear hown1 hg1
          go_wp2
          go_roundw
          case rel =>
            refine ⟨k + 1, ao', cp', by omega, by go_num, rfl, ?_, KP1.out⟩
            have := HO1.out
            rw [List.replicate_succ']
            simpa [List.append_assoc, Nat.add_assoc] using this
          case measure => simp [intOf]; omega
        · obtain rfl : k = 32 := by omega
          obtain ⟨b, cq, hv, hb, hR⟩ := Row.ofOwns HO.out (by intro e; simp at e)
          simp at hv
          obtain ⟨rfl, rfl⟩ := hv
          have HR := Lib.hid hR
          have HLL := Lib.hid (show (bitsOf l ++ List.replicate 32 false).length = 8 * l.length + 32 by rw [List.length_append, HBL.out, List.length_replicate])
          clear hR HO
          generalize hL : bitsOf l ++ List.replicate 32 false = L at *
          have HL := Lib.hid hL
          clear hL
          obtain ⟨wo, rfl⟩ : ∃ wo : World, wo = wr := ⟨_, rfl⟩
          go_wp2
          go_loopw [10] (fun i wr => ∃ k : Nat, k ≤ 32 ∧ i = .int .i64 k ∧ Row wr b 4 ((turned L k).map Value.bool) cp ∧ Keeps [] w wr) (fun i _ => 32 - (intOf i).toNat)
          case atStart => exact ⟨0, Nat.zero_le _, rfl, by rw [turned_zero]; exact HR.out, KP.out⟩
          case round =>
            obtain ⟨k, hk, rfl, rB, kp⟩ := hrel
            by_cases hlt : k < 32
            · have hlt' : (k : Int) < 32 := by omega
              have hkl : k < L.length := by have := HLL.out; omega
              have p0 := rB.cell k (v := .bool L[k]) (by rw [List.getElem?_map, turned_here L k hkl]; rfl)
              have fz := rB.frozen k
              have HS := Lib.hid (rB.set k (.bool (!L[k])))
              have HT := Lib.hid (turned_set L k hkl)
              have KP := Lib.hid kp
              generalize L[k] = t at *
              clear rB kp
              go_wp2
              go_roundw
              case rel =>
                refine ⟨k + 1, by omega, by go_num, ?_, KP.out.then (Keeps.setCell (S := [b]) _ (by simp) _) (fun x hx => .inr (by simp at hx; omega))⟩
                have := HS.out
                rw [← List.map_set, HT.out] at this
                exact this
              case measure => simp [intOf]; omega
            · obtain rfl : k = 32 := by omega
              rw [← HL.out, turned_left] at rB
              have RB := Lib.hid rB
              have KP := Lib.hid kp
              clear rB kp
              go_wp2
              go_ret
              exact ⟨b, cp, rfl, hb, RB.out, KP.out⟩
end Go.Proofs.Ytdcfcljgennipaa

namespace Go.Proofs.Ytdcfcljgennipaa
open Go.RowKit Go.Deep

theorem sizeBool (w : World) : (sizeOf 4).run Try.prog w = .ok 1 w := by
  obtain ⟨i0, hi, hz0, hz1, hz2⟩ := info_parts infoBool
  simp [sizeOf, typeInfo, hi, hz1]

theorem run_rest (w : World) (b len cap lo : Nat) (h : lo ≤ len) (hc : lo < cap) : (Instr.sliceAt 118 (.slice (some ⟨b, 0, none⟩) len cap) (some (.int .i64 lo)) none none).run Try.prog w = .ok (.slice (some ⟨b, lo, none⟩) (len - lo) (cap - lo)) w := by
  have hu : Try.prog.underlying 118 = some (.slice (Try.prog.elem 118)) := by kernel_rfl
  rw [run_sliceAt_slice _ _ _ _ _ _ hu, run_slice_l _ _ _ _ _ hu _ _ (by omega) (by omega), show Try.prog.elem 118 = 4 by kernel_rfl, sizeBool]
  simp only [Result.andThen, sliced, Int.toNat_natCast]
  rw [if_neg (by omega)]
  simp only [Option.map_some, Addr.add_off, Nat.mul_one, Nat.zero_add]

theorem powers_get (k : Nat) (h : k < 14) : ∃ p : Nat, p ≤ 26 ∧ powersN[k]? = some p ∧ powersN.take (k + 1) = powersN.take k ++ [p] := by
  have hl : k < powersN.length := h
  refine ⟨powersN[k], ?_, List.getElem?_eq_getElem hl, List.take_succ_eq_append_getElem hl⟩
  have : ∀ p ∈ powersN, p ≤ 26 := by decide
  exact this _ (List.getElem_mem _)

set_option maxRecDepth 100000 in
set_option maxHeartbeats 8000000 in
theorem R2Of_any (w : World) (p : Option Addr) (l : List UInt8) (cap : Nat) (hl : l.length ≤ 5000) (hc : ∀ i c, l[i]? = some c → ∃ M off, p = some ⟨M, off, none⟩ ∧ w.cell? ⟨M, off + i, none⟩ = some (bv c)) :
    Calls Try.prog 57 #[.slice p l.length cap] w fun e w' => e = .returned (uv (crcOf l)) ∧ Keeps [] w w' := by
  have HC := Lib.hid hc
  clear hc
  have hml := bitsOf_length l
  have HCR := Lib.hid (show crcOf l = ~~~ (feed ones32 (bitsOf l)) by unfold crcOf; rw [addl_feed])
  go_enter Try.func57, Try.ntmps57
  go_wp2_with fail
  refine (R2bits_any _ p l cap hl HC.out).mono ?_
  rintro e w1 ⟨B, cB, rfl, hB, rB, k1⟩
  have RB := Lib.hid rB
  have K1 := Lib.hid k1
  have room := rB.room
  rw [List.length_map, left_length _ _ (Nat.zero_le _)] at room
  have ltB := rB.lt
  clear rB k1
  go_wp2_with fail
  refine (R2powers_any _).mono ?_
  rintro e w2 ⟨rfl, rfl⟩
  generalize hm : bitsOf l = m at *
  generalize hn : l.length = n at *
  have HM := Lib.hid hml
  have HMM := Lib.hid hm
  clear hml hm hn HC
  go_wp2
  go_loopw [5] (fun i wr => ∃ k : Nat, k ≤ 8 * n ∧ i = .int .i64 k ∧ Row wr B 4 ((left m k).map Value.bool) cB ∧ Whole wr w1.heap.size 3 (powersN.map fun n : Nat => Value.int .i64 (n : Int)) ∧ Keeps [] w wr) (fun i _ => 8 * n - (intOf i).toNat)
  case atStart => exact ⟨0, Nat.zero_le _, rfl, RB.out.keeps (Keeps.alloc [] _ _) (by simp), Whole.new w1 _ _, K1.out.trans (Keeps.alloc [] _ _)⟩
  case round =>
    obtain ⟨k, hk, rfl, rB, wp, kp⟩ := hrel
    by_cases hlt : k < 8 * n
    · have hlt' : (k : Int) < 8 * n := by omega
      have hkm : k < m.length := by have := HM.out; omega
      have p0 := rB.cell k (v := .bool (m[k] ^^ (feed ones32 (m.take k)).getLsbD 0)) (by rw [List.getElem?_map, left_here m k hkm]; rfl)
      have fz := rB.frozen k
      have HSK := Lib.hid (left_skip m k hkm)
      have HFL := Lib.hid (left_flip m k hkm)
      have HS := Lib.hid (rB.set k (.bool false))
      have HLN := Lib.hid (left_length m k (Nat.le_of_lt hkm))
      generalize (m[k] ^^ (feed ones32 (m.take k)).getLsbD 0) = t at *
      have RB := Lib.hid rB
      have WP := Lib.hid wp
      have KP := Lib.hid kp
      clear rB wp kp
      obtain ⟨wo, rfl⟩ : ∃ wo : World, wo = wr := ⟨_, rfl⟩
      cases t
      · go_wp2
        go_roundw
        case rel => exact ⟨k + 1, by omega, by go_num, by rw [HSK.out rfl]; exact RB.out, WP.out, KP.out⟩
        case measure => simp [intOf]; omega
      · have HS2 := Lib.hid (show Row (wo.setCell ⟨B, k, none⟩ (.bool false)) B 4 (((left m k).set k false).map Value.bool) cB by rw [List.map_set]; exact HS.out)
        have HFL2 := Lib.hid (HFL.out rfl)
        have HLN2 := Lib.hid (show ((left m k).set k false).length = 8 * n + 32 by rw [List.length_set, HLN.out, HM.out])
        generalize (left m k).set k false = L at *
        clear HS HSK HFL
        go_wp2
        go_loopw [6] (fun i wr => ∃ j : Nat, j ≤ 14 ∧ i = .int .i64 j ∧ Row wr B 4 ((flipsAt k (powersN.take j) L).map Value.bool) cB ∧ Whole wr w1.heap.size 3 (powersN.map fun n : Nat => Value.int .i64 (n : Int)) ∧ Keeps [] w wr) (fun i _ => 14 - (intOf i).toNat)
        case atStart => exact ⟨0, Nat.zero_le _, rfl, HS2.out, WP.out.keeps (Keeps.setCell (S := [B]) _ (by simp) _) (by simp; omega), KP.out.then (Keeps.setCell (S := [B]) _ (by simp) _) (fun x hx => .inr (by simp at hx; omega))⟩
        case round =>
          obtain ⟨j, hj, rfl, rB, wp, kp⟩ := hrel
          by_cases hj14 : j < 14
          · have hj14' : (j : Int) < 14 := by omega
            obtain ⟨q, hq, eq1, eq2⟩ := powers_get j hj14
            have pq := wp.cell j
            rw [List.getElem?_map, eq1] at pq
            simp only [Option.map_some] at pq
            have hlq : k + 32 - q < (flipsAt k (powersN.take j) L).length := by rw [flipsAt_length, HLN2.out]; omega
            have p1 := rB.cell (k + 32 - q) (v := .bool ((flipsAt k (powersN.take j) L).getD (k + 32 - q) false)) (by rw [List.getElem?_map, List.getD_eq_getElem?_getD, List.getElem?_eq_getElem hlq]; rfl)
            have fz1 := rB.frozen (k + 32 - q)
            have HS := Lib.hid (rB.set (k + 32 - q) (.bool (!(flipsAt k (powersN.take j) L).getD (k + 32 - q) false)))
            have HE := Lib.hid (show flipsAt k (powersN.take (j + 1)) L = (flipsAt k (powersN.take j) L).set (k + 32 - q) (!(flipsAt k (powersN.take j) L).getD (k + 32 - q) false) by rw [eq2, flipsAt_snoc]; rfl)
            generalize (flipsAt k (powersN.take j) L).getD (k + 32 - q) false = t at *
            have WP := Lib.hid wp
            have KP := Lib.hid kp
            have hsum : ((k : Int) + 32 - (q : Int)) = ((k + 32 - q : Nat) : Int) := by omega
            clear rB wp kp eq1 eq2 hlq
            go_wp2
            go_region
            all_goals
              go_wp2
              go_roundw
              case rel =>
                refine ⟨j + 1, by omega, by go_num, ?_, WP.out.keeps ((Keeps.setCell (S := [B]) _ (by simp) _).trans (Keeps.drew _ _)) (by simp; omega), KP.out.then ((Keeps.setCell (S := [B]) _ (by simp) _).trans (Keeps.drew _ _)) (fun x hx => .inr (by simp at hx; omega))⟩
                have := HS.out
                rw [← List.map_set, ← HE.out] at this
                exact this.keeps (Keeps.drew [] _) (by simp)
              case measure => simp [intOf]; omega
          · obtain rfl : j = 14 := by omega
            have RB := Lib.hid rB
            have WP := Lib.hid wp
            have KP := Lib.hid kp
            clear rB wp kp
            go_wp2
            go_roundw
            case rel =>
              refine ⟨k + 1, by omega, by go_num, ?_, WP.out, KP.out⟩
              have := RB.out
              rw [show powersN.take 14 = powersN from rfl, HFL2.out] at this
              exact this
            case measure => simp [intOf]; omega
    · obtain rfl : k = 8 * n := by omega
      have hcB : 8 * n < cB := by have := HM.out; omega
      have hrest : ∀ w, (Instr.sliceAt 118 (.slice (some ⟨B, 0, none⟩) (8 * n + 32) cB) (some (.int .i64 (8 * (n : Int)))) none none).run Try.prog w = .ok (.slice (some ⟨B, 8 * n, none⟩) 32 (cB - 8 * n)) w := by
        intro w
        have := run_rest w B (8 * n + 32) cB (8 * n) (by omega) hcB
        rw [show 8 * n + 32 - 8 * n = 32 by omega, show ((8 * n : Nat) : Int) = 8 * (n : Int) by omega] at this
        exact this
      have HEND := Lib.hid (fun (j : Nat) (hj : j < 32) => show wr.cell? ⟨B, 8 * n + j, none⟩ = some (.bool ((feed ones32 m).getLsbD j)) from
        rB.cell (8 * n + j) (by have := HM.out; rw [List.getElem?_map, ← this, left_end m j hj]; rfl))
      have KP := Lib.hid kp
      clear rB wp kp hlt hk
      generalize hs : feed ones32 m = s at *
      have HB := Lib.hid (fun (j : Nat) => show (~~~ s).getLsbD j = (decide (j < 32) && !s.getLsbD j) from BitVec.getLsbD_not ..)
      obtain ⟨t, ht⟩ : ∃ t : Nat, t = (~~~ s).toNat := ⟨_, rfl⟩
      have HTB := Lib.hid (fun (j : Nat) (hj : j < 32) => show t.testBit j = !s.getLsbD j by
        have := HB.out j
        rw [decide_eq_true hj, Bool.true_and] at this
        rw [← this, ht]; rfl)
      have htl : t < 4294967296 := by rw [ht]; exact (~~~ s).isLt
      have HRES := Lib.hid (show uv (crcOf l) = .int .u32 (t : Int) by rw [HCR.out, ht])
      clear ht hs HB
      obtain ⟨wo, rfl⟩ : ∃ wo : World, wo = wr := ⟨_, rfl⟩
      go_wp2
      go_loop [8, 9] (fun o i => ∃ j : Nat, j ≤ 32 ∧ i = .int .i64 ((j : Int) - 1) ∧ o = .int .u32 ((t / 2 ^ j : Nat) : Int)) (fun _ i => (intOf i + 1).toNat)
      case atStart => exact ⟨32, Nat.le_refl _, rfl, by rw [Nat.div_eq_of_lt (by simpa using htl)]; rfl⟩
      case round =>
        obtain ⟨j, hj, rfl, rfl⟩ := hrel
        by_cases hj0 : 0 < j
        · obtain ⟨i, rfl⟩ : ∃ i, j = i + 1 := ⟨j - 1, by omega⟩
          have c0 := HEND.out i (by omega)
          have hb := HTB.out i (by omega)
          have hh := half_step t i
          rw [hb] at hh
          have hx : t / 2 ^ (i + 1) < 2147483648 := by
            have : t / 2 ^ (i + 1) ≤ t / 2 ^ 1 := Nat.div_le_div_left (Nat.pow_le_pow_right (by decide) (by omega)) (by decide)
            omega
          have hi1 : ((i + 1 : Nat) : Int) - 1 = (i : Int) := by omega
          rw [hi1]
          generalize t / 2 ^ (i + 1) = x at *
          have HH := Lib.hid hh
          clear hh hb hi1
          generalize s.getLsbD i = bt at *
          cases bt
          all_goals
            go_wp2
            go_round
            case rel => exact ⟨i, by omega, by go_num, by rw [HH.out]; simp; try omega⟩
            case measure => simp [intOf]; try omega
        · obtain rfl : j = 0 := by omega
          go_wp2
          go_ret
          rw [HRES.out]
          exact ⟨by simp, KP.out⟩
end Go.Proofs.Ytdcfcljgennipaa
