/-
  The document's CRC: its bits, and its powers.
-/
import Derived.Test.YtdcfcljgennipaaCrcO
import Derived.Test.YtdcfcljgennipaaOwn
import Derived.Test.YtdcfcljgennipaaArgs
import Derived.OwnWalk
namespace Go.Proofs.Ytdcfcljgennipaa
open Go.RowKit Go.Deep

theorem infoBool : (Try.prog.info? 4).map (fun i => (i.zero, i.size, i.bytes)) = some (some (.bool false), 1, 1) := by kernel_rfl

def powers2 : List Nat := [26, 23, 22, 16, 12, 11, 10, 8, 7, 5, 4, 2, 1, 0]

set_option maxRecDepth 100000 in
set_option maxHeartbeats 400000 in
theorem R2powers_any (w : World) : Calls Try.prog 87 #[] w fun e w' => e = .returned (.slice (some ⟨w.heap.size, 0, none⟩) 14 14) ∧ w.alloc (.cells (powers2.map fun n : Nat => Value.int .i64 (n : Int)).toArray 3) = w' := by
  go_enter Try.func87, Try.ntmps87
  go_wp2
  go_ret
  exact ⟨rfl, rfl⟩

/-- The first i bits turned. -/
def turned (L : List Bool) (i : Nat) : List Bool := L.mapIdx fun j x => x ^^ decide (j < i)

theorem turned_length (L : List Bool) (i : Nat) : (turned L i).length = L.length := by simp [turned]
theorem turned_zero (L : List Bool) : turned L 0 = L := by
  apply List.ext_getElem?; intro j; simp [turned]
theorem turned_get (L : List Bool) (i j : Nat) : (turned L i)[j]? = (L[j]?).map fun x => x ^^ decide (j < i) := by simp [turned]
theorem turned_here (L : List Bool) (i : Nat) (h : i < L.length) : (turned L i)[i]? = some L[i] := by
  rw [turned_get, List.getElem?_eq_getElem h]; simp
theorem turned_set (L : List Bool) (i : Nat) (h : i < L.length) : (turned L i).set i (!L[i]) = turned L (i + 1) := by
  apply List.ext_getElem?
  intro j
  rw [List.getElem?_set, turned_get, turned_get, turned_length]
  by_cases e : i = j
  · subst e; rw [if_pos rfl, if_pos h, List.getElem?_eq_getElem h]; simp
  · rw [if_neg e]
    congr 1; funext x; congr 1; apply decide_eq_decide.2; omega
theorem turned_left (m : List Bool) : turned (m ++ List.replicate 32 false) 32 = left m 0 := by
  apply List.ext_getElem?
  intro j
  rw [turned_get, left_zero]

theorem bits_take (l : List UInt8) (k : Nat) (c : UInt8) (h : l[k]? = some c) : bitsOf (l.take (k + 1)) = bitsOf (l.take k) ++ byteBits c := by
  rw [List.take_add_one, h]
  unfold bitsOf
  rw [List.flatMap_append]
  simp

theorem byteBits_take (c : UInt8) (j : Nat) (h : j < 8) : (byteBits c).take (j + 1) = (byteBits c).take j ++ [c.toNat.testBit j] := by
  rw [List.take_succ_eq_append_getElem (by rw [byteBits_length]; exact h)]
  simp [byteBits]

theorem testBit_mod (n j : Nat) : ((((n / 2 ^ j : Nat) : Int) % 2 == 1) : Bool) = n.testBit j := by
  rw [Nat.testBit_eq_decide_div_mod_eq]
  generalize n / 2 ^ j = y
  rw [Bool.eq_iff_iff, beq_iff_eq, decide_eq_true_iff]
  omega

set_option maxRecDepth 100000 in
set_option maxHeartbeats 4000000 in
theorem R2bits_any (w : World) (p : Option Addr) (l : List UInt8) (cap : Nat) (hl : l.length ≤ 5000) (hc : ∀ i c, l[i]? = some c → ∃ M off, p = some ⟨M, off, none⟩ ∧ w.cell? ⟨M, off + i, none⟩ = some (bv c)) :
    Calls Try.prog 86 #[.slice p l.length cap, .int .i64 32] w fun e w' => ∃ b c, e = .returned (.slice (some ⟨b, 0, none⟩) (8 * l.length + 32) c) ∧ w.heap.size ≤ b ∧ Row w' b 4 ((left (bitsOf l) 0).map Value.bool) c ∧ Keeps [] w w' := by
  obtain ⟨i0, hi, hz0, hz1, hz2⟩ := info_parts infoBool
  have HC := Lib.hid hc
  clear hc
  go_enter Try.func86, Try.ntmps86
  go_wp2
  go_loopw [5, 6] (fun v i wr => ∃ (k : Nat) (ao : Option Addr) (cp : Nat), k ≤ l.length ∧ i = .int .i64 k ∧ v = .slice ao (8 * k) cp ∧ wr.ownsRow w.heap.size 4 1 (.slice ao (8 * k) cp) (8 * k) ((bitsOf (l.take k)).map Value.bool) ∧ Keeps [] w wr) (fun _ i _ => l.length - (intOf i).toNat)
  case atStart => exact ⟨0, none, 0, Nat.zero_le _, rfl, rfl, World.ownsRow_nil _ _ _ _, Keeps.refl _ _⟩
  case round =>
    obtain ⟨k, ao, cp, hk, rfl, rfl, hown, kp⟩ := hrel
    by_cases hlt : k < l.length
    · have hlt' : (k : Int) < l.length := by omega
      have hck : l[k]? = some (l.getD k 0) := by simp [List.getD, List.getElem?_eq_getElem hlt]
      obtain ⟨M, off, rfl, hcell⟩ := HC.out k _ hck
      have p0 := kp.cell hcell (by simp)
      have HT := Lib.hid (bits_take l k _ hck)
      generalize l.getD k 0 = c at *
      have hcb : c.toNat < 256 := c.toNat_lt
      have HO := Lib.hid hown
      have KP := Lib.hid kp
      clear hown kp hcell hck
      unfold bv at p0
      obtain ⟨wo, rfl⟩ : ∃ wo : World, wo = wr := ⟨_, rfl⟩
      go_wp2
      go_loopw [5, 7, 8] (fun v x i wr => ∃ (j : Nat) (ao : Option Addr) (cp : Nat), j ≤ 8 ∧ i = .int .i64 j ∧ x = .int .u8 ((c.toNat / 2 ^ j : Nat) : Int) ∧ v = .slice ao (8 * k + j) cp ∧ wr.ownsRow w.heap.size 4 1 (.slice ao (8 * k + j) cp) (8 * k + j) ((bitsOf (l.take k) ++ (byteBits c).take j).map Value.bool) ∧ Keeps [] w wr) (fun _ _ i _ => 8 - (intOf i).toNat)
      case atStart => exact ⟨0, ao, cp, Nat.zero_le _, rfl, by simp, rfl, by simpa using HO.out, KP.out⟩
      case round =>
        obtain ⟨j, ao, cp, hj, rfl, rfl, rfl, hown, kp⟩ := hrel
        have HO := Lib.hid hown
        have KP := Lib.hid kp
        clear hown kp
        by_cases hlt8 : j < 8
        · have hlt8' : (j : Int) < 8 := by omega
          have ht := testBit_mod c.toNat j
          have HB := Lib.hid (byteBits_take c j hlt8)
          have HD := Lib.hid (show c.toNat / 2 ^ j / 2 = c.toNat / 2 ^ (j + 1) by rw [Nat.div_div_eq_div_mul, Nat.pow_succ])
          have hy : c.toNat / 2 ^ j < 256 := Nat.lt_of_le_of_lt (Nat.div_le_self _ _) hcb
          generalize c.toNat / 2 ^ j = y at *
          generalize c.toNat.testBit j = t at *
          generalize (byteBits c).take j = bj at *
          go_wp2_with (at_builtin; refine wpList_append_own _ rfl _ _ 118 rfl w.heap.size 4 i0 (.bool false) 1 1 Try.underlying118 hi hz0 hz1 hz2 rfl (by decide) (.slice ao (8 * k + j) cp) (8 * k + j) ((bitsOf (l.take k) ++ bj).map Value.bool) rfl (HO.out.alloc _) ⟨wr.heap.size, 0, none⟩ 1 1 [.bool t] rfl rfl ?c1 ?c2 ?c3 ?c4 ?c5 ?_)
          case c1 =>
            intro i u hu
            rw [Addr.add_off, Nat.zero_add, cell_alloc_new]
            match i, hu with
            | 0, hu => simpa using hu
          case c2 => intro u hu; simp at hu; subst hu; rfl
          case c3 => unfold maxLen; omega
          case c4 => omega
          case c5 => have := KP.out.size; simp; omega
          intro v' w1 hown1 hg1 _
          have KP1 := Lib.hid ((KP.out.trans (Keeps.alloc [] wr _)).owned2 (HO.out.alloc _) hg1)
          obtain ⟨ao', cp', rfl⟩ := owns_shape2 hown1
          have HO1 := Lib.hid hown1
          clear hown1 hg1
          go_wp2
          go_roundw
          case rel =>
            refine ⟨j + 1, ao', cp', by omega, by go_num, by rw [← HD.out]; go_num, rfl, ?_, KP1.out⟩
            rw [HB.out]
            have := HO1.out
            simpa [List.append_assoc, Nat.add_assoc] using this
          case measure => simp [intOf]; omega
        · obtain rfl : j = 8 := by omega
          have HB := Lib.hid (show (byteBits c).take 8 = byteBits c from List.take_of_length_le (by rw [byteBits_length]; exact Nat.le_refl _))
          go_wp2
          go_roundw
          case rel =>
            refine ⟨k + 1, ao, cp, by omega, by go_num, rfl, ?_, KP.out⟩
            have := HO.out
            rw [HB.out, ← HT.out] at this
            exact this
          case measure => simp [intOf]; omega
    · obtain rfl : k = l.length := by omega
      rw [List.take_length] at hown
      have HO := Lib.hid hown
      have KP := Lib.hid kp
      clear hown kp
      have hbl := bitsOf_length l
      have HBL := Lib.hid hbl
      clear hbl
      obtain ⟨wo, rfl⟩ : ∃ wo : World, wo = wr := ⟨_, rfl⟩
      go_wp2
      go_loopw [5, 9] (fun v i wr => ∃ (k : Nat) (ao : Option Addr) (cp : Nat), k ≤ 32 ∧ i = .int .i64 k ∧ v = .slice ao (8 * l.length + k) cp ∧ wr.ownsRow w.heap.size 4 1 (.slice ao (8 * l.length + k) cp) (8 * l.length + k) ((bitsOf l ++ List.replicate k false).map Value.bool) ∧ Keeps [] w wr) (fun _ i _ => 32 - (intOf i).toNat)
      case atStart => exact ⟨0, ao, cp, Nat.zero_le _, rfl, rfl, by simpa using HO.out, KP.out⟩
      case round =>
        obtain ⟨k, ao, cp, hk, rfl, rfl, hown, kp⟩ := hrel
        have HO := Lib.hid hown
        have KP := Lib.hid kp
        clear hown kp
        by_cases hlt : k < 32
        · have hlt' : (k : Int) < 32 := by omega
          go_wp2_with (at_builtin; refine wpList_append_own _ rfl _ _ 118 rfl w.heap.size 4 i0 (.bool false) 1 1 Try.underlying118 hi hz0 hz1 hz2 rfl (by decide) (.slice ao (8 * l.length + k) cp) (8 * l.length + k) ((bitsOf l ++ List.replicate k false).map Value.bool) rfl (HO.out.alloc _) ⟨wr.heap.size, 0, none⟩ 1 1 [.bool false] rfl rfl ?d1 ?d2 ?d3 ?d4 ?d5 ?_)
          case d1 =>
            intro i u hu
            rw [Addr.add_off, Nat.zero_add, cell_alloc_new]
            match i, hu with
            | 0, hu => simpa using hu
          case d2 => intro u hu; simp at hu; subst hu; rfl
          case d3 => unfold maxLen; omega
          case d4 => omega
          case d5 => have := KP.out.size; simp; omega
          intro v' w1 hown1 hg1 _
          have KP1 := Lib.hid ((KP.out.trans (Keeps.alloc [] wr _)).owned2 (HO.out.alloc _) hg1)
          obtain ⟨ao', cp', rfl⟩ := owns_shape2 hown1
          have HO1 := Lib.hid hown1
          clear hown1 hg1
          go_wp2
          go_roundw
          case rel =>
            refine ⟨k + 1, ao', cp', by omega, by go_num, rfl, ?_, KP1.out⟩
            have := HO1.out
            rw [List.replicate_succ']
            simpa [List.append_assoc, Nat.add_assoc] using this
          case measure => simp [intOf]; omega
        · obtain rfl : k = 32 := by omega
          obtain ⟨b, cq, hv, hb, hR⟩ := Row.ofOwns HO.out (by intro e; simp at e)
          simp at hv
          obtain ⟨rfl, rfl⟩ := hv
          have HR := Lib.hid hR
          have HLL := Lib.hid (show (bitsOf l ++ List.replicate 32 false).length = 8 * l.length + 32 by rw [List.length_append, HBL.out, List.length_replicate])
          clear hR HO
          generalize hL : bitsOf l ++ List.replicate 32 false = L at *
          have HL := Lib.hid hL
          clear hL
          obtain ⟨wo, rfl⟩ : ∃ wo : World, wo = wr := ⟨_, rfl⟩
          go_wp2
          go_loopw [10] (fun i wr => ∃ k : Nat, k ≤ 32 ∧ i = .int .i64 k ∧ Row wr b 4 ((turned L k).map Value.bool) cp ∧ Keeps [] w wr) (fun i _ => 32 - (intOf i).toNat)
          case atStart => exact ⟨0, Nat.zero_le _, rfl, by rw [turned_zero]; exact HR.out, KP.out⟩
          case round =>
            obtain ⟨k, hk, rfl, rB, kp⟩ := hrel
            by_cases hlt : k < 32
            · have hlt' : (k : Int) < 32 := by omega
              have hkl : k < L.length := by have := HLL.out; omega
              have p0 := rB.cell k (v := .bool L[k]) (by rw [List.getElem?_map, turned_here L k hkl]; rfl)
              have fz := rB.frozen k
              have HS := Lib.hid (rB.set k (.bool (!L[k])))
              have HT := Lib.hid (turned_set L k hkl)
              have KP := Lib.hid kp
              generalize L[k] = t at *
              clear rB kp
              go_wp2
              go_roundw
              case rel =>
                refine ⟨k + 1, by omega, by go_num, ?_, KP.out.then (Keeps.setCell (S := [b]) _ (by simp) _) (fun x hx => .inr (by simp at hx; omega))⟩
                have := HS.out
                rw [← List.map_set, HT.out] at this
                exact this
              case measure => simp [intOf]; omega
            · obtain rfl : k = 32 := by omega
              rw [← HL.out, turned_left] at rB
              have RB := Lib.hid rB
              have KP := Lib.hid kp
              clear rB kp
              go_wp2
              go_ret
              exact ⟨b, cp, rfl, hb, RB.out, KP.out⟩
end Go.Proofs.Ytdcfcljgennipaa
