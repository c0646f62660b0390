/-
  Contracts of the document's sum: the text, filled.
-/
import Derived.Test.YtlnmbfddhdjioaaDoorShaLongE
import Derived.Test.YtlnmbfddhdjioaaDoorShaPartsA
import Derived.Maps.AppendAt
namespace Go.Proofs.YtlnmbfddhdjioaaDoor
open Go.RowKit

def sliceLen : Value → Nat
  | .slice _ n _ => n
  | _ => 0

/-- The text, filled with z zeros and k bytes of its length. -/
def filK (l : List UInt8) (z k : Nat) : List UInt8 := l ++ (128 :: (List.replicate z 0 ++ (be64 l.length).take k))

theorem filK_length (l : List UInt8) (z k : Nat) (hk : k ≤ 8) : (filK l z k).length = l.length + 1 + z + k := by
  simp [filK, be64_length]; omega

theorem filK_zero (l : List UInt8) (z : Nat) : filK l (z + 1) 0 = filK l z 0 ++ [0] := by
  simp [filK, List.replicate_succ']

theorem filK_succ (l : List UInt8) (z k : Nat) (hk : k < 8) : filK l z (k + 1) = filK l z k ++ [UInt8.ofNat (8 * l.length / 2 ^ (56 - 8 * k))] := by
  unfold filK
  rw [List.take_add_one, be64_get l.length k hk]
  simp

theorem filK_all (l : List UInt8) : filK l ((119 - l.length % 64) % 64) 8 = l ++ padb l.length := by
  unfold filK padb; rw [List.take_of_length_le (by rw [be64_length]; omega)]

set_option maxHeartbeats 4000000 in
theorem Filled_any (w : World) (v : Value) (l : List UInt8) (M : Nat) (hr : Reads w v l M) (hn : l.length ≤ 100000) :
    Calls Tryd.prog 17 #[v] w fun e w' => ∃ b c, e = .returned (.slice (some ⟨b, 0, none⟩) (l ++ padb l.length).length c) ∧ w.heap.size ≤ b ∧ Row w' b 5 ((l ++ padb l.length).map bv) c ∧ Keeps [] w w' := by
  obtain ⟨i0, hi, hz0, hz1, hz2⟩ := info_parts infoByte
  obtain ⟨a, cap, rfl, hcap⟩ := hr.shape
  have HRD := Lib.hid hr
  clear hr
  go_enter Tryd.func17, Tryd.ntmps17
  go_wp2_with (at_builtin; refine wpList_append_reads rfl (.tmp 6) (.tmp 7) rfl w.heap.size (.slice (some ⟨w.heap.size, 0, none⟩) 0 0) [] rfl ?c0 (.slice a l.length cap) l M rfl ?c1 ?c2 ?c3 ?_)
  case c0 => exact (Whole.new w 5 []).owns (ys := []) (Nat.le_refl _) rfl rfl (by unfold maxLen; omega)
  case c1 => exact HRD.out.keeps (Keeps.alloc [] _ _) (by simp)
  case c2 => simp; omega
  case c3 => simp
  intro v1 w1 hown1 hk1
  have HO1 := Lib.hid hown1
  have K1 := Lib.hid ((Keeps.alloc [] w (.cells #[] 5)).then hk1 (fun x hx => .inr (by simp [Value.ownBlock] at hx; omega)))
  clear hown1 hk1
  have HO1 := Lib.hid (show w1.ownsRow w.heap.size 5 1 v1 l.length (l.map bv) from HO1.out)
  have LS := Lib.hid K1.out.size
  go_wp2_with (at_builtin; refine wpList_append_own _ rfl _ _ 22 rfl w.heap.size 5 i0 (.int .u8 0) 1 1 Tryd.underlying22 hi hz0 hz1 hz2 rfl (by decide) v1 l.length (l.map bv) rfl (HO1.out.alloc _) ⟨w1.heap.size, 0, none⟩ 1 1 [.int .u8 128] rfl rfl (cell_one_new _ _ _) ?d2 ?d3 ?d4 ?d5 ?_)
  case d2 => first | rfl | (intro u hu; simp at hu; subst hu; rfl)
  case d3 => first | omega | (unfold maxLen; omega)
  case d4 => omega
  case d5 => have := LS.out; first | omega | (simp only [World.size_alloc]; omega)
  intro v2 w2 hown2 hg2 _
  have K2 := Lib.hid ((K1.out.trans (Keeps.alloc [] w1 _)).owned2 (HO1.out.alloc _) hg2)
  rw [show l.map bv ++ [Value.int .u8 128] = (filK l 0 0).map bv by simp [filK, bv]] at hown2
  obtain ⟨ao, cp, rfl⟩ := owns_shape2 hown2
  have HO2 := Lib.hid hown2
  clear hown2 hg2 HO1 K1 LS
  obtain ⟨Z, hZ⟩ : ∃ Z, Z = (119 - l.length % 64) % 64 := ⟨_, rfl⟩
  have HZ := Lib.hid hZ
  have hZ64 : Z < 64 := by omega
  clear hZ
  go_wp2
  go_loopw [3] (fun v wr => ∃ (z q : Nat) (ao : Option Addr) (cp : Nat), z ≤ Z ∧ q = l.length + 1 + z ∧ v = .slice ao q cp ∧ wr.ownsRow w.heap.size 5 1 (.slice ao q cp) q ((filK l z 0).map bv) ∧ Keeps [] w wr) (fun v _ => l.length + 1 + Z - sliceLen v)
  case atStart => exact ⟨0, l.length + 1, ao, cp, Nat.zero_le _, rfl, rfl, HO2.out, K2.out⟩
  case round =>
    clear HO2 K2
    obtain ⟨z, q, ao, cp, hz, hq, rfl, hown, kp⟩ := hrel
    have HO := Lib.hid hown
    have KP := Lib.hid kp
    clear hown kp
    have hzz := HZ.out
    have hq1 : q ≤ 200000 := by omega
    by_cases hlt : z < Z
    · have m1 : (q : Int) % 64 = ((q % 64 : Nat) : Int) := by omega
      have m2 : (q : Int).tmod 64 = ((q % 64 : Nat) : Int) := by rw [Int.tmod_eq_emod_of_nonneg (by omega)]; exact m1
      have m3 : q % 64 ≠ 56 := by omega
      have m5 : q % 64 < 64 := by omega
      have HQ := Lib.hid hq
      have hlt' : q < l.length + 1 + Z := by omega
      clear hzz hq
      generalize q % 64 = r at *
      have m4 : ((r : Int) == 56) = false := by rw [beq_eq_false_iff_ne]; omega
      have m6 : ¬ (r : Int) = 56 := by omega
      go_wp2_with (at_builtin; refine wpList_append_own _ rfl _ _ 22 rfl w.heap.size 5 i0 (.int .u8 0) 1 1 Tryd.underlying22 hi hz0 hz1 hz2 rfl (by decide) (.slice ao q cp) q ((filK l z 0).map bv) rfl (HO.out.alloc _) ⟨wr.heap.size, 0, none⟩ 1 1 [.int .u8 0] rfl rfl (cell_one_new _ _ _) ?d2 ?d3 ?d4 ?d5 ?_)
      case d2 => first | rfl | (intro u hu; simp at hu; subst hu; rfl)
      case d3 => first | omega | (unfold maxLen; omega)
      case d4 => omega
      case d5 => have := KP.out.size; first | omega | (simp only [World.size_alloc]; omega)
      intro v2 w2 hown2 hg2 _
      have K2 := Lib.hid ((KP.out.trans (Keeps.alloc [] wr _)).owned2 (HO.out.alloc _) hg2)
      rw [show (filK l z 0).map bv ++ [Value.int .u8 0] = (filK l (z + 1) 0).map bv by rw [filK_zero, List.map_append]; rfl] at hown2
      obtain ⟨ao2, cp2, rfl⟩ := owns_shape2 hown2
      have HO2 := Lib.hid hown2
      clear hown2 hg2
      go_wp2
      go_roundw
      case rel => exact ⟨z + 1, q + 1, ao2, cp2, by omega, by have := HQ.out; omega, rfl, HO2.out, K2.out⟩
      case measure => simp [sliceLen]; omega
    · obtain rfl : z = Z := by omega
      have m1 : (q : Int) % 64 = 56 := by omega
      have m2 : (q : Int).tmod 64 = 56 := by rw [Int.tmod_eq_emod_of_nonneg (by omega)]; exact m1
      have HQ := Lib.hid hq
      clear hzz hq
      have e6 : IntKind.u64.wrap (l.length : Int) = (l.length : Int) := IntWalk.u64_in _ (by omega)
      have e7 : IntKind.u64.wrap ((l.length : Int) * 8) = (l.length : Int) * 8 := IntWalk.u64_in _ (by omega)
      go_wp2
      go_loopw [3, 5] (fun v s wr => ∃ (k p : Nat) (ao : Option Addr) (cp : Nat), k ≤ 8 ∧ p = q + k ∧ s = .int .i64 (56 - 8 * (k : Int)) ∧ v = .slice ao p cp ∧ wr.ownsRow w.heap.size 5 1 (.slice ao p cp) p ((filK l z k).map bv) ∧ Keeps [] w wr) (fun _ s _ => (intOf s + 8).toNat)
      case atStart => exact ⟨0, q, ao, cp, Nat.zero_le _, rfl, rfl, rfl, HO.out, KP.out⟩
      case round =>
        clear HO KP
        obtain ⟨k, p, ao, cp, hk, hp, rfl, rfl, hown, kp⟩ := hrel
        have HO := Lib.hid hown
        have KP := Lib.hid kp
        clear hown kp
        by_cases hlt : k < 8
        · have s1 : 0 ≤ 56 - 8 * (k : Int) := by omega
          have s2 : (56 - 8 * (k : Int)).toNat = 56 - 8 * k := by omega
          have s3 : min (56 - 8 * k) 64 = 56 - 8 * k := by omega
          have s4 : (l.length : Int) * 8 / (2 : Int) ^ (56 - 8 * k) = ((8 * l.length / 2 ^ (56 - 8 * k) : Nat) : Int) := by
            rw [Int.natCast_ediv, Int.natCast_pow, Int.natCast_mul, Int.mul_comm]; rfl
          have s5 : ((8 * l.length / 2 ^ (56 - 8 * k) : Nat) : Int) % 256 = ((UInt8.ofNat (8 * l.length / 2 ^ (56 - 8 * k))).toNat : Int) := by
            rw [byte_mod, Int.natCast_emod]; rfl
          have s6 : IntKind.u8.wrap ((8 * l.length / 2 ^ (56 - 8 * k) : Nat) : Int) = ((UInt8.ofNat (8 * l.length / 2 ^ (56 - 8 * k))).toNat : Int) := s5
          have s7 : IntKind.u64.wrap (56 - 8 * (k : Int)) = 56 - 8 * (k : Int) := IntWalk.u64_in _ (by omega)
          have HP := Lib.hid (filK_succ l z k hlt)
          have hpp := hp
          clear hp
          have HPP := Lib.hid hpp
          have hp2 : p ≤ 300000 := by omega
          clear hpp
          generalize UInt8.ofNat (8 * l.length / 2 ^ (56 - 8 * k)) = c at *
          generalize 8 * l.length / 2 ^ (56 - 8 * k) = qq at *
          go_wp2_with (at_builtin; refine wpList_append_own _ rfl _ _ 22 rfl w.heap.size 5 i0 (.int .u8 0) 1 1 Tryd.underlying22 hi hz0 hz1 hz2 rfl (by decide) (.slice ao p cp) p ((filK l z k).map bv) rfl (HO.out.alloc _) ⟨wr.heap.size, 0, none⟩ 1 1 [bv c] rfl rfl (cell_one_new _ _ _) ?d2 ?d3 ?d4 ?d5 ?_)
          case d2 => first | rfl | (intro u hu; simp at hu; subst hu; rfl)
          case d3 => first | omega | (unfold maxLen; omega)
          case d4 => omega
          case d5 => have := KP.out.size; first | omega | (simp only [World.size_alloc]; omega)
          intro v2 w2 hown2 hg2 _
          have K2 := Lib.hid ((KP.out.trans (Keeps.alloc [] wr _)).owned2 (HO.out.alloc _) hg2)
          rw [show (filK l z k).map bv ++ [bv c] = (filK l z (k + 1)).map bv by rw [HP.out, List.map_append]; rfl] at hown2
          obtain ⟨ao2, cp2, rfl⟩ := owns_shape2 hown2
          have HO2 := Lib.hid hown2
          clear hown2 hg2
          go_wp2
          go_roundw
          case rel => exact ⟨k + 1, p + 1, ao2, cp2, by omega, by have := HPP.out; omega, by congr 1; omega, rfl, HO2.out, K2.out⟩
          case measure => simp [intOf]; omega
        · obtain rfl : k = 8 := by omega
          have hneg : (56 : Int) - 8 * ((8 : Nat) : Int) < 0 := by omega
          have hpl : p = (l ++ padb l.length).length := by
            rw [← filK_all, ← HZ.out, filK_length _ _ _ (by omega), hp, HQ.out]
          obtain ⟨b, c, hv, hb, hrow⟩ := Row.ofOwns HO.out (by intro e; injection e with _ e; omega)
          injection hv with e1 e2 e3
          subst e1 e3
          rw [HZ.out, filK_all] at hrow
          have HRW := Lib.hid hrow
          have HPL := Lib.hid hpl
          clear hrow hpl hp
          go_wp2
          go_ret
          refine ⟨b, cp, ?_, hb, by have := HRW.out; first | exact this | rwa [List.map_append] at this, KP.out⟩
          have := HPL.out
          first | (rw [← this]; rfl) | (rw [List.length_append] at this; rw [← this]; rfl)
end Go.Proofs.YtlnmbfddhdjioaaDoor
