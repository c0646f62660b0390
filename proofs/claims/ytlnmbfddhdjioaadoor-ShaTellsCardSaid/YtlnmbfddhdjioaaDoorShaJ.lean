/-
  Contracts of sha: padding.
-/
import Derived.Test.YtlnmbfddhdjioaaDoorShaI
import Derived.Test.YtlnmbfddhdjioaaDoorGround
namespace Go.Proofs.YtlnmbfddhdjioaaDoor
open Go.RowKit

theorem made_list (z : Value) (n : Nat) : (madeCells #[z] n).toList = List.replicate n z := by
  refine List.ext_getElem? fun i => ?_
  simp only [madeCells, Array.toList_map, Array.toList_range, List.getElem?_map, List.getElem?_replicate]
  by_cases h : i < n
  · simp [h, Nat.mod_one]
  · simp [h]

/-- Bytes made: of n with room for c. -/
theorem run_bytes (w : World) (l c : Int) (n m : Nat) (hl : l = (n : Int)) (hc : c = (m : Int)) (h : n ≤ m) (hm : m ≤ 1000000000) :
    (Instr.makeSlice 22 (.int .i64 l) (.int .i64 c)).run Tryd.prog w = .ok (.slice (some ⟨w.heap.size, 0, none⟩) n m) (w.alloc (.cells (List.replicate m (bv 0)).toArray 5)) := by
  obtain ⟨i0, hi, hz0, hz1, hz2⟩ := info_parts infoByte
  subst hl hc
  rw [run_make w 22 5 i0 (.int .u8 0) Tryd.underlying22 hi hz0 .i64 .i64 _ _ (by omega) (by omega) (by rw [hz2]; omega) (by omega)]
  rw [hz1, Int.toNat_natCast, Int.toNat_natCast, Nat.mul_one, show (Value.int IntKind.u8 0).cells = #[.int .u8 0] from rfl, ← made_list]
  rfl

theorem be64_get (n k : Nat) (hk : k < 8) : (be64 n)[k]? = some (UInt8.ofNat (8 * n / 2 ^ (56 - 8 * k))) := by
  unfold be64; simp [hk]

theorem byte_mod (x : Nat) : ((UInt8.ofNat x).toNat : Int) = ((x % 256 : Nat) : Int) := by simp

/-- What is appended, as far as it is. -/
def padK (n k : Nat) : List UInt8 := 128 :: (List.replicate ((119 - n % 64) % 64) 0 ++ (be64 n).take k)

theorem padK_all (n : Nat) : padK n 8 = padb n := by
  unfold padK padb; rw [List.take_of_length_le (by rw [be64_length]; omega)]

theorem padK_succ (n k : Nat) (hk : k < 8) : padK n (k + 1) = padK n k ++ [UInt8.ofNat (8 * n / 2 ^ (56 - 8 * k))] := by
  unfold padK
  rw [List.take_add_one, be64_get n k hk]
  simp

theorem padK_length (n k : Nat) (hk : k ≤ 8) : (padK n k).length = 1 + (119 - n % 64) % 64 + k := by
  simp [padK, be64_length]; omega

set_option maxHeartbeats 1000000 in
theorem padding_any (w : World) (n : Nat) (hn : n ≤ 1000000000) :
    Calls Tryd.prog 27 #[.int .i64 n] w fun e w' => ∃ v M, e = .returned v ∧ Reads w' v (padb n) M ∧ w.heap.size ≤ M ∧ Keeps [] w w' := by
  obtain ⟨i0, hi, hz0, hz1, hz2⟩ := info_parts infoByte
  obtain ⟨z, hz⟩ : ∃ z, z = (119 - n % 64) % 64 := ⟨_, rfl⟩
  have hz64 : z < 64 := by omega
  have e1 : (n : Int) % 64 = ((n % 64 : Nat) : Int) := by omega
  have e2 : (n : Int).tmod 64 = ((n % 64 : Nat) : Int) := by rw [Int.tmod_eq_emod_of_nonneg (by omega)]; exact e1
  have hr64 : n % 64 < 64 := by omega
  have e3 : ((119 : Int) - ((n % 64 : Nat) : Int)) % 64 = (z : Int) := by omega
  have e4 : ((119 : Int) - ((n % 64 : Nat) : Int)).tmod 64 = (z : Int) := by rw [Int.tmod_eq_emod_of_nonneg (by omega)]; exact e3
  have e5 : IntKind.i64.wrap ((119 : Int) - ((n % 64 : Nat) : Int)) = (119 : Int) - ((n % 64 : Nat) : Int) := IntWalk.i64_in _ (by omega)
  have e6 : IntKind.u64.wrap (n : Int) = (n : Int) := IntWalk.u64_in _ (by omega)
  have e7 : IntKind.u64.wrap ((n : Int) * 8) = (n : Int) * 8 := IntWalk.u64_in _ (by omega)
  have hmk := fun w => run_bytes w (1 + (z : Int)) (1 + (z : Int) + 8) (1 + z) (1 + z + 8) (by omega) (by omega) (by omega) (by omega)
  have HZ := Lib.hid hz
  have hz0' : (0 : Int) < ((1 + z : Nat) : Int) := by omega
  clear hz
  generalize n % 64 = r at e1 e2 hr64 e3 e4 e5
  go_enter Tryd.func27, Tryd.ntmps27
  go_upto_region 3 with (fail)
  have hw0 : Whole (w.alloc (.cells (Array.replicate (1 + z + 8) (bv 0)) 5)) w.heap.size 5 (List.replicate (1 + z + 8) (bv 0)) := by
    have := Whole.new w 5 (List.replicate (1 + z + 8) (bv 0))
    simpa using this
  have kw0 : Keeps [] w (w.alloc (.cells (Array.replicate (1 + z + 8) (bv 0)) 5)) := Keeps.alloc [] _ _
  generalize World.alloc w _ = V at *
  have c0 : V.cell? ⟨w.heap.size, 0, none⟩ = some (bv 0) := (hw0.cell 0).trans (by simp)
  have f0 := hw0.frozen 0
  have hw1 := hw0.set 0 (.int .u8 128)
  have kw1 := (kw0.mono (T := [w.heap.size]) (by simp)).trans (Keeps.setCell (S := [w.heap.size]) V (p := ⟨w.heap.size, 0, none⟩) (by simp) (.int .u8 128))
  have hsz : w.heap.size < V.heap.size := hw0.lt
  have HW1 := Lib.hid hw1
  have KW1 := Lib.hid kw1
  clear hw0 kw0 hw1 kw1
  go_wp2
  generalize World.setCell V _ _ = V1 at *
  have hown : V1.ownsRow w.heap.size 5 1 (.slice (some ⟨w.heap.size, 0, none⟩) (1 + z) (1 + z + 8)) (1 + z + 0) ((padK n 0).map bv) := by
    have h := HW1.out
    have e : (List.replicate (1 + z + 8) (bv 0)).set 0 (.int .u8 128) = (padK n 0).map bv ++ List.replicate 8 (bv 0) := by
      unfold padK
      rw [← HZ.out, show 1 + z + 8 = (z + 8) + 1 by omega, List.replicate_succ, List.set_cons_zero, ← List.replicate_append_replicate]
      simp [bv]
    rw [e] at h
    exact h.owns (Nat.le_refl _) (by rw [List.length_map, padK_length _ _ (by omega), ← HZ.out]; rfl) (by simp) (by unfold maxLen; omega)
  have HO := Lib.hid hown
  have KP := Lib.hid (KW1.out.news (T := []) (fun x hx => .inr (by simp at hx; omega)))
  clear hown
  go_loopw [4, 6] (fun p s wr => ∃ (k : Nat) (ao : Option Addr) (cp : Nat), k ≤ 8 ∧ s = .int .i64 (56 - 8 * (k : Int)) ∧ p = .slice ao (1 + z + k) cp ∧ wr.ownsRow w.heap.size 5 1 (.slice ao (1 + z + k) cp) (1 + z + k) ((padK n k).map bv) ∧ Keeps [] w wr) (fun _ s _ => (intOf s + 8).toNat)
  case atStart => exact ⟨0, _, _, Nat.zero_le _, rfl, rfl, HO.out, KP.out⟩
  case round =>
    obtain ⟨k, ao, cp, hk, rfl, rfl, hown, kp⟩ := hrel
    have HO' := Lib.hid hown
    have KP' := Lib.hid kp
    clear hown kp
    by_cases hlt : k < 8
    · have s1 : 0 ≤ 56 - 8 * (k : Int) := by omega
      have s2 : (56 - 8 * (k : Int)).toNat = 56 - 8 * k := by omega
      have s3 : min (56 - 8 * k) 64 = 56 - 8 * k := by omega
      have s4 : (n : Int) * 8 / (2 : Int) ^ (56 - 8 * k) = ((8 * n / 2 ^ (56 - 8 * k) : Nat) : Int) := by
        rw [Int.natCast_ediv, Int.natCast_pow, Int.natCast_mul, Int.mul_comm]; rfl
      have s5 : ((8 * n / 2 ^ (56 - 8 * k) : Nat) : Int) % 256 = ((UInt8.ofNat (8 * n / 2 ^ (56 - 8 * k))).toNat : Int) := by
        rw [byte_mod, Int.natCast_emod]; rfl
      have s6 : IntKind.u8.wrap ((8 * n / 2 ^ (56 - 8 * k) : Nat) : Int) = ((UInt8.ofNat (8 * n / 2 ^ (56 - 8 * k))).toNat : Int) := s5
      have HP := Lib.hid (padK_succ n k hlt)
      generalize UInt8.ofNat (8 * n / 2 ^ (56 - 8 * k)) = c at *
      generalize 8 * n / 2 ^ (56 - 8 * k) = q at *
      go_wp2_with (at_builtin; refine wpList_append_own _ rfl _ _ 22 rfl w.heap.size 5 i0 (.int .u8 0) 1 1 Tryd.underlying22 hi hz0 hz1 hz2 rfl (by decide) (.slice ao (1 + z + k) cp) (1 + z + k) ((padK n k).map bv) rfl (HO'.out.alloc _) ⟨wr.heap.size, 0, none⟩ 1 1 [bv c] rfl rfl ?c1 ?c2 ?c3 ?c4 ?c5 ?_)
      case c1 =>
        intro i u hu
        rw [Addr.add_off, Nat.zero_add, cell_alloc_new]
        match i, hu with
        | 0, hu => simpa [bv] using hu
      case c2 => intro u hu; simp at hu; subst hu; rfl
      case c3 => unfold maxLen; omega
      case c4 => omega
      case c5 => have := KP'.out.size; simp; omega
      intro v' w1 hown1 hg1 _
      have KP1 := Lib.hid ((KP'.out.trans (Keeps.alloc [] wr _)).owned2 (HO'.out.alloc _) hg1)
      obtain ⟨ao', cp', rfl⟩ := owns_shape2 hown1
      have HO1 := Lib.hid hown1
      clear hown1 hg1
      go_wp2
      go_roundw
      case rel =>
        refine ⟨k + 1, ao', cp', by omega, by congr 1; omega, rfl, ?_, KP1.out⟩
        rw [HP.out]
        have := HO1.out
        simpa [Nat.add_assoc] using this
      case measure => simp [intOf]; omega
    · have hk8 : k = 8 := by omega
      subst hk8
      have hneg : (56 : Int) - 8 * ((8 : Nat) : Int) < 0 := by omega
      have HL := Lib.hid (show (padb n).length = 1 + z + 8 by rw [← padK_all, padK_length _ _ (by omega), HZ.out])
      have hr : ∃ M, Reads wr (.slice ao (1 + z + 8) cp) (padb n) M ∧ w.heap.size ≤ M := by
        obtain ⟨b, c, hv, hb, hr⟩ := Row.ofOwns HO'.out (by intro e; cases e)
        simp at hv
        obtain ⟨rfl, rfl⟩ := hv
        rw [padK_all] at hr
        exact ⟨b, by have := hr.reads; rw [HL.out] at this; exact this, hb⟩
      have HRD := Lib.hid hr
      clear hr
      go_wp2
      go_ret
      obtain ⟨M, h1, h2⟩ := HRD.out
      exact ⟨_, M, rfl, h1, h2, KP'.out⟩
end Go.Proofs.YtlnmbfddhdjioaaDoor
