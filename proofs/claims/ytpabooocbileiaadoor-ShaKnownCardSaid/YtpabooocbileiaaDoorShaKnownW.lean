/-
  ShaKnown, walked.
-/
import Derived.Test.YtpabooocbileiaaDoorShaU
import Derived.Test.YtpabooocbileiaaDoorShaS
import Derived.Lib.ConvBytes
namespace Go.Proofs.YtpabooocbileiaaDoor
open Go.RowKit

def lenOf : Value → Nat
  | .slice _ n _ => n
  | _ => 0

set_option maxHeartbeats 1000000 in
theorem All_any (w : World) (c : UInt8) (n : Nat) (hn0 : 0 < n) (hn : n ≤ 65536) :
    Calls Tryd.prog 19 #[.int .u8 c.toNat, .int .i64 n] w fun e w' => ∃ b k, e = .returned (.slice (some ⟨b, 0, none⟩) n k) ∧ w.heap.size ≤ b ∧ Row w' b 5 ((List.replicate n c).map bv) k ∧ Keeps [] w w' := by
  obtain ⟨i0, hi, hz0, hz1, hz2⟩ := info_parts infoByte
  go_enter Tryd.func19, Tryd.ntmps19
  go_wp2
  go_loopw [5] (fun v wr => ∃ (i : Nat) (ao : Option Addr) (cap : Nat), i ≤ n ∧ v = .slice ao i cap ∧ wr.ownsRow w.heap.size 5 1 (.slice ao i cap) i (List.replicate i (bv c)) ∧ Keeps [] w wr) (fun v _ => n - lenOf v)
  case atStart => exact ⟨0, none, 0, Nat.zero_le _, rfl, World.ownsRow_nil _ _ _ _, Keeps.refl _ _⟩
  case round =>
    obtain ⟨i, ao, cap, hin, rfl, hown, hk⟩ := hrel
    have HO := Lib.hid hown
    have HK := Lib.hid hk
    clear hown hk
    by_cases hlt : i < n
    · have hlt' : (i : Int) < n := by omega
      go_wp2_with (at_builtin; refine wpList_append_own _ rfl _ _ 22 rfl w.heap.size 5 i0 (.int .u8 0) 1 1 Tryd.underlying22 hi hz0 hz1 hz2 rfl (by decide) (.slice ao i cap) i (List.replicate i (bv c)) rfl (HO.out.alloc _) ⟨wr.heap.size, 0, none⟩ 1 1 [bv c] rfl rfl ?c1 ?c2 ?c3 ?c4 ?c5 ?_)
      case c1 =>
        intro j u hu
        rw [Addr.add_off, Nat.zero_add, cell_alloc_new]
        match j, hu with
        | 0, hu => simpa [bv] using hu
      case c2 => intro u hu; simp at hu; subst hu; rfl
      case c3 => unfold maxLen; omega
      case c4 => omega
      case c5 => have := HK.out.size; simp; omega
      intro v' w1 hown1 hg1 _
      have HK1 := Lib.hid ((HK.out.trans (Keeps.alloc [] wr _)).owned2 (HO.out.alloc _) hg1)
      have hrep : List.replicate i (bv c) ++ [bv c] = List.replicate (i + 1) (bv c) := by rw [List.replicate_succ']
      rw [hrep] at hown1
      obtain ⟨ao', cap', rfl⟩ := owns_shape2 hown1
      have HO1 := Lib.hid hown1
      clear hown1 hg1 hrep
      go_wp2
      go_roundw
      case rel => exact ⟨i + 1, ao', cap', by omega, rfl, HO1.out, HK1.out⟩
      case measure => simp [lenOf]; omega
    · obtain rfl : i = n := by omega
      have hge : ¬ ((i : Int) < i) := by omega
      obtain ⟨b, k, hv, hb, hR⟩ := Row.ofOwns HO.out (by intro e; simp at e; omega)
      simp at hv
      obtain ⟨rfl, rfl⟩ := hv
      have HR := Lib.hid hR
      clear hR
      go_wp2
      go_ret
      exact ⟨b, cap, rfl, hb, HR.out, HK.out⟩

theorem run_min2 (w : World) (ts : Array TypeId) (t : TypeId) (a b : Int) (n : Nat) (hn : (n : Int) = min a b) :
    (Builtin.min_ ts t #[.int .i64 a, .int .i64 b]).run Tryd.prog w = .ok (.int .i64 (n : Int)) w := by
  rw [run_min_int2, hn]
  congr 2
  rw [Int.min_def]
  split <;> split <;> omega

/-- The letters of FIPS 180-4's longer text. -/
def longL : List UInt8 := [97, 98, 99, 100, 98, 99, 100, 101, 99, 100, 101, 102, 100, 101, 102, 103, 101, 102, 103, 104, 102, 103, 104, 105, 103, 104, 105, 106, 104, 105, 106, 107, 105, 106, 107, 108, 106, 107, 108, 109, 107, 108, 109, 110, 108, 109, 110, 111, 109, 110, 111, 112, 110, 111, 112, 113]

def longS : ByteArray := ⟨longL.toArray⟩

theorem keeps_bytes (w : World) : Keeps [] w (Lib.bytesWorld w 5 longS) :=
  ⟨rfl, rfl, rfl, by rw [Lib.bytesWorld_size]; omega, fun k hk _ => Lib.bytesWorld_at_old w _ _ k hk⟩

theorem reads_bytes (w : World) (c : Nat) (hc : 56 ≤ c) : Reads (Lib.bytesWorld w 5 longS) (.slice (some ⟨w.heap.size, 0, none⟩) 56 c) longL w.heap.size := by
  refine .inr ⟨⟨w.heap.size, 0, none⟩, c, rfl, hc, fun _ => rfl, fun i x hi => ?_⟩
  have hlt : i < 56 := (List.getElem?_eq_some_iff.1 hi).1
  rw [Addr.add_off, Nat.zero_add, Lib.bytesWorld_cell w 5 longS i hlt]
  show some (Value.int .u8 ((longL.getD i 0).toNat : Int)) = some (bv x)
  rw [List.getD_eq_getElem?_getD, hi]
  rfl

theorem Of_long (w : World) (c : Nat) (hc : 56 ≤ c) (hR : Roots w) :
    Calls Tryd.prog 16 #[.slice (some ⟨w.heap.size, 0, none⟩) 56 c] (Lib.bytesWorld w 5 longS) fun e w' => e = .returned (.agg ((sumOf kk h0 longL).map bv).toArray) ∧ Keeps [] w w' :=
  (Of_any _ _ longL _ (reads_bytes w c hc) (by rw [Lib.bytesWorld_size]; omega) (hR.keeps (keeps_bytes w) (by simp) (by simp)) (by decide)).mono fun _ _ h => ⟨h.1, (keeps_bytes w).trans h.2⟩

theorem conv_long (w : World) : ∃ c, 56 ≤ c ∧ (convert 9 22 (.string longS)).run Tryd.prog w = .ok (.slice (some ⟨w.heap.size, 0, none⟩) 56 c) (Lib.bytesWorld w 5 longS) :=
  ⟨grownCap w 56 0 5, grownCap_ge _ _ _ _, Lib.run_convert_string_bytes w 9 22 5 longS Tryd.underlying9 Tryd.underlying22 Tryd.underlying5⟩

set_option maxRecDepth 100000 in
set_option maxHeartbeats 4000000 in
theorem ShaKnown_any (w : World) (part : Int) (hp : 0 ≤ part ∧ part ≤ 65535) (hR : Roots w) :
    Calls Tryd.prog 6 #[.int .u16 part] w fun e w' => e = .returned (.bool true) ∧ Keeps [] w w' := by
  have kc := fun (w : World) (C : Array Value) (n c : Nat) => Lib.run_convert_bytes_const (P := Tryd.prog) w 22 5 C n c Tryd.underlying22 Tryd.underlying5
  obtain ⟨hp0, hp1⟩ := hp
  obtain ⟨n, hn⟩ : ∃ n : Nat, (n : Int) = 1 + part % 1000 := ⟨(1 + part % 1000).toNat, by omega⟩
  have hn1 : 0 < n := by omega
  have hn2 : n ≤ 1000 := by omega
  have q1 : part.tmod 1000 = part % 1000 := Int.tmod_eq_emod_of_nonneg hp0
  have q2 : 1 + part % 1000 = (n : Int) := hn.symm
  have q3 : IntKind.i64.wrap (1 + part % 1000) = (n : Int) := by rw [q2]; exact IntWalk.i64_in _ (by omega)
  have HR := Lib.hid hR
  have hlt := hR.lt
  have HN := Lib.hid hn
  clear hR hn
  obtain ⟨cl, hcl, hcv⟩ := conv_long w
  unfold longS longL at hcv
  go_enter Tryd.func6, Tryd.ntmps6
  go_wp2_with fail
  refine (Of_long _ cl hcl HR.out).mono ?_
  rintro e w1 ⟨rfl, k1⟩
  have K1 := Lib.hid k1
  have R1 := Lib.hid (HR.out.keeps k1 (by simp) (by simp))
  clear k1
  unfold longL
  rw [sum_L]
  go_wp2_with fail
  refine (begins_yes _ _ _ _ rfl rfl).mono ?_
  rintro e w2 ⟨rfl, k2⟩
  have K2 := Lib.hid (K1.out.trans k2)
  have R2 := Lib.hid (R1.out.keeps k2 (by simp) (by simp))
  clear k2
  go_wp2_with fail
  refine (Of_lit _ [97] _ _ _ R2.out rfl rfl (by decide)).mono ?_
  rintro e w3 ⟨rfl, k3⟩
  have K3 := Lib.hid (K2.out.trans k3)
  have R3 := Lib.hid (R2.out.keeps k3 (by simp) (by simp))
  clear k3
  rw [sum_LA]
  go_wp2_with fail
  refine (begins_yes _ _ _ _ rfl rfl).mono ?_
  rintro e w4 ⟨rfl, k4⟩
  have K4 := Lib.hid (K3.out.trans k4)
  have R4 := Lib.hid (R3.out.keeps k4 (by simp) (by simp))
  clear k4
  go_wp2_with fail
  refine (New_any _ R4.out).mono ?_
  rintro e w5 ⟨x, rfl, hx, hhx, k5⟩
  have K5 := Lib.hid (K4.out.trans k5)
  have X5 := Lib.hid hhx
  have R5 := Lib.hid (R4.out.keeps k5 (by simp) (by simp))
  have lx := hhx.lt
  have z4 := K4.out.size
  clear k5 hhx
  go_wp2_with fail
  refine (All_any _ 97 n hn1 (by omega)).mono ?_
  rintro e w6 ⟨b, cap, rfl, hb, hrow, k6⟩
  have K6 := Lib.hid (K5.out.trans k6)
  have X6 := Lib.hid (X5.out.keeps k6 (by simp))
  have R6 := Lib.hid (R5.out.keeps k6 (by simp) (by simp))
  have hrd := hrow.reads
  rw [List.length_replicate] at hrd
  have A6 := Lib.hid hrd
  clear k6 hrow hrd
  go_wp2_with fail
  have z5 := K5.out.size
  clear kc hcv hcl
  go_loopw [25] (fun _ wr => ∃ k : Nat, k ≤ 1000000 ∧ HashAt wr x (List.replicate k 97) ∧ Keeps [x] w6 wr) (fun _ wr => match wr.cell? ⟨x, 73, none⟩ with | some (.int _ m) => (1000000 - m).toNat | _ => 0)
  case atStart => exact ⟨0, Nat.zero_le _, X6.out, Keeps.refl _ _⟩
  case round =>
    obtain ⟨k, hk, hX, kp⟩ := hrel
    have XK := Lib.hid hX
    have KP := Lib.hid kp
    have RK := Lib.hid (R6.out.keeps kp (notMem1 (by omega)) (notMem1 (by omega)))
    have AK := Lib.hid (A6.out.keeps kp (notMem1 (by omega)))
    have hlenk := hX.len
    have LN := Lib.hid (show ∀ w', HashAt w' x (List.replicate k 97) → Calls Tryd.prog 14 #[.pointer (some ⟨x, 0, none⟩)] w' (fun e w'' => e = .returned (.int .i64 (k : Int)) ∧ w' = w'') from fun w' h => (Len_any w' x _ h).mono fun _ _ hh => ⟨by rw [hh.1, List.length_replicate], hh.2⟩)
    rw [List.length_replicate] at hlenk
    have HLK := Lib.hid hlenk
    clear hX kp hlenk
    by_cases hlt : k < 1000000
    · have hlt' : (k : Int) < 1000000 := by omega
      obtain ⟨m, hm⟩ : ∃ m : Nat, (m : Int) = min (n : Int) (1000000 - (k : Int)) := ⟨(min (n : Int) (1000000 - (k : Int))).toNat, by omega⟩
      have hm1 : 0 < m := by omega
      have hm2 : m ≤ n := by omega
      have hm3 : k + m ≤ 1000000 := by omega
      have hmin := fun w ts t => run_min2 w ts t (n : Int) (1000000 - (k : Int)) m hm
      have hif : (if (1000000 : Int) - (k : Int) < (n : Int) then (1000000 : Int) - (k : Int) else (n : Int)) = (m : Int) := by
        rw [hm, Int.min_def]; split <;> split <;> omega
      obtain ⟨pa, ca, hcut, hrd⟩ := (show Reads wr (.slice (some ⟨b, 0, none⟩) (List.replicate n (97 : UInt8)).length cap) (List.replicate n 97) b by rw [List.length_replicate]; exact AK.out).head m (by rw [List.length_replicate]; exact hm2)
      have htk : (List.replicate n (97 : UInt8)).take m = List.replicate m 97 := by rw [List.take_replicate, Nat.min_eq_left hm2]
      rw [List.length_replicate, htk, List.length_replicate] at hcut
      rw [htk, List.length_replicate] at hrd
      have HRD := Lib.hid hrd
      have HM := Lib.hid hm
      clear hm hrd htk
      go_wp2_with (first | (go_at_call 14; refine (LN.out _ XK.out).mono ?_; rintro e w' ⟨rfl, rfl⟩) | (go_at_call 13; refine (Write_any _ x b (List.replicate k 97) (List.replicate m 97) _ XK.out HRD.out (by omega) RK.out (by omega) (by omega) (by simp; omega)).mono ?_; rintro e w7 ⟨rfl, h7, k7⟩; have X7 := Lib.hid h7; have K7 := Lib.hid k7; clear h7 k7))
      go_roundw
      case rel => exact ⟨k + m, hm3, by have := X7.out; rw [List.replicate_append_replicate] at this; exact this, KP.out.trans K7.out⟩
      case measure =>
        have h7 := X7.out.len
        rw [List.length_append, List.length_replicate, List.length_replicate] at h7
        rw [h7, HLK.out]
        simp
        omega
    · have hk1 : k = 1000000 := by omega
      have hlt' : ¬ (k : Int) < 1000000 := by omega
      have XE := Lib.hid (show HashAt wr x (List.replicate 1000000 97) from hk1 ▸ XK.out)
      go_wp2_with (go_at_call 14; refine (LN.out _ XK.out).mono ?_; rintro e w' ⟨rfl, rfl⟩)
      refine (Sum_any _ x _ XE.out RK.out (by rw [List.length_replicate]; decide)).mono ?_
      rintro e w7 ⟨rfl, k7⟩
      have K7 := Lib.hid (KP.out.trans (k7.mono (by simp)))
      have R7 := Lib.hid (RK.out.keeps k7 (by simp) (by simp))
      clear k7
      rw [sum_M]
      go_wp2_with fail
      refine (begins_yes _ _ _ _ rfl rfl).mono ?_
      rintro e w8 ⟨rfl, k8⟩
      have K8 := Lib.hid (K7.out.trans (k8.mono (by simp)))
      have R8 := Lib.hid (R7.out.keeps k8 (by simp) (by simp))
      clear k8
      go_wp2_with fail
      refine (awake3_any _ R8.out).mono ?_
      rintro e w9 ⟨rfl, k9⟩
      have K9 := Lib.hid (K8.out.trans (k9.mono (by simp)))
      clear k9
      go_wp2
      go_ret
      exact ⟨rfl, K6.out.then K9.out (fun i hi => .inr (by simp at hi; omega))⟩
end Go.Proofs.YtpabooocbileiaaDoor
