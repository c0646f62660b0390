/-
  ShaOwn, walked.
-/
import Derived.Test.YtpabooocbileiaaDoorShaU
namespace Go.Proofs.YtpabooocbileiaaDoor
open Go.RowKit

set_option maxRecDepth 100000 in
set_option maxHeartbeats 2000000 in
theorem ShaOwn_big (w : World) (pa pb : Option Addr) (na ca nb cb : Nat) (hR : Roots w) (h : 200 < na ∨ (na ≤ 200 ∧ 200 < nb)) (ha : na ≤ maxLen) (hb : nb ≤ maxLen) :
    Calls Tryd.prog 5 #[.slice pa na ca, .slice pb nb cb] w fun e w' => e = .returned (.bool true) ∧ Keeps [] w w' := by
  unfold maxLen at ha hb
  have HR := Lib.hid hR
  clear hR
  rcases h with h | ⟨h1, h2⟩
  · have h' : (200 : Int) < na := by omega
    go_enter Tryd.func5, Tryd.ntmps5
    go_wp2_with (go_at_call 8; refine (awake3_any _ HR.out).mono ?_; rintro e w1 ⟨rfl, k1⟩; have K1 := Lib.hid k1; clear k1)
    go_ret
    exact ⟨rfl, K1.out⟩
  · have h1' : ¬ (200 : Int) < na := by omega
    have h2' : (200 : Int) < nb := by omega
    go_enter Tryd.func5, Tryd.ntmps5
    go_wp2_with (go_at_call 8; refine (awake3_any _ HR.out).mono ?_; rintro e w1 ⟨rfl, k1⟩; have K1 := Lib.hid k1; clear k1)
    go_ret
    exact ⟨rfl, K1.out⟩

/-- Bytes, the first k of which are one more. -/
def moreK (l : List UInt8) (k : Nat) : List UInt8 := (l.take k).map (· + 1) ++ l.drop k

theorem moreK_length (l : List UInt8) (k : Nat) : (moreK l k).length = l.length := by simp [moreK]; omega

theorem moreK_get (l : List UInt8) (k : Nat) (hk : k < l.length) : (moreK l k)[k]? = some l[k] := by
  unfold moreK
  rw [List.getElem?_append_right (by simp; omega)]
  simp [Nat.min_eq_left (Nat.le_of_lt hk), hk]

theorem moreK_set (l : List UInt8) (k : Nat) (hk : k < l.length) : (moreK l k).set k (l[k] + 1) = moreK l (k + 1) := by
  unfold moreK
  rw [List.set_append_right _ _ (by simp; omega)]
  simp only [List.length_map, List.length_take, Nat.min_eq_left (Nat.le_of_lt hk), Nat.sub_self]
  rw [List.drop_eq_getElem_cons hk, List.set_cons_zero, List.take_succ_eq_append_getElem hk, List.map_append, List.append_assoc]
  rfl

theorem byte_succ (c : UInt8) : IntKind.u8.wrap ((c.toNat : Int) + 1) = ((c + 1).toNat : Int) := by
  rw [UInt8.toNat_add]
  show ((c.toNat : Int) + 1) % 256 = _
  simp

set_option maxRecDepth 100000 in
set_option maxHeartbeats 4000000 in
theorem ShaOwn_small (w : World) (pa pb : Option Addr) (ca cb : Nat) (a b : List UInt8) (Ma Mb : Nat) (ha : Reads w (.slice pa a.length ca) a Ma) (hb : Reads w (.slice pb b.length cb) b Mb) (hMa : Ma < w.heap.size) (hMb : Mb < w.heap.size) (hR : Roots w) (h1 : a.length ≤ 200) (h2 : b.length ≤ 200) :
    Calls Tryd.prog 5 #[.slice pa a.length ca, .slice pb b.length cb] w fun e w' => e = .returned (.bool true) ∧ Keeps [] w w' := by
  have HA := Lib.hid ha
  have HB := Lib.hid hb
  have HR := Lib.hid hR
  have hlt := hR.lt
  have n1 : ¬ (200 : Int) < a.length := by omega
  have n2 : ¬ (200 : Int) < b.length := by omega
  have hgd := run_guard
  have hea := fun w => run_same w (sumOf kk h0 a) (sumOf_length _ _ _)
  have heb := fun w => run_same w (sumOf kk h0 b) (sumOf_length _ _ _)
  clear ha hb hR
  go_enter Tryd.func5, Tryd.ntmps5
  go_wp2_with fail
  refine (New_any _ HR.out).mono ?_
  rintro e w1 ⟨x, rfl, hx, hhx, k1⟩
  have K1 := Lib.hid k1
  have X1 := Lib.hid hhx
  have R1 := Lib.hid (HR.out.keeps k1 (by simp) (by simp))
  have lx := hhx.lt
  clear k1 hhx
  go_wp2_with fail
  refine (New_any _ R1.out).mono ?_
  rintro e w2 ⟨y, rfl, hy, hhy, k2⟩
  have K2 := Lib.hid (K1.out.trans k2)
  have X2 := Lib.hid (X1.out.keeps k2 (by simp))
  have Y2 := Lib.hid hhy
  have R2 := Lib.hid (R1.out.keeps k2 (by simp) (by simp))
  have ly := hhy.lt
  have z2 := k2.size
  clear k2 hhy
  go_wp2_with fail
  refine (Fresh_any _ _ a Ma (HA.out.keeps K2.out (by simp)) (by omega)).mono ?_
  rintro e w3 ⟨f, c, rfl, hf, hrow, k3⟩
  have K3 := Lib.hid (K2.out.trans k3)
  have X3 := Lib.hid (X2.out.keeps k3 (by simp))
  have Y3 := Lib.hid (Y2.out.keeps k3 (by simp))
  have R3 := Lib.hid (R2.out.keeps k3 (by simp) (by simp))
  have F3 := Lib.hid hrow
  have z3 := k3.size
  have lf := hrow.lt
  clear k3 hrow
  go_wp2_with fail
  have FR := F3.out.reads
  refine (Write_any _ x f [] a _ X3.out FR (by omega) R3.out (by omega) (by omega) (by simp; omega)).mono ?_
  rintro e w4 ⟨rfl, h4, k4⟩
  have K4 := Lib.hid (K3.out.then k4 (fun i hi => .inr (by simp at hi; omega)))
  have X4 := Lib.hid (show HashAt w4 x a from h4)
  have Y4 := Lib.hid (Y3.out.keeps k4 (notMem1 (by omega)))
  have R4 := Lib.hid (R3.out.keeps k4 (notMem1 (by omega)) (notMem1 (by omega)))
  have F4 := Lib.hid (F3.out.keeps k4 (notMem1 (by omega)))
  have z4 := k4.size
  clear k4 h4 FR
  go_wp2
  go_loopw [27] (fun i wr => ∃ k : Nat, k ≤ a.length ∧ i = .int .i64 k ∧ Row wr f 5 ((moreK a k).map bv) c ∧ Keeps [f] w4 wr) (fun i _ => a.length - (intOf i).toNat)
  case atStart => exact ⟨0, Nat.zero_le _, rfl, by simpa [moreK] using F4.out, Keeps.refl _ _⟩
  case round =>
    obtain ⟨k, hk, rfl, hrow, kp⟩ := hrel
    by_cases hlt : k < a.length
    · have hlt' : (k : Int) < a.length := by omega
      have c0 := hrow.cell k (v := bv a[k]) (by rw [List.getElem?_map, moreK_get a k hlt]; rfl)
      have f0 := hrow.frozen k
      have hb1 := byte_succ a[k]
      have hb2 : ((a[k].toNat : Int) + 1) % 256 = ((a[k] + 1).toNat : Int) := byte_succ a[k]
      have HS := Lib.hid (by have := hrow.set k (bv (a[k] + 1)); rw [← List.map_set, moreK_set a k hlt] at this; exact this)
      have KP := Lib.hid (kp.trans (Keeps.setCell (S := [f]) wr (p := ⟨f, k, none⟩) (by simp) (bv (a[k] + 1))))
      clear hrow kp
      generalize a[k] + 1 = c1 at *
      generalize a[k] = c2 at *
      unfold bv at c0
      go_wp2
      go_roundw
      case rel => exact ⟨k + 1, by omega, by go_num, HS.out, KP.out⟩
      case measure => simp [intOf]; omega
    · have hlt' : ¬ (k : Int) < a.length := by omega
      have K5 := Lib.hid (K4.out.then kp (fun i hi => .inr (by simp at hi; omega)))
      have X5 := Lib.hid (X4.out.keeps kp (notMem1 (by omega)))
      have Y5 := Lib.hid (Y4.out.keeps kp (notMem1 (by omega)))
      have R5 := Lib.hid (R4.out.keeps kp (notMem1 (by omega)) (notMem1 (by omega)))
      have z5 := kp.size
      have B5 := Lib.hid (HB.out.keeps K5.out (by simp))
      have A5 := Lib.hid (HA.out.keeps K5.out (by simp))
      clear hrow kp
      go_wp2_with fail
      refine (Write_any _ y Mb [] b _ Y5.out B5.out (by omega) R5.out (by omega) (by omega) (by simp; omega)).mono ?_
      rintro e w6 ⟨rfl, h6, k6⟩
      have K6 := Lib.hid (K5.out.then k6 (fun i hi => .inr (by simp at hi; omega)))
      have Y6 := Lib.hid (show HashAt w6 y b from h6)
      have X6 := Lib.hid (X5.out.keeps k6 (notMem1 (by omega)))
      have R6 := Lib.hid (R5.out.keeps k6 (notMem1 (by omega)) (notMem1 (by omega)))
      have A6 := Lib.hid (A5.out.keeps k6 (notMem1 (by omega)))
      have B6 := Lib.hid (B5.out.keeps k6 (notMem1 (by omega)))
      have z6 := k6.size
      clear k6 h6
      go_wp2_with fail
      refine (Sum_any _ x a X6.out R6.out (by omega)).mono ?_
      rintro e w7 ⟨rfl, k7⟩
      have K7 := Lib.hid (K6.out.trans k7)
      have X7 := Lib.hid (X6.out.keeps k7 (by simp))
      have Y7 := Lib.hid (Y6.out.keeps k7 (by simp))
      have R7 := Lib.hid (R6.out.keeps k7 (by simp) (by simp))
      have A7 := Lib.hid (A6.out.keeps k7 (by simp))
      have B7 := Lib.hid (B6.out.keeps k7 (by simp))
      have z7 := k7.size
      clear k7
      go_wp2_with fail
      refine (Of_any _ _ a Ma A7.out (by omega) R7.out (by omega)).mono ?_
      rintro e w8 ⟨rfl, k8⟩
      have K8 := Lib.hid (K7.out.trans k8)
      have X8 := Lib.hid (X7.out.keeps k8 (by simp))
      have Y8 := Lib.hid (Y7.out.keeps k8 (by simp))
      have R8 := Lib.hid (R7.out.keeps k8 (by simp) (by simp))
      have B8 := Lib.hid (B7.out.keeps k8 (by simp))
      have z8 := k8.size
      clear k8
      go_wp2_with fail
      refine (Sum_any _ y b Y8.out R8.out (by omega)).mono ?_
      rintro e w9 ⟨rfl, k9⟩
      have K9 := Lib.hid (K8.out.trans k9)
      have X9 := Lib.hid (X8.out.keeps k9 (by simp))
      have R9 := Lib.hid (R8.out.keeps k9 (by simp) (by simp))
      have B9 := Lib.hid (B8.out.keeps k9 (by simp))
      have z9 := k9.size
      clear k9
      go_wp2_with fail
      refine (Of_any _ _ b Mb B9.out (by omega) R9.out (by omega)).mono ?_
      rintro e w10 ⟨rfl, k10⟩
      have K10 := Lib.hid (K9.out.trans k10)
      have X10 := Lib.hid (X9.out.keeps k10 (by simp))
      have R10 := Lib.hid (R9.out.keeps k10 (by simp) (by simp))
      clear k10
      go_wp2_with fail
      refine (Len_any _ x a X10.out).mono ?_
      rintro e w' ⟨rfl, rfl⟩
      go_wp2_with fail
      refine (awake3_any _ R10.out).mono ?_
      rintro e w11 ⟨rfl, k11⟩
      have K11 := Lib.hid (K10.out.trans k11)
      clear k11
      go_wp2
      go_ret
      exact ⟨rfl, K11.out⟩

theorem ShaOwn_any (w : World) (va vb : Value) (a b : List UInt8) (Ma Mb : Nat) (ha : Reads w va a Ma) (hb : Reads w vb b Mb) (la : a.length ≤ maxLen) (lb : b.length ≤ maxLen) (hMa : a ≠ [] → Ma < w.heap.size) (hMb : b ≠ [] → Mb < w.heap.size) (hR : Roots w) :
    Calls Tryd.prog 5 #[va, vb] w fun e w' => e = .returned (.bool true) ∧ Keeps [] w w' := by
  obtain ⟨pa, ca, rfl, _⟩ := ha.shape
  obtain ⟨pb, cb, rfl, _⟩ := hb.shape
  by_cases h1 : a.length ≤ 200
  · by_cases h2 : b.length ≤ 200
    · have key : ∀ {v : Value} {l : List UInt8} {M : Nat}, Reads w v l M → (l ≠ [] → M < w.heap.size) → ∃ M', Reads w v l M' ∧ M' < w.heap.size := by
        intro v l M h hM
        by_cases hl : l = []
        · subst hl; exact ⟨0, h.anyBlock 0, by have := hR.lt; omega⟩
        · exact ⟨M, h, hM hl⟩
      obtain ⟨Ma', ha', hMa'⟩ := key ha hMa
      obtain ⟨Mb', hb', hMb'⟩ := key hb hMb
      exact ShaOwn_small w pa pb ca cb a b Ma' Mb' ha' hb' hMa' hMb' hR h1 h2
    · exact ShaOwn_big w pa pb _ _ _ _ hR (.inr ⟨h1, by omega⟩) la lb
  · exact ShaOwn_big w pa pb _ _ _ _ hR (.inl (by omega)) la lb
end Go.Proofs.YtpabooocbileiaaDoor
