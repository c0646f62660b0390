/-
  RecordTells, walked.
-/
import Derived.Test.YtdcfcljgennipaaRfE
import Derived.Test.YtdcfcljgennipaaRingM
import Derived.Test.YtdcfcljgennipaaArgs
namespace Go.Proofs.Ytdcfcljgennipaa
open Go.RowKit

/-- A list of one record. -/
theorem recs_one (w : World) (cs : Array Value) (g n : Nat) (r : R4) (pv : Value) (M : Nat) (hcs : cs = (recCells 0 r pv).toArray) (hg : w.heap.size = g) (hn : n = 1) (hr : Reads w pv r.pay M) (hM : M < w.heap.size) :
    RecsAt (w.alloc (.cells cs 29)) (.slice (some ⟨g, 0, none⟩) n n) [(0, r)] := by
  subst hcs hg hn
  have hW := Whole.new w 29 (recCells 0 r pv)
  refine ⟨_, 1, rfl, Nat.le_refl _, fun i x hx => ?_⟩
  match i, hx with
  | 0, hx =>
    simp at hx; subst hx
    exact ⟨_, _, M, rfl, by simp, (hW.cell 0).trans rfl, (hW.cell 1).trans rfl, (hW.cell 2).trans rfl, (hW.cell 3).trans rfl, hr.keeps (Keeps.alloc [] _ _) (by simp), by simp; omega⟩
  | i + 1, hx => simp at hx

theorem put_there (bs l : List UInt8) (a : Nat) (h : a + l.length ≤ bs.length) : ((put bs a l).drop a).take l.length = l := by
  have h1 : (bs.take a).length = a := by simp; omega
  unfold put
  rw [List.drop_append_of_le_length (by omega), List.drop_of_length_le (by omega), List.nil_append, List.take_append_of_le_length (Nat.le_refl _), List.take_of_length_le (Nat.le_refl _)]

/-- What Write makes of a new flash of 24 sectors. -/
theorem write_new24 (p : List UInt8) (hp : p.length ≤ 4080) : ∃ s', (FS.new 24).write 256 p = (s', 0) ∧ s'.down = false ∧ s'.has (256 : Int) (sizeN p.length : Nat) ∧ s'.part (256 : Int) (sizeN p.length : Nat) = recB p := by
  have h1 := fillN_lt p.length
  have hz : sizeN p.length = 12 + fillN p.length := rfl
  have hl : (FS.new 24).bs.length = 6144 := by show (List.replicate (24 * 256) (255 : UInt8)).length = 6144; rw [List.length_replicate]
  have hb : room (FS.new 24).bs 256 (sizeN p.length) := by
    intro j _ h2
    have : j < 6144 := by omega
    show (List.replicate (24 * 256) (255 : UInt8))[j]? = some 255
    rw [List.getElem?_replicate, if_pos (by omega)]
  have hw := write_room (s := FS.new 24) 256 p hp rfl rfl (by decide) (by omega) hb
  have hle : 256 + (recB p).length ≤ (FS.new 24).bs.length := by rw [recB_length]; omega
  refine ⟨_, hw, rfl, ?_, ?_⟩
  · unfold FS.has
    show _ ∧ _ ∧ _ ≤ (((put (FS.new 24).bs 256 (recB p)).length : Nat) : Int)
    rw [put_length _ _ _ hle, hl]; omega
  · show (((put (FS.new 24).bs 256 (recB p)).drop (256 : Int).toNat).take ((sizeN p.length : Nat) : Int).toNat) = _
    rw [Int.toNat_natCast, ← recB_length]
    exact put_there _ _ 256 hle

theorem Sizes_same (n : Int) : ∃ z : Int, (∀ w, Calls Try.prog 19 #[.int .i64 n] w fun e w' => e = .returned (.int .i64 z) ∧ w = w') ∧ ∀ w, Calls Try.prog 20 #[.int .i64 n] w fun e w' => e = .returned (.int .i64 z) ∧ w = w' := by
  by_cases h : n < 0 ∨ 4080 < n
  · exact ⟨0, fun w => Size_out w n h, fun w => R4Size_out w n h⟩
  · obtain ⟨k, rfl⟩ := Int.eq_ofNat_of_zero_le (show 0 ≤ n by omega)
    exact ⟨_, fun w => Size_ok w k (by omega), fun w => R4Size_ok w k (by omega)⟩

set_option maxRecDepth 100000 in
set_option maxHeartbeats 1000000 in
theorem RecordTells_long (w : World) (x : Option Addr) (n cap : Nat) (y : Option Addr) (m cp : Nat) (k : Int) (h : 600 < n ∨ 4100 < m) :
    Calls Try.prog 3 #[.slice x n cap, .slice y m cp, .int .i64 k] w fun e w' => e = .returned (.bool true) ∧ Keeps [] w w' := by
  by_cases hn : 600 < n
  · have hn' : (600 : Int) < (n : Int) := by omega
    clear h
    go_enter Try.func3, Try.ntmps3
    go_wp2_with (go_at_call 10; refine (awake4_any _).mono ?_; rintro e w1 ⟨rfl, k1⟩; have K1 := Lib.hid k1; clear k1)
    go_ret
    exact ⟨rfl, K1.out⟩
  · have hn' : ¬ (600 : Int) < (n : Int) := by omega
    have hm' : (4100 : Int) < (m : Int) := by omega
    clear h
    go_enter Try.func3, Try.ntmps3
    go_wp2_with (go_at_call 10; refine (awake4_any _).mono ?_; rintro e w1 ⟨rfl, k1⟩; have K1 := Lib.hid k1; clear k1)
    go_ret
    exact ⟨rfl, K1.out⟩

set_option maxRecDepth 100000 in
set_option maxHeartbeats 4000000 in
theorem RecordTells_short (w : World) (vb vp : Value) (b p : List UInt8) (Mb Mp : Nat) (n : Int) (rb : Reads w vb b Mb) (rp : Reads w vp p Mp) (hb : b.length ≤ 600) (hp : p.length ≤ 4100) (hMb : b ≠ [] → Mb < w.heap.size) (hMp : p ≠ [] → Mp < w.heap.size) :
    Calls Try.prog 3 #[vb, vp, .int .i64 n] w fun e w' => e = .returned (.bool true) ∧ Keeps [] w w' := by
  obtain ⟨sz, hs1, hs2⟩ := Sizes_same n
  have HS1 := Lib.hid hs1
  have HS2 := Lib.hid hs2
  clear hs1 hs2
  obtain ⟨a, cap, rfl, hcap⟩ := rb.shape
  obtain ⟨ap, capp, rfl, hcapp⟩ := rp.shape
  have RB := Lib.hid rb
  have RP := Lib.hid rp
  have HB := Lib.hid hb
  have HP := Lib.hid hp
  have HMB := Lib.hid hMb
  have HMP := Lib.hid hMp
  obtain ⟨N, hN⟩ : ∃ N, N = b.length := ⟨_, rfl⟩
  obtain ⟨P, hP⟩ : ∃ P, P = p.length := ⟨_, rfl⟩
  rw [← hN] at RB hb hcap ⊢
  rw [← hP] at RP hp hcapp ⊢
  have HN := Lib.hid hN
  have HPL := Lib.hid hP
  clear hN hP rb rp hMb hMp
  go_enter Try.func3, Try.ntmps3
  go_wp2_with fail
  refine (Fresh_any _ _ b Mb RB.out (by have := HB.out; omega)).mono ?_
  rintro e w1 ⟨B1, c1, rfl, hB1, hr1, k1⟩
  have R1 := Lib.hid hr1
  have K1 := Lib.hid k1
  rw [← HN.out]
  clear hr1 k1
  go_wp2_with fail
  refine (Fresh_any _ _ p Mp (RP.out.keeps K1.out (by simp)) (by have := HP.out; omega)).mono ?_
  rintro e w2 ⟨B2, c2, rfl, hB2, hr2, k2⟩
  have R1b := Lib.hid (R1.out.keeps k2 (by simp))
  have R2 := Lib.hid hr2
  have K2 := Lib.hid (K1.out.trans k2)
  rw [← HPL.out]
  clear hr2 k2 R1 K1
  go_wp2_with fail
  refine (R4Scan_any _ _ b Mb (RB.out.keeps K2.out (by simp)) (by have := HB.out; omega)).mono ?_
  rintro e w3 ⟨ao, cp, vs, rfl, ho3, hrs3, k3⟩
  have s3 : 0 < w3.heap.size := by have := k3.size; have := R2.out.lt; omega
  have HL3 := Lib.hid (RecsAt.ofScan ho3 hrs3 s3)
  have R1c := Lib.hid (R1b.out.keeps k3 (by simp))
  have R2c := Lib.hid (R2.out.keeps k3 (by simp))
  have K3 := Lib.hid (K2.out.trans k3)
  have HCN := Lib.hid (rowL_count b)
  obtain ⟨rn, hrn⟩ : ∃ rn, rn = (rowL b).length := ⟨_, rfl⟩
  have HRN := Lib.hid hrn
  rw [← hrn] at HL3 HCN ⊢
  obtain ⟨ek, hek⟩ : ∃ ek, ek = endK b := ⟨_, rfl⟩
  have HEK := Lib.hid hek
  rw [← hek]
  clear ho3 hrs3 k3 hrn hek R1b R2 K2
  go_wp2_with fail
  have HRD1 := R1c.out.reads
  rw [← HN.out] at HRD1
  refine (At_any _ _ b B1 HRD1 (by have := HB.out; omega)).mono ?_
  rintro e w4 ⟨pa4, pn4, pc4, rfl, ho4, k4⟩
  have HO4 := Lib.hid ho4
  have K34 := Lib.hid k4
  have K4 := Lib.hid (K3.out.trans k4)
  clear ho4 k4 HRD1
  go_wp2_with fail
  refine (R4At_any _ _ b Mb (RB.out.keeps K4.out (by simp)) (by have := HB.out; omega)).mono ?_
  rintro e w5 ⟨pa5, pn5, pc5, rfl, ho5, k5⟩
  have HO5 := Lib.hid ho5
  have HO45 := Lib.hid (World.ownsRow.keeps HO4.out k5 (by simp))
  have K35 := Lib.hid (K34.out.trans k5)
  have K5 := Lib.hid (K4.out.trans k5)
  generalize atL b = r at *
  obtain ⟨z, kd, py⟩ := r
  dsimp only [recCells] at *
  have s5 : 0 < w5.heap.size := by have := K35.out.size; omega
  obtain ⟨M4, rd4, lt4⟩ := owns_reads (l := py) (by
    have h := HO45.out
    have e := h.1
    obtain ⟨x1, x2, e2⟩ := owns_shape2 h
    exact h) s5
  obtain ⟨M5, rd5, lt5⟩ := owns_reads (l := py) HO5.out s5
  have RD4 := Lib.hid rd4
  have RD5 := Lib.hid rd5
  clear ho5 k5 K34 rd4 rd5 HO4 HO45 HO5
  obtain ⟨g1, hg1⟩ : ∃ g1, g1 = w5.heap.size := ⟨_, rfl⟩
  have WA := Lib.hid (show Whole ((w5.alloc (.cells #[.int .i64 0, .int .i64 0, .int .u8 0, .slice none 0 0] 29)).alloc (.cells #[.int .i64 0, .int .i64 0, .int .u8 0, .slice none 0 0] 29)) w5.heap.size 29 [.int .i64 0, .int .i64 0, .int .u8 0, .slice none 0 0] from
    (Whole.new w5 29 [.int .i64 0, .int .i64 0, .int .u8 0, .slice none 0 0]).keeps (Keeps.alloc [] _ _) (by simp))
  have WB := Lib.hid (show Whole (((w5.alloc (.cells #[.int .i64 0, .int .i64 0, .int .u8 0, .slice none 0 0] 29)).alloc (.cells #[.int .i64 0, .int .i64 0, .int .u8 0, .slice none 0 0] 29)).setRow w5.heap.size #[.int .i64 0, .int .i64 z, .int .u8 (kd.toNat : Int), .slice pa4 pn4 pc4]) (w5.heap.size + 1) 29 [.int .i64 0, .int .i64 0, .int .u8 0, .slice none 0 0] from
    (Whole.new_at (w5.alloc (.cells #[.int .i64 0, .int .i64 0, .int .u8 0, .slice none 0 0] 29)) 29 [.int .i64 0, .int .i64 0, .int .u8 0, .slice none 0 0] (w5.heap.size + 1) (by simp)).keeps (Keeps.setRow (S := [w5.heap.size]) _ (by simp) _) (by simp))
  go_upto_region 6 with (first | (refine wpList_store_row rfl 29 _ _ rfl w5.heap.size #[.int .i64 0, .int .i64 z, .int .u8 (kd.toNat : Int), .slice pa4 pn4 pc4] rfl rfl 29 #[.int .i64 0, .int .i64 0, .int .u8 0, .slice none 0 0] WA.out (by rw [szRecord]; rfl) rfl (rec_one _ _ _ _ _ _) ?_) | (refine wpList_store_row rfl 29 _ _ rfl (w5.heap.size + 1) #[.int .i64 0, .int .i64 z, .int .u8 (kd.toNat : Int), .slice pa5 pn5 pc5] rfl rfl 29 #[.int .i64 0, .int .i64 0, .int .u8 0, .slice none 0 0] WB.out (by rw [szRecord]; rfl) rfl (rec_one _ _ _ _ _ _) ?_))
  have kX : Keeps [] w5 ((((w5.alloc (.cells #[.int .i64 0, .int .i64 0, .int .u8 0, .slice none 0 0] 29)).alloc (.cells #[.int .i64 0, .int .i64 0, .int .u8 0, .slice none 0 0] 29)).setRow w5.heap.size #[.int .i64 0, .int .i64 z, .int .u8 (kd.toNat : Int), .slice pa4 pn4 pc4]).setRow (w5.heap.size + 1) #[.int .i64 0, .int .i64 z, .int .u8 (kd.toNat : Int), .slice pa5 pn5 pc5]) :=
    ((((Keeps.alloc [] w5 _).trans (Keeps.alloc [] _ _)).then (Keeps.setRow (S := [w5.heap.size]) _ (g := w5.heap.size) (by simp) _) (fun x hx => .inr (by have := List.mem_singleton.1 hx; omega))).then (Keeps.setRow (S := [w5.heap.size + 1]) _ (g := w5.heap.size + 1) (by simp) _) (fun x hx => .inr (by have := List.mem_singleton.1 hx; omega)))
  have WX1 := (WA.out.setRow [.int .i64 0, .int .i64 z, .int .u8 (kd.toNat : Int), .slice pa4 pn4 pc4]).keeps (Keeps.setRow (S := [w5.heap.size + 1]) _ (g := w5.heap.size + 1) (by simp) #[.int .i64 0, .int .i64 z, .int .u8 (kd.toNat : Int), .slice pa5 pn5 pc5]) (by simp)
  have WX2 := WB.out.setRow [.int .i64 0, .int .i64 z, .int .u8 (kd.toNat : Int), .slice pa5 pn5 pc5]
  generalize World.setRow (World.setRow _ _ _) _ _ = X at *
  have sX : w5.heap.size + 1 < X.heap.size := WX2.lt
  have KX := Lib.hid (K5.out.trans kX)
  have K3X := Lib.hid (K35.out.trans kX)
  have HWX1 := Lib.hid WX1
  have HWX2 := Lib.hid WX2
  have RD4X := Lib.hid (RD4.out.keeps kX (by simp))
  have RD5X := Lib.hid (RD5.out.keeps kX (by simp))
  have HLX := Lib.hid (HL3.out.keeps K3X.out (by simp))
  have R1X := Lib.hid (R1c.out.keeps K3X.out (by simp))
  have R2X := Lib.hid (R2c.out.keeps K3X.out (by simp))
  have HLT4 := Lib.hid (show M4 < X.heap.size by omega)
  have HLT5 := Lib.hid (show M5 < X.heap.size by omega)
  generalize w5.heap.size = h5 at *
  clear WX1 WX2 kX WA WB RD4 RD5 HL3 R1c R2c K3 K4 K5 K35 lt4 lt5 s5 hg1 s3
  go_wp2_with fail
  have HRD := R1X.out.reads
  rw [← HN.out] at HRD
  refine (Scan_any _ _ b B1 HRD (by have := HB.out; omega) (fun _ => R1X.out.lt)).mono ?_
  rintro e w6 ⟨ao6, cp6, vs6, rfl, ho6, hrs6, k6, hs6⟩
  have HL6 := Lib.hid (RecsAt.ofScan ho6 hrs6 (by omega))
  rw [← HRN.out] at HL6 ⊢
  have HLX6 := Lib.hid (HLX.out.keeps k6 (by simp))
  have K6 := Lib.hid k6
  clear ho6 hrs6 k6 HRD HLX
  go_wp2_with fail
  refine (AreRecords_same _ _ _ (rowL b) HL6.out HLX6.out (by have := HCN.out; rw [← HRN.out]; have := HB.out; omega)).mono ?_
  rintro e w7 ⟨rfl, k7⟩
  have K7 := Lib.hid (K6.out.trans k7)
  have HRD7 := (R1X.out.keeps K7.out (by simp)).reads
  rw [← HN.out] at HRD7
  have RD7 := Lib.hid HRD7
  have LT7 := Lib.hid (R1X.out.keeps K7.out (by simp)).lt
  clear k7 HL6 HLX6 K6 HRD7
  go_wp2_with fail
  refine (recEnd_any _ _ b B1 RD7.out (by have := HB.out; omega) (fun _ => LT7.out)).mono ?_
  rintro e w8 ⟨rfl, k8⟩
  rw [← HEK.out]
  have K8 := Lib.hid (K7.out.trans k8)
  have s8 := K8.out.size
  have W81 := Lib.hid (HWX1.out.keeps K8.out (by simp))
  have W82 := Lib.hid ((HWX2.out.keeps K8.out (by simp)).keeps (Keeps.alloc [] w8 (.cells #[.int .i64 0, .int .i64 z, .int .u8 (kd.toNat : Int), .slice pa4 pn4 pc4] 29)) (by simp))
  have RL1 := Lib.hid ((recs_one w8 #[.int .i64 0, .int .i64 z, .int .u8 (kd.toNat : Int), .slice pa4 pn4 pc4] w8.heap.size 1 ⟨z, kd, py⟩ _ M4 rfl rfl rfl (RD4X.out.keeps K8.out (by simp)) (by have := HLT4.out; omega)).keeps (Keeps.alloc [] _ (.cells #[.int .i64 0, .int .i64 z, .int .u8 (kd.toNat : Int), .slice pa5 pn5 pc5] 29)) (by simp))
  have RL2 := Lib.hid (recs_one (w8.alloc (.cells #[.int .i64 0, .int .i64 z, .int .u8 (kd.toNat : Int), .slice pa4 pn4 pc4] 29)) #[.int .i64 0, .int .i64 z, .int .u8 (kd.toNat : Int), .slice pa5 pn5 pc5] (w8.heap.size + 1) 1 ⟨z, kd, py⟩ _ M5 rfl (by simp) rfl ((RD5X.out.keeps K8.out (by simp)).keeps (Keeps.alloc [] _ _) (by simp)) (by have := HLT5.out; simp; omega))
  clear k8 K7 RD7 LT7
  have x0 := (W81.out.cell 0).trans (show _ = some (Value.int .i64 0) from rfl)
  have x1 := (W81.out.cell 1).trans (show _ = some (Value.int .i64 (z : Int)) from rfl)
  have x2 := (W81.out.cell 2).trans (show _ = some (Value.int .u8 (kd.toNat : Int)) from rfl)
  have x3 := (W81.out.cell 3).trans (show _ = some (Value.slice pa4 pn4 pc4) from rfl)
  have W82' := HWX2.out.keeps K8.out (by simp)
  have z0 := (W82'.cell 0).trans (show _ = some (Value.int .i64 0) from rfl)
  have z1 := (W82'.cell 1).trans (show _ = some (Value.int .i64 (z : Int)) from rfl)
  have z2 := (W82'.cell 2).trans (show _ = some (Value.int .u8 (kd.toNat : Int)) from rfl)
  have z3 := (W82'.cell 3).trans (show _ = some (Value.slice pa5 pn5 pc5) from rfl)
  have lz : h5 + 1 < w8.heap.size := W82'.lt
  have lz2 : h5 < w8.heap.size := by omega
  clear W82'
  go_wp2_with fail
  refine (AreRecords_same _ _ _ _ RL1.out RL2.out (by simp)).mono ?_
  rintro e w9 ⟨rfl, k9⟩
  have K9 := Lib.hid (K8.out.trans (((Keeps.alloc [] w8 (.cells #[.int .i64 0, .int .i64 z, .int .u8 (kd.toNat : Int), .slice pa4 pn4 pc4] 29)).trans (Keeps.alloc [] _ (.cells #[.int .i64 0, .int .i64 z, .int .u8 (kd.toNat : Int), .slice pa5 pn5 pc5] 29))).trans k9))
  have HRD9 := (R1X.out.keeps K9.out (by simp)).reads
  rw [← HN.out] at HRD9
  have RD9 := Lib.hid HRD9
  have RB9 := Lib.hid (RB.out.keeps (KX.out.trans K9.out) (by simp))
  clear k9 K8 HRD9 W81 W82 RL1 RL2 RD4X RD5X HLT4 HLT5 HWX1 HWX2 s8
  go_wp2_with fail
  refine (Is_any _ _ _ b b B1 Mb RD9.out RB9.out).mono ?_
  rintro e w' ⟨rfl, rfl⟩
  rw [beq_self_eq_true]
  go_wp2_with fail
  refine (HS1.out _).mono ?_
  rintro e w' ⟨rfl, rfl⟩
  go_wp2_with fail
  refine (HS2.out _).mono ?_
  rintro e w' ⟨rfl, rfl⟩
  go_wp2_with fail
  have K09 := Lib.hid (KX.out.trans K9.out)
  have R29 := Lib.hid (R2X.out.keeps K9.out (by simp))
  have RP9 := Lib.hid (RP.out.keeps K09.out (by simp))
  clear RD9 RB9 K9 KX R1X R2X K3X HS1 HS2
  refine (New_ok _ 24 (by decide) (by decide)).mono ?_
  rintro e wa ⟨F, B, W, M, rfl, hF0, hB0, hW0, hF, ka⟩
  have HF := Lib.hid hF
  have KA := Lib.hid (K09.out.trans ka)
  have R2A := Lib.hid (R29.out.keeps ka (by simp))
  have RPA := Lib.hid (RP9.out.keeps ka (by simp))
  have BLT := Lib.hid (show B2 < F ∧ B2 < B from ⟨by have := R29.out.lt; omega, by have := R29.out.lt; omega⟩)
  have HFB := Lib.hid (show w.heap.size ≤ F ∧ w.heap.size ≤ B from ⟨by have := K09.out.size; omega, by have := K09.out.size; omega⟩)
  clear hF ka R29 RP9 hF0 hB0 hW0
  obtain ⟨M', hrp', hM'⟩ := RPA.out.away (base := w.heap.size) HMP.out [F, B] (fun x hx => by
    have := HFB.out
    simp at hx
    rcases hx with rfl | rfl
    · exact this.1
    · exact this.2)
  have RPA' := Lib.hid hrp'
  have HM' := Lib.hid hM'
  have hrd2 := R2A.out.reads
  rw [← HPL.out] at hrd2
  have hw := Write_any wa HF.out 256 _ p B2 hrd2 (by have := HP.out; omega)
  have B2n := Lib.hid (show B2 ∉ [F, B] by have := BLT.out; simp; omega)
  have HRD2 := Lib.hid hrd2
  clear hrp' hM' RPA R2A hrd2 HF
  by_cases h80 : P ≤ 4080
  · have hp80 : ¬ (4080 : Int) < (P : Int) := by omega
    obtain ⟨s', hws, hsd, hsh, hsp⟩ := write_new24 p (by rw [← HPL.out]; exact h80)
    rw [hws] at hw
    have HW := Lib.hid hw
    rw [← HPL.out] at hsh hsp
    have HBO := Lib.hid (Bytes_ok (p := p) (hp := by rw [← HPL.out]; exact h80))
    have HRB := Lib.hid (R4Bytes_any (p := p) (hp := by rw [← HPL.out]; exact h80))
    rw [← HPL.out] at HBO HRB
    obtain ⟨zz, hzz⟩ : ∃ zz, zz = sizeN P := ⟨_, rfl⟩
    rw [← hzz] at hsh hsp HBO HRB
    have HRL := Lib.hid (show zz = (recB p).length by rw [recB_length, ← HPL.out]; exact hzz)
    have hz5 : zz ≤ 5000 := by rw [hzz]; have := fillN_lt P; unfold sizeN; omega
    have HSD := Lib.hid hsd
    have HSH := Lib.hid hsh
    have HSP := Lib.hid hsp
    clear hw hws hsd hsh hsp hzz
    go_wp2_with fail
    refine HW.out.mono ?_
    rintro e wb ⟨rfl, hFb, kb⟩
    have HFB2 := Lib.hid hFb
    have KB := Lib.hid (KA.out.then kb (fun x hx => .inr (by
      have := HFB.out
      simp at hx
      rcases hx with rfl | rfl
      · exact this.1
      · exact this.2)))
    have R2B := Lib.hid (HRD2.out.keeps kb B2n.out)
    have RPB := Lib.hid (RPA'.out.keeps kb HM'.out)
    clear hFb kb RPA' HRD2 HW
    go_wp2_with fail
    refine (Is_any _ _ _ p p B2 M' R2B.out RPB.out).mono ?_
    rintro e w' ⟨rfl, rfl⟩
    rw [beq_self_eq_true]
    go_wp2_with fail
    refine (HBO.out _ _ B2 R2B.out).mono ?_
    rintro e wc ⟨vc, rfl, hoc, kc⟩
    have KC := Lib.hid (KB.out.trans kc)
    have HOC := Lib.hid hoc
    have RPC := Lib.hid (RPB.out.keeps kc (by simp))
    have HFC := Lib.hid (HFB2.out.keeps kc (by simp) (by simp) (by simp) (by simp))
    obtain ⟨pvc, cvc, rfl⟩ := owns_shape2 hoc
    clear hoc kc R2B RPB HFB2
    go_wp2_with fail
    refine (HRB.out _ _ M' RPC.out).mono ?_
    rintro e wd ⟨vd, rfl, hod, kd⟩
    have KD := Lib.hid (KC.out.trans kd)
    have sd : 0 < wd.heap.size := by have := kd.size; have := HFC.out.lt; omega
    obtain ⟨pvd, cvd, rfl⟩ := owns_shape2 hod
    have hoc := World.ownsRow.keeps HOC.out kd (by simp)
    obtain ⟨Mc, rc, _⟩ := owns_reads (l := recB p) hoc sd
    obtain ⟨Md, rd, _⟩ := owns_reads (l := recB p) hod sd
    have RC := Lib.hid rc
    have RDD := Lib.hid rd
    have HFD := Lib.hid (HFC.out.keeps kd (by simp) (by simp) (by simp) (by simp))
    clear hod hoc kd rc rd HOC HFC RPC
    go_wp2_with fail
    refine (Is_any _ _ _ (recB p) (recB p) Mc Md RC.out RDD.out).mono ?_
    rintro e w' ⟨rfl, rfl⟩
    rw [beq_self_eq_true]
    go_wp2_with fail
    refine (Read_ok _ HFD.out 256 _ HSD.out HSH.out).mono ?_
    rintro e we ⟨be, ce, rfl, hbe, hre, ke⟩
    rw [HSP.out] at hre
    have hrr := hre.reads
    rw [← HRL.out] at hrr
    have RE := Lib.hid hrr
    have RDE := Lib.hid (RDD.out.keeps ke (by simp))
    have KE := Lib.hid (KD.out.trans ke)
    rw [Int.toNat_natCast]
    clear hre hrr ke RC RDD hbe
    go_wp2_with fail
    refine (Is_any _ _ _ (recB p) (recB p) be Md RE.out RDE.out).mono ?_
    rintro e w' ⟨rfl, rfl⟩
    rw [beq_self_eq_true]
    go_wp2_with (go_at_call 10; refine (awake4_any _).mono ?_; rintro e wf ⟨rfl, kf⟩; have KF := Lib.hid kf; clear kf)
    go_ret
    exact ⟨rfl, KE.out.trans KF.out⟩
  · have hp80 : (4080 : Int) < (P : Int) := by omega
    have hws : (FS.new 24).write 256 p = (FS.new 24, 3) := by
      unfold FS.write
      rw [if_pos (by rw [← HPL.out]; omega)]
    rw [hws] at hw
    have HW := Lib.hid hw
    have hP6 : P ≤ 9223372036854775807 := by omega
    clear hw hws
    go_wp2_with fail
    refine HW.out.mono ?_
    rintro e wb ⟨rfl, hFb, kb⟩
    have KB := Lib.hid (KA.out.then kb (fun x hx => .inr (by
      have := HFB.out
      simp at hx
      rcases hx with rfl | rfl
      · exact this.1
      · exact this.2)))
    have R2B := Lib.hid (HRD2.out.keeps kb B2n.out)
    have RPB := Lib.hid (RPA'.out.keeps kb HM'.out)
    clear hFb kb RPA' HRD2 HW
    go_wp2_with fail
    refine (Is_any _ _ _ p p B2 M' R2B.out RPB.out).mono ?_
    rintro e w' ⟨rfl, rfl⟩
    rw [beq_self_eq_true]
    go_wp2_with fail
    refine (Bytes_long _ _ _ _ (by omega) hP6).mono ?_
    rintro e w' ⟨rfl, rfl⟩
    go_wp2_with (go_at_call 10; refine (awake4_any _).mono ?_; rintro e wf ⟨rfl, kf⟩; have KF := Lib.hid kf; clear kf)
    go_ret
    exact ⟨rfl, KB.out.trans KF.out⟩

theorem RecordTells_any (w : World) (vb vp : Value) (b p : List UInt8) (Mb Mp : Nat) (n : Int) (rb : Reads w vb b Mb) (rp : Reads w vp p Mp) (hMb : b ≠ [] → Mb < w.heap.size) (hMp : p ≠ [] → Mp < w.heap.size) :
    Calls Try.prog 3 #[vb, vp, .int .i64 n] w fun e w' => e = .returned (.bool true) ∧ Keeps [] w w' := by
  by_cases h : 600 < b.length ∨ 4100 < p.length
  · obtain ⟨a, cap, rfl, _⟩ := rb.shape
    obtain ⟨a', cap', rfl, _⟩ := rp.shape
    exact RecordTells_long w a _ cap a' _ cap' n h
  · exact RecordTells_short w vb vp b p Mb Mp n rb rp (by omega) (by omega) hMb hMp
end Go.Proofs.Ytdcfcljgennipaa
