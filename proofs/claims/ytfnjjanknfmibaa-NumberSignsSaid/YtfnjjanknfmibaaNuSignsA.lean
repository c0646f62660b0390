/-
  NumberSigns, walked: the three signs one by one. Written by draft/gensig.py.
-/
import Derived.Test.YtfnjjanknfmibaaNuBackA
namespace Go.Proofs.Ytfnjjanknfmibaa
open Go.RowKit Go.Deep
set_option linter.unusedVariables false

/-- The digits that are made of bytes. -/
def sigL (kb : Nat) (l : List UInt8) : List UInt8 := l.map fun d => letN (d.toNat % kb)
def sigV (kb : Nat) (l : List UInt8) : Nat := l.foldl (fun v d => v * kb + d.toNat % kb) 0
theorem sig_digL (kb : Nat) (hk : 2 ≤ kb ∧ kb ≤ 36) (l : List UInt8) : DigL (sigL kb l) := by
  intro c hc
  obtain ⟨d, hd, rfl⟩ := List.mem_map.1 hc
  have := let_worth (d.toNat % kb) (by have := Nat.mod_lt d.toNat (show 0 < kb by omega); omega)
  exact ⟨this.2.2.2.2.2.1, this.2.2.2.2.2.2.1, this.2.2.2.2.2.2.2, this.2.2.2.2.1, this.2.2.1, this.2.2.2.1⟩
theorem sig_snoc (kb : Nat) (l : List UInt8) (d : UInt8) : sigV kb (l ++ [d]) = sigV kb l * kb + d.toNat % kb ∧ sigL kb (l ++ [d]) = sigL kb l ++ [letN (d.toNat % kb)] := by
  unfold sigV sigL
  simp
theorem sig_lt (kb : Nat) (hk : 2 ≤ kb ∧ kb ≤ 16) : ∀ (l : List UInt8), sigV kb l.reverse < kb ^ l.length := by
  intro l
  induction l with
  | nil => simp [sigV]
  | cons d l ih =>
    rw [List.reverse_cons, (sig_snoc kb _ d).1, List.length_cons, Nat.pow_succ]
    have hm := Nat.mod_lt d.toNat (show 0 < kb by omega)
    have : (sigV kb l.reverse + 1) * kb ≤ kb ^ l.length * kb := Nat.mul_le_mul_right _ ih
    rw [Nat.add_mul] at this
    omega
theorem sig_bound (kb : Nat) (hk : 2 ≤ kb ∧ kb ≤ 16) (l : List UInt8) (n : Nat) (hl : l.length ≤ n) : sigV kb l < 16 ^ n := by
  have h := sig_lt kb hk l.reverse
  rw [List.reverse_reverse, List.length_reverse] at h
  exact Nat.lt_of_lt_of_le h (Nat.le_trans (Nat.pow_le_pow_left hk.2 _) (Nat.pow_le_pow_right (by decide) hl))
theorem sig_fold (kb : Nat) (hk : 2 ≤ kb ∧ kb ≤ 16) : ∀ (l : List UInt8), l.length ≤ 8 → (sigL kb l.reverse).foldl (moreN kb) (some 0) = some (sigV kb l.reverse) := by
  intro l
  induction l with
  | nil => intro _; rfl
  | cons d l ih =>
    intro hl
    rw [List.reverse_cons, (sig_snoc kb _ d).1, (sig_snoc kb _ d).2, List.foldl_append, ih (by simp at hl; omega)]
    have hm := Nat.mod_lt d.toNat (show 0 < kb by omega)
    have hb := sig_bound kb hk (l.reverse ++ [d]) 8 (by simpa using hl)
    rw [(sig_snoc kb _ d).1] at hb
    exact more_some (let_dig (by omega) hm) (by have : (16 : Nat) ^ 8 = 4294967296 := by decide
                                                omega)
theorem sig_val (kb : Nat) (hk : 2 ≤ kb ∧ kb ≤ 16) (l : List UInt8) (hl : l.length ≤ 8) : valN kb (sigL kb l) = if l = [] then none else some (sigV kb l) := by
  unfold valN
  have h := sig_fold kb hk l.reverse (by rw [List.length_reverse]; exact hl)
  rw [List.reverse_reverse] at h
  by_cases h0 : l = []
  · subst h0; rfl
  · rw [if_neg (by unfold sigL; simpa using h0), if_neg h0, h]
theorem sig_reads (kb : Nat) (mk : UInt8) (b : Nat) (hk : 2 ≤ kb ∧ kb ≤ 16) (hm : mk.toNat = 35 ∨ mk.toNat = 36 ∨ mk.toNat = 37) (hmb : markB mk = kb) (l : List UInt8) (hl : l.length ≤ 8) :
    (l = [] → readN (mk :: sigL kb l) b = ⟨0, 0, false, false⟩ ∧ readN (mk :: 45 :: sigL kb l) b = ⟨0, 0, false, false⟩ ∧ readN (sigL kb l) kb = ⟨0, 0, false, false⟩) ∧
    (l ≠ [] → readN (mk :: sigL kb l) b = ⟨sigV kb l, 0, false, true⟩ ∧ readN (mk :: 45 :: sigL kb l) b = ⟨(4294967296 - sigV kb l) % 4294967296, 0, false, true⟩ ∧ readN (sigL kb l) kb = ⟨sigV kb l, 0, false, true⟩) := by
  have hd := sig_digL kb (by omega) l
  have hv := sig_val kb hk l hl
  have hb := sig_bound kb hk l 8 hl
  rw [show (16 : Nat) ^ 8 = 4294967296 by decide] at hb
  have r1 := read_mark b false mk _ hd hm
  have r2 := read_mark b true mk _ hd hm
  have r3 := read_plain kb false _ hd
  rw [hmb, hv] at r1 r2
  rw [hv] at r3
  refine ⟨fun h => ?_, fun h => ?_⟩
  · rw [if_pos h] at r1 r2 r3
    exact ⟨r1, r2, r3⟩
  · rw [if_neg h] at r1 r2 r3
    generalize sigV kb l = n at *
    rw [(readV_one n hb).1, Nat.mod_eq_of_lt hb] at r1 r3
    rw [(readV_one n hb).2] at r2
    refine ⟨r1, ?_, r3⟩
    have e : negN n % 4294967296 = (4294967296 - n) % 4294967296 := by
      have := neg_or n (by omega)
      omega
    rw [← e]
    exact r2
theorem hexD_at (v : Nat) (h : v < 16) : ([48, 49, 50, 51, 52, 53, 54, 55, 56, 57, 65, 66, 67, 68, 69, 70] : List UInt8)[v]? = some (letN v) := by
  have h0 : (List.range 16).all (fun v => decide (([48, 49, 50, 51, 52, 53, 54, 55, 56, 57, 65, 66, 67, 68, 69, 70] : List UInt8)[v]? = some (letN v))) = true := by decide +kernel
  exact of_decide_eq_true (List.all_eq_true.1 h0 v (List.mem_range.2 h))

set_option maxRecDepth 100000 in
set_option maxHeartbeats 4000000 in
theorem NumberSigns_0 (w : World) (sn : Nat) (hsn : sn < 256) (hj : sn % 3 = 0) (v : Value) (l : List UInt8) (M : Nat) (h : Reads w v l M) (hl : l.length ≤ maxLen) (b : Nat) : Calls Try.prog 7 #[.int .u8 (sn : Int), v, .int .u32 (b : Int)] w fun e w' => e = .returned (.bool true) ∧ Keeps [] w w' := by
  obtain ⟨va, vc, rfl, _⟩ := h.shape
  have ej : (sn : Int) % 3 = 0 := by omega
  obtain ⟨m, hm⟩ : ∃ m, m = min l.length 8 := ⟨_, rfl⟩
  have hmn := fun w ts t => run_min2 w ts t (l.length : Int) 8 m (by omega)
  obtain ⟨pa, pc, hcut, hrd⟩ := h.head m (by omega)
  have hlen : (l.take m).length = m := by simp; omega
  have hml : maxLen = 9223372036854775807 := rfl
  rw [hlen] at hcut hrd
  generalize l.take m = ds at *
  have hm8 : m ≤ 8 := by omega
  have HRS := Lib.hid (sig_reads 10 35 b (by decide) (by decide) (by decide) ds (by omega))
  have HN := Lib.hid hlen
  have HRD := Lib.hid (show ds ≠ [] → ∃ off, pa = some ⟨M, off, none⟩ ∧ ∀ i c, ds[i]? = some c → w.cell? ⟨M, off + i, none⟩ = some (bv c) from fun h0 => by
    obtain ⟨off, cap, e, _, hc⟩ := hrd.at h0
    injection e with e _ _
    exact ⟨off, e, hc⟩)
  clear h hm hrd hlen hj
  generalize l.length = ln at *
  have ss : ∀ (V : World) (o : Obj), (V.alloc o).heap.size = V.heap.size + 1 := fun V o => by simp
  have HBX := Lib.hid (show ∀ U, Keeps [] (w.alloc (.cells #[.string ⟨#[35]⟩, .int .u32 10, .string ⟨#[36]⟩, .int .u32 16, .string ⟨#[37]⟩, .int .u32 2] 52)) U → U.cell? ⟨w.heap.size, 0, none⟩ = some (.string ⟨#[35]⟩) ∧ U.cell? ⟨w.heap.size, 1, none⟩ = some (.int .u32 10) from fun U hU => ⟨hU.cell (cell_alloc_new w _ _ 0) (by simp), hU.cell (cell_alloc_new w _ _ 1) (by simp)⟩)
  obtain ⟨b0, b1⟩ := HBX.out _ (Keeps.refl _ _)
  go_enter Try.func7, Try.ntmps7
  go_upto_region 3 with fail
  have HKK := Lib.hid (show ∀ U, Keeps [] ((w.alloc (.cells #[.string ⟨#[35]⟩, .int .u32 10, .string ⟨#[36]⟩, .int .u32 16, .string ⟨#[37]⟩, .int .u32 2] 52)).alloc (.cells #[.string ⟨#[35]⟩, .int .u32 10] 52)) U → U.cell? ⟨w.heap.size + 1, 0, none⟩ = some (.string ⟨#[35]⟩) ∧ U.cell? ⟨w.heap.size + 1, 1, none⟩ = some (.int .u32 10) from fun U hU => by
    have e : (w.alloc (.cells #[.string ⟨#[35]⟩, .int .u32 10, .string ⟨#[36]⟩, .int .u32 16, .string ⟨#[37]⟩, .int .u32 2] 52)).heap.size = w.heap.size + 1 := by simp
    have h0 := cell_alloc_new (w.alloc (.cells #[.string ⟨#[35]⟩, .int .u32 10, .string ⟨#[36]⟩, .int .u32 16, .string ⟨#[37]⟩, .int .u32 2] 52)) #[.string ⟨#[35]⟩, .int .u32 10] 52 0
    have h1 := cell_alloc_new (w.alloc (.cells #[.string ⟨#[35]⟩, .int .u32 10, .string ⟨#[36]⟩, .int .u32 16, .string ⟨#[37]⟩, .int .u32 2] 52)) #[.string ⟨#[35]⟩, .int .u32 10] 52 1
    rw [e] at h0 h1
    exact ⟨hU.cell h0 (by simp), hU.cell h1 (by simp)⟩)
  have HKV := Lib.hid ((Keeps.alloc [] w (.cells #[.string ⟨#[35]⟩, .int .u32 10, .string ⟨#[36]⟩, .int .u32 16, .string ⟨#[37]⟩, .int .u32 2] 52)).trans (Keeps.alloc [] (w.alloc (.cells #[.string ⟨#[35]⟩, .int .u32 10, .string ⟨#[36]⟩, .int .u32 16, .string ⟨#[37]⟩, .int .u32 2] 52)) (.cells #[.string ⟨#[35]⟩, .int .u32 10] 52)))
  clear b0 b1 HBX ej
  have HKL := Lib.hid (show w.heap.size + 1 < ((w.alloc (.cells #[.string ⟨#[35]⟩, .int .u32 10, .string ⟨#[36]⟩, .int .u32 16, .string ⟨#[37]⟩, .int .u32 2] 52)).alloc (.cells #[.string ⟨#[35]⟩, .int .u32 10] 52)).heap.size by simp)
  generalize (w.alloc (.cells #[.string ⟨#[35]⟩, .int .u32 10, .string ⟨#[36]⟩, .int .u32 16, .string ⟨#[37]⟩, .int .u32 2] 52)).alloc (.cells #[.string ⟨#[35]⟩, .int .u32 10] 52) = V at *
  generalize w.heap.size + 1 = K at *
  go_wp2
  go_loopw [9, 10, 44] (fun sv nv i wr => ∃ (k wt : Nat) (ST : ByteArray), k ≤ m ∧ sv = .string ST ∧ nv = .int .u32 (wt : Int) ∧ i = .int .i64 (k : Int) ∧ Hid (ST = ByteArray.mk (sigL 10 (ds.take k)).toArray ∧ wt = sigV 10 (ds.take k)) ∧ Hid (Keeps [] V wr)) (fun _ _ i _ => m - (intOf i).toNat)
  case atStart => exact ⟨0, 0, _, by omega, rfl, rfl, rfl, ⟨rfl, rfl⟩, Keeps.refl _ _⟩
  case round =>
    obtain ⟨k, wt, ST, hk, rfl, rfl, rfl, HS, HK⟩ := hrel
    obtain ⟨c0, c1⟩ := HKK.out _ HK.out
    by_cases hlt : k < m
    · obtain ⟨d, hd⟩ : ∃ d, ds[k]? = some d := ⟨_, List.getElem?_eq_getElem (by have := HN.out; omega)⟩
      obtain ⟨off, rfl, hcs⟩ := HRD.out (by intro e; rw [e] at hd; cases hd)
      have ck := (HKV.out.trans HK.out).cell (hcs k d hd) (by simp)
      have HTK := Lib.hid (show ds.take (k + 1) = ds.take k ++ [d] by rw [List.take_add_one, hd]; rfl)
      have hb16 := sig_bound 10 (by decide) (ds.take k) 7 (by rw [List.length_take]; omega)
      rw [show (16 : Nat) ^ 7 = 268435456 by decide, ← HS.out.2] at hb16
      obtain ⟨x, hx⟩ : ∃ x, x = d.toNat % 10 := ⟨_, rfl⟩
      have hx16 : x < 10 := by rw [hx]; exact Nat.mod_lt _ (by decide)
      have hdl := d.toNat_lt
      obtain ⟨X, hX⟩ : ∃ X : Int, X = (x : Int) := ⟨_, rfl⟩
      have hxI : (d.toNat : Int) % 10 = X := by omega
      obtain ⟨c, hc⟩ : ∃ c, c = letN x := ⟨_, rfl⟩
      have hix : ∀ W, (Instr.index 9 (.string ⟨#[48, 49, 50, 51, 52, 53, 54, 55, 56, 57, 65, 66, 67, 68, 69, 70]⟩) (.int .u32 X)).run Try.prog W = .ok (bv c) W := fun W => by rw [hX]; exact run_str_atK W .u32 _ x c (by rw [hc]; exact hexD_at x (by omega))
      have hcv : ∀ W : World, (convert 49 9 (.slice (some ⟨W.heap.size, 0, none⟩) 1 1)).run Try.prog (W.alloc (.cells #[.int .u8 (c.toNat : Int)] 5)) = .ok (.string ⟨[c].toArray⟩) (W.alloc (.cells #[.int .u8 (c.toNat : Int)] 5)) := fun W => conv_reads (Reads.lit W [c] _ 5 1 (0, 0) rfl rfl)
      have hadd : ∀ W, (Op.stringOp .add ST (ByteArray.mk [c].toArray)).run Try.prog W = .ok (.string ⟨(sigL 10 (ds.take (k + 1))).toArray⟩) W := fun W => by
        rw [HS.out.1, HTK.out, (sig_snoc 10 _ d).2, ← hx, ← hc]
        exact add_strs _ _ (by unfold sigL; rw [List.length_map, List.length_take]; omega) (by simp) W
      have HW := Lib.hid (show wt * 10 + x = sigV 10 (ds.take (k + 1)) by rw [HTK.out, (sig_snoc 10 _ d).1, ← HS.out.2, ← hx])
      obtain ⟨w2, hw2⟩ : ∃ w2, w2 = wt * 10 + x := ⟨_, rfl⟩
      obtain ⟨A, hA⟩ : ∃ A : Int, A = (wt : Int) * 10 := ⟨_, rfl⟩
      obtain ⟨W2, hW2⟩ : ∃ W2 : Int, W2 = (w2 : Int) := ⟨_, rfl⟩
      have eW : A + X = W2 := by omega
      have x0 : 0 ≤ X := by omega
      have x1 : X < 16 := by omega
      have eW2 : W2 % 4294967296 = W2 := by omega
      have HW2 := Lib.hid hW2
      have hKlt : K < wr.heap.size := Nat.lt_of_lt_of_le HKL.out HK.out.size
      have eM : ((wt : Int) * 10) % 4294967296 = A := by omega
      have eA : (wt : Int) * 10 = A := hA.symm
      have a0 : 0 ≤ A := by omega
      have a1 : A < 4294967296 := by omega
      clear hA
      rw [← hw2] at HW
      have HOF := Lib.hid hcs
      unfold bv at hix ck
      generalize ByteArray.mk [c].toArray = SC at *
      generalize hS2 : ByteArray.mk (sigL 10 (ds.take (k + 1))).toArray = S3 at *
      have HS2 := Lib.hid hS2
      clear hd hcs hb16 hx hc hw2 hS2 hX hW2
      generalize d.toNat = dn at *
      generalize c.toNat = cn at *
      go_wp2
      go_roundw
      case rel => exact ⟨k + 1, w2, S3, by omega, rfl, by rw [HW2.out], by go_num, ⟨HS2.out.symm, HW.out⟩, HK.out.trans (Keeps.alloc [] _ _)⟩
      case measure => simp [intOf]; omega
    · obtain rfl : k = m := by omega
      have hS := HS.out
      rw [List.take_of_length_le (by rw [HN.out]; exact Nat.le_refl _)] at hS
      obtain ⟨hST, hwt⟩ := hS
      have HR1 := Lib.hid (fun W => nRead_any W (35 :: sigL 10 ds) b (by unfold maxLen sigL; simp; have := HN.out; omega))
      have HR2 := Lib.hid (fun W => nRead_any W (35 :: 45 :: sigL 10 ds) b (by unfold maxLen sigL; simp; have := HN.out; omega))
      have HR3 := Lib.hid (fun W => nRead_any W (sigL 10 ds) 10 (by unfold maxLen sigL; simp; have := HN.out; omega))
      have hln : (sigL 10 ds).length ≤ 8 := by unfold sigL; rw [List.length_map, HN.out]; exact hm8
      have ha1 : ∀ W, (Op.stringOp .add ⟨#[35]⟩ ST).run Try.prog W = .ok (.string ⟨(35 :: sigL 10 ds).toArray⟩) W := fun W => by
        rw [hST]
        exact add_strs [35] _ (by simp) (by omega) W
      have ha2 : ∀ W, (Op.stringOp .add ⟨#[35]⟩ ⟨#[45]⟩).run Try.prog W = .ok (.string ⟨[35, 45].toArray⟩) W := fun W => add_strs [35] [45] (by simp) (by simp) W
      have ha3 : ∀ W, (Op.stringOp .add (ByteArray.mk [35, 45].toArray) ST).run Try.prog W = .ok (.string ⟨(35 :: 45 :: sigL 10 ds).toArray⟩) W := fun W => by
        rw [hST]
        exact add_strs [35, 45] _ (by simp) (by omega) W
      have hKlt : K < wr.heap.size := Nat.lt_of_lt_of_le HKL.out HK.out.size
      have HTL := Lib.hid (show ST.toList = sigL 10 ds by rw [hST]; exact str_toList _)
      have hKK := fun U hU => (HKK.out U (HK.out.trans hU))
      have HKU := Lib.hid hKK
      unfold str at *
      rw [← hST] at HR3
      generalize hA2 : ByteArray.mk [35, 45].toArray = SA at *
      generalize ByteArray.mk (35 :: sigL 10 ds).toArray = S1 at *
      generalize ByteArray.mk (35 :: 45 :: sigL 10 ds).toArray = S2 at *
      have hwl : wt < 4294967296 := by
        have := sig_bound 10 (by decide) ds 8 (by rw [HN.out]; exact hm8)
        rw [show (16 : Nat) ^ 8 = 4294967296 by decide, ← hwt] at this
        exact this
      clear hST hln hA2 hKK
      by_cases h0 : ds = []
      · obtain ⟨r1, r2, r3⟩ := HRS.out.1 h0
        rw [r1] at HR1
        rw [r2] at HR2
        rw [r3] at HR3
        simp only [] at HR1 HR2 HR3
        have hE : ST.toList = [] := by rw [HTL.out, h0]; rfl
        clear r1 r2 r3 h0 hwt hwl
        go_wp2_with (first
          | (go_at_call_of 26 (Value.string S1); refine (HR1.out _).mono ?_; rintro e w3 ⟨rfl, hk⟩; have K3 := Lib.hid hk; obtain ⟨c0, c1⟩ := HKU.out _ K3.out; clear hk)
          | (go_at_call_of 26 (Value.string S2); refine (HR2.out _).mono ?_; rintro e w4 ⟨rfl, hk⟩; have K4 := Lib.hid (K3.out.trans hk); obtain ⟨c0, c1⟩ := HKU.out _ K4.out; clear hk)
          | (go_at_call 26; refine (HR3.out _).mono ?_; rintro e w5 ⟨rfl, hk⟩; have K5 := Lib.hid (K4.out.trans hk); clear hk)
          | (go_at_call 23; refine (awake13_any _).mono ?_; rintro e w9 ⟨rfl, hk⟩; have K9 := Lib.hid (K5.out.trans hk); clear hk))
        go_ret
        exact ⟨rfl, (HKV.out.trans HK.out).trans K9.out⟩
      · obtain ⟨r1, r2, r3⟩ := HRS.out.2 h0
        rw [r1, ← hwt] at HR1
        rw [r2, ← hwt] at HR2
        rw [r3, ← hwt] at HR3
        simp only [] at HR1 HR2 HR3
        have hE : (ST.toList == []) = false := by rw [HTL.out]; unfold sigL; simpa using h0
        have hE2 : ST.toList.isEmpty = false := by rw [HTL.out]; unfold sigL; simpa using h0
        obtain ⟨W3, hW3⟩ : ∃ W3 : Int, W3 = (((4294967296 - wt) % 4294967296 : Nat) : Int) := ⟨_, rfl⟩
        have e3 : (-(wt : Int)) % 4294967296 = W3 := by omega
        rw [← hW3] at HR2
        clear r1 r2 r3 h0 hwt hwl hW3
        go_wp2_with (first
          | (go_at_call_of 26 (Value.string S1); refine (HR1.out _).mono ?_; rintro e w3 ⟨rfl, hk⟩; have K3 := Lib.hid hk; obtain ⟨c0, c1⟩ := HKU.out _ K3.out; clear hk)
          | (go_at_call_of 26 (Value.string S2); refine (HR2.out _).mono ?_; rintro e w4 ⟨rfl, hk⟩; have K4 := Lib.hid (K3.out.trans hk); obtain ⟨c0, c1⟩ := HKU.out _ K4.out; clear hk)
          | (go_at_call 26; refine (HR3.out _).mono ?_; rintro e w5 ⟨rfl, hk⟩; have K5 := Lib.hid (K4.out.trans hk); clear hk)
          | (go_at_call 23; refine (awake13_any _).mono ?_; rintro e w9 ⟨rfl, hk⟩; have K9 := Lib.hid (K5.out.trans hk); clear hk))
        go_ret
        exact ⟨rfl, (HKV.out.trans HK.out).trans K9.out⟩

set_option maxRecDepth 100000 in
set_option maxHeartbeats 4000000 in
theorem NumberSigns_1 (w : World) (sn : Nat) (hsn : sn < 256) (hj : sn % 3 = 1) (v : Value) (l : List UInt8) (M : Nat) (h : Reads w v l M) (hl : l.length ≤ maxLen) (b : Nat) : Calls Try.prog 7 #[.int .u8 (sn : Int), v, .int .u32 (b : Int)] w fun e w' => e = .returned (.bool true) ∧ Keeps [] w w' := by
  obtain ⟨va, vc, rfl, _⟩ := h.shape
  have ej : (sn : Int) % 3 = 1 := by omega
  obtain ⟨m, hm⟩ : ∃ m, m = min l.length 8 := ⟨_, rfl⟩
  have hmn := fun w ts t => run_min2 w ts t (l.length : Int) 8 m (by omega)
  obtain ⟨pa, pc, hcut, hrd⟩ := h.head m (by omega)
  have hlen : (l.take m).length = m := by simp; omega
  have hml : maxLen = 9223372036854775807 := rfl
  rw [hlen] at hcut hrd
  generalize l.take m = ds at *
  have hm8 : m ≤ 8 := by omega
  have HRS := Lib.hid (sig_reads 16 36 b (by decide) (by decide) (by decide) ds (by omega))
  have HN := Lib.hid hlen
  have HRD := Lib.hid (show ds ≠ [] → ∃ off, pa = some ⟨M, off, none⟩ ∧ ∀ i c, ds[i]? = some c → w.cell? ⟨M, off + i, none⟩ = some (bv c) from fun h0 => by
    obtain ⟨off, cap, e, _, hc⟩ := hrd.at h0
    injection e with e _ _
    exact ⟨off, e, hc⟩)
  clear h hm hrd hlen hj
  generalize l.length = ln at *
  have ss : ∀ (V : World) (o : Obj), (V.alloc o).heap.size = V.heap.size + 1 := fun V o => by simp
  have HBX := Lib.hid (show ∀ U, Keeps [] (w.alloc (.cells #[.string ⟨#[35]⟩, .int .u32 10, .string ⟨#[36]⟩, .int .u32 16, .string ⟨#[37]⟩, .int .u32 2] 52)) U → U.cell? ⟨w.heap.size, 2, none⟩ = some (.string ⟨#[36]⟩) ∧ U.cell? ⟨w.heap.size, 3, none⟩ = some (.int .u32 16) from fun U hU => ⟨hU.cell (cell_alloc_new w _ _ 2) (by simp), hU.cell (cell_alloc_new w _ _ 3) (by simp)⟩)
  obtain ⟨b0, b1⟩ := HBX.out _ (Keeps.refl _ _)
  go_enter Try.func7, Try.ntmps7
  go_upto_region 3 with fail
  have HKK := Lib.hid (show ∀ U, Keeps [] ((w.alloc (.cells #[.string ⟨#[35]⟩, .int .u32 10, .string ⟨#[36]⟩, .int .u32 16, .string ⟨#[37]⟩, .int .u32 2] 52)).alloc (.cells #[.string ⟨#[36]⟩, .int .u32 16] 52)) U → U.cell? ⟨w.heap.size + 1, 0, none⟩ = some (.string ⟨#[36]⟩) ∧ U.cell? ⟨w.heap.size + 1, 1, none⟩ = some (.int .u32 16) from fun U hU => by
    have e : (w.alloc (.cells #[.string ⟨#[35]⟩, .int .u32 10, .string ⟨#[36]⟩, .int .u32 16, .string ⟨#[37]⟩, .int .u32 2] 52)).heap.size = w.heap.size + 1 := by simp
    have h0 := cell_alloc_new (w.alloc (.cells #[.string ⟨#[35]⟩, .int .u32 10, .string ⟨#[36]⟩, .int .u32 16, .string ⟨#[37]⟩, .int .u32 2] 52)) #[.string ⟨#[36]⟩, .int .u32 16] 52 0
    have h1 := cell_alloc_new (w.alloc (.cells #[.string ⟨#[35]⟩, .int .u32 10, .string ⟨#[36]⟩, .int .u32 16, .string ⟨#[37]⟩, .int .u32 2] 52)) #[.string ⟨#[36]⟩, .int .u32 16] 52 1
    rw [e] at h0 h1
    exact ⟨hU.cell h0 (by simp), hU.cell h1 (by simp)⟩)
  have HKV := Lib.hid ((Keeps.alloc [] w (.cells #[.string ⟨#[35]⟩, .int .u32 10, .string ⟨#[36]⟩, .int .u32 16, .string ⟨#[37]⟩, .int .u32 2] 52)).trans (Keeps.alloc [] (w.alloc (.cells #[.string ⟨#[35]⟩, .int .u32 10, .string ⟨#[36]⟩, .int .u32 16, .string ⟨#[37]⟩, .int .u32 2] 52)) (.cells #[.string ⟨#[36]⟩, .int .u32 16] 52)))
  clear b0 b1 HBX ej
  have HKL := Lib.hid (show w.heap.size + 1 < ((w.alloc (.cells #[.string ⟨#[35]⟩, .int .u32 10, .string ⟨#[36]⟩, .int .u32 16, .string ⟨#[37]⟩, .int .u32 2] 52)).alloc (.cells #[.string ⟨#[36]⟩, .int .u32 16] 52)).heap.size by simp)
  generalize (w.alloc (.cells #[.string ⟨#[35]⟩, .int .u32 10, .string ⟨#[36]⟩, .int .u32 16, .string ⟨#[37]⟩, .int .u32 2] 52)).alloc (.cells #[.string ⟨#[36]⟩, .int .u32 16] 52) = V at *
  generalize w.heap.size + 1 = K at *
  go_wp2
  go_loopw [9, 10, 44] (fun sv nv i wr => ∃ (k wt : Nat) (ST : ByteArray), k ≤ m ∧ sv = .string ST ∧ nv = .int .u32 (wt : Int) ∧ i = .int .i64 (k : Int) ∧ Hid (ST = ByteArray.mk (sigL 16 (ds.take k)).toArray ∧ wt = sigV 16 (ds.take k)) ∧ Hid (Keeps [] V wr)) (fun _ _ i _ => m - (intOf i).toNat)
  case atStart => exact ⟨0, 0, _, by omega, rfl, rfl, rfl, ⟨rfl, rfl⟩, Keeps.refl _ _⟩
  case round =>
    obtain ⟨k, wt, ST, hk, rfl, rfl, rfl, HS, HK⟩ := hrel
    obtain ⟨c0, c1⟩ := HKK.out _ HK.out
    by_cases hlt : k < m
    · obtain ⟨d, hd⟩ : ∃ d, ds[k]? = some d := ⟨_, List.getElem?_eq_getElem (by have := HN.out; omega)⟩
      obtain ⟨off, rfl, hcs⟩ := HRD.out (by intro e; rw [e] at hd; cases hd)
      have ck := (HKV.out.trans HK.out).cell (hcs k d hd) (by simp)
      have HTK := Lib.hid (show ds.take (k + 1) = ds.take k ++ [d] by rw [List.take_add_one, hd]; rfl)
      have hb16 := sig_bound 16 (by decide) (ds.take k) 7 (by rw [List.length_take]; omega)
      rw [show (16 : Nat) ^ 7 = 268435456 by decide, ← HS.out.2] at hb16
      obtain ⟨x, hx⟩ : ∃ x, x = d.toNat % 16 := ⟨_, rfl⟩
      have hx16 : x < 16 := by rw [hx]; exact Nat.mod_lt _ (by decide)
      have hdl := d.toNat_lt
      obtain ⟨X, hX⟩ : ∃ X : Int, X = (x : Int) := ⟨_, rfl⟩
      have hxI : (d.toNat : Int) % 16 = X := by omega
      obtain ⟨c, hc⟩ : ∃ c, c = letN x := ⟨_, rfl⟩
      have hix : ∀ W, (Instr.index 9 (.string ⟨#[48, 49, 50, 51, 52, 53, 54, 55, 56, 57, 65, 66, 67, 68, 69, 70]⟩) (.int .u32 X)).run Try.prog W = .ok (bv c) W := fun W => by rw [hX]; exact run_str_atK W .u32 _ x c (by rw [hc]; exact hexD_at x (by omega))
      have hcv : ∀ W : World, (convert 49 9 (.slice (some ⟨W.heap.size, 0, none⟩) 1 1)).run Try.prog (W.alloc (.cells #[.int .u8 (c.toNat : Int)] 5)) = .ok (.string ⟨[c].toArray⟩) (W.alloc (.cells #[.int .u8 (c.toNat : Int)] 5)) := fun W => conv_reads (Reads.lit W [c] _ 5 1 (0, 0) rfl rfl)
      have hadd : ∀ W, (Op.stringOp .add ST (ByteArray.mk [c].toArray)).run Try.prog W = .ok (.string ⟨(sigL 16 (ds.take (k + 1))).toArray⟩) W := fun W => by
        rw [HS.out.1, HTK.out, (sig_snoc 16 _ d).2, ← hx, ← hc]
        exact add_strs _ _ (by unfold sigL; rw [List.length_map, List.length_take]; omega) (by simp) W
      have HW := Lib.hid (show wt * 16 + x = sigV 16 (ds.take (k + 1)) by rw [HTK.out, (sig_snoc 16 _ d).1, ← HS.out.2, ← hx])
      obtain ⟨w2, hw2⟩ : ∃ w2, w2 = wt * 16 + x := ⟨_, rfl⟩
      obtain ⟨A, hA⟩ : ∃ A : Int, A = (wt : Int) * 16 := ⟨_, rfl⟩
      obtain ⟨W2, hW2⟩ : ∃ W2 : Int, W2 = (w2 : Int) := ⟨_, rfl⟩
      have eW : A + X = W2 := by omega
      have x0 : 0 ≤ X := by omega
      have x1 : X < 16 := by omega
      have eW2 : W2 % 4294967296 = W2 := by omega
      have HW2 := Lib.hid hW2
      have hKlt : K < wr.heap.size := Nat.lt_of_lt_of_le HKL.out HK.out.size
      have eM : ((wt : Int) * 16) % 4294967296 = A := by omega
      have eA : (wt : Int) * 16 = A := hA.symm
      have a0 : 0 ≤ A := by omega
      have a1 : A < 4294967296 := by omega
      clear hA
      rw [← hw2] at HW
      have HOF := Lib.hid hcs
      unfold bv at hix ck
      generalize ByteArray.mk [c].toArray = SC at *
      generalize hS2 : ByteArray.mk (sigL 16 (ds.take (k + 1))).toArray = S3 at *
      have HS2 := Lib.hid hS2
      clear hd hcs hb16 hx hc hw2 hS2 hX hW2
      generalize d.toNat = dn at *
      generalize c.toNat = cn at *
      go_wp2
      go_roundw
      case rel => exact ⟨k + 1, w2, S3, by omega, rfl, by rw [HW2.out], by go_num, ⟨HS2.out.symm, HW.out⟩, HK.out.trans (Keeps.alloc [] _ _)⟩
      case measure => simp [intOf]; omega
    · obtain rfl : k = m := by omega
      have hS := HS.out
      rw [List.take_of_length_le (by rw [HN.out]; exact Nat.le_refl _)] at hS
      obtain ⟨hST, hwt⟩ := hS
      have HR1 := Lib.hid (fun W => nRead_any W (36 :: sigL 16 ds) b (by unfold maxLen sigL; simp; have := HN.out; omega))
      have HR2 := Lib.hid (fun W => nRead_any W (36 :: 45 :: sigL 16 ds) b (by unfold maxLen sigL; simp; have := HN.out; omega))
      have HR3 := Lib.hid (fun W => nRead_any W (sigL 16 ds) 16 (by unfold maxLen sigL; simp; have := HN.out; omega))
      have hln : (sigL 16 ds).length ≤ 8 := by unfold sigL; rw [List.length_map, HN.out]; exact hm8
      have ha1 : ∀ W, (Op.stringOp .add ⟨#[36]⟩ ST).run Try.prog W = .ok (.string ⟨(36 :: sigL 16 ds).toArray⟩) W := fun W => by
        rw [hST]
        exact add_strs [36] _ (by simp) (by omega) W
      have ha2 : ∀ W, (Op.stringOp .add ⟨#[36]⟩ ⟨#[45]⟩).run Try.prog W = .ok (.string ⟨[36, 45].toArray⟩) W := fun W => add_strs [36] [45] (by simp) (by simp) W
      have ha3 : ∀ W, (Op.stringOp .add (ByteArray.mk [36, 45].toArray) ST).run Try.prog W = .ok (.string ⟨(36 :: 45 :: sigL 16 ds).toArray⟩) W := fun W => by
        rw [hST]
        exact add_strs [36, 45] _ (by simp) (by omega) W
      have hKlt : K < wr.heap.size := Nat.lt_of_lt_of_le HKL.out HK.out.size
      have HTL := Lib.hid (show ST.toList = sigL 16 ds by rw [hST]; exact str_toList _)
      have hKK := fun U hU => (HKK.out U (HK.out.trans hU))
      have HKU := Lib.hid hKK
      unfold str at *
      rw [← hST] at HR3
      generalize hA2 : ByteArray.mk [36, 45].toArray = SA at *
      generalize ByteArray.mk (36 :: sigL 16 ds).toArray = S1 at *
      generalize ByteArray.mk (36 :: 45 :: sigL 16 ds).toArray = S2 at *
      have hwl : wt < 4294967296 := by
        have := sig_bound 16 (by decide) ds 8 (by rw [HN.out]; exact hm8)
        rw [show (16 : Nat) ^ 8 = 4294967296 by decide, ← hwt] at this
        exact this
      clear hST hln hA2 hKK
      by_cases h0 : ds = []
      · obtain ⟨r1, r2, r3⟩ := HRS.out.1 h0
        rw [r1] at HR1
        rw [r2] at HR2
        rw [r3] at HR3
        simp only [] at HR1 HR2 HR3
        have hE : ST.toList = [] := by rw [HTL.out, h0]; rfl
        clear r1 r2 r3 h0 hwt hwl
        go_wp2_with (first
          | (go_at_call_of 26 (Value.string S1); refine (HR1.out _).mono ?_; rintro e w3 ⟨rfl, hk⟩; have K3 := Lib.hid hk; obtain ⟨c0, c1⟩ := HKU.out _ K3.out; clear hk)
          | (go_at_call_of 26 (Value.string S2); refine (HR2.out _).mono ?_; rintro e w4 ⟨rfl, hk⟩; have K4 := Lib.hid (K3.out.trans hk); obtain ⟨c0, c1⟩ := HKU.out _ K4.out; clear hk)
          | (go_at_call 26; refine (HR3.out _).mono ?_; rintro e w5 ⟨rfl, hk⟩; have K5 := Lib.hid (K4.out.trans hk); clear hk)
          | (go_at_call 23; refine (awake13_any _).mono ?_; rintro e w9 ⟨rfl, hk⟩; have K9 := Lib.hid (K5.out.trans hk); clear hk))
        go_ret
        exact ⟨rfl, (HKV.out.trans HK.out).trans K9.out⟩
      · obtain ⟨r1, r2, r3⟩ := HRS.out.2 h0
        rw [r1, ← hwt] at HR1
        rw [r2, ← hwt] at HR2
        rw [r3, ← hwt] at HR3
        simp only [] at HR1 HR2 HR3
        have hE : (ST.toList == []) = false := by rw [HTL.out]; unfold sigL; simpa using h0
        have hE2 : ST.toList.isEmpty = false := by rw [HTL.out]; unfold sigL; simpa using h0
        obtain ⟨W3, hW3⟩ : ∃ W3 : Int, W3 = (((4294967296 - wt) % 4294967296 : Nat) : Int) := ⟨_, rfl⟩
        have e3 : (-(wt : Int)) % 4294967296 = W3 := by omega
        rw [← hW3] at HR2
        clear r1 r2 r3 h0 hwt hwl hW3
        go_wp2_with (first
          | (go_at_call_of 26 (Value.string S1); refine (HR1.out _).mono ?_; rintro e w3 ⟨rfl, hk⟩; have K3 := Lib.hid hk; obtain ⟨c0, c1⟩ := HKU.out _ K3.out; clear hk)
          | (go_at_call_of 26 (Value.string S2); refine (HR2.out _).mono ?_; rintro e w4 ⟨rfl, hk⟩; have K4 := Lib.hid (K3.out.trans hk); obtain ⟨c0, c1⟩ := HKU.out _ K4.out; clear hk)
          | (go_at_call 26; refine (HR3.out _).mono ?_; rintro e w5 ⟨rfl, hk⟩; have K5 := Lib.hid (K4.out.trans hk); clear hk)
          | (go_at_call 23; refine (awake13_any _).mono ?_; rintro e w9 ⟨rfl, hk⟩; have K9 := Lib.hid (K5.out.trans hk); clear hk))
        go_ret
        exact ⟨rfl, (HKV.out.trans HK.out).trans K9.out⟩

set_option maxRecDepth 100000 in
set_option maxHeartbeats 4000000 in
theorem NumberSigns_2 (w : World) (sn : Nat) (hsn : sn < 256) (hj : sn % 3 = 2) (v : Value) (l : List UInt8) (M : Nat) (h : Reads w v l M) (hl : l.length ≤ maxLen) (b : Nat) : Calls Try.prog 7 #[.int .u8 (sn : Int), v, .int .u32 (b : Int)] w fun e w' => e = .returned (.bool true) ∧ Keeps [] w w' := by
  obtain ⟨va, vc, rfl, _⟩ := h.shape
  have ej : (sn : Int) % 3 = 2 := by omega
  obtain ⟨m, hm⟩ : ∃ m, m = min l.length 8 := ⟨_, rfl⟩
  have hmn := fun w ts t => run_min2 w ts t (l.length : Int) 8 m (by omega)
  obtain ⟨pa, pc, hcut, hrd⟩ := h.head m (by omega)
  have hlen : (l.take m).length = m := by simp; omega
  have hml : maxLen = 9223372036854775807 := rfl
  rw [hlen] at hcut hrd
  generalize l.take m = ds at *
  have hm8 : m ≤ 8 := by omega
  have HRS := Lib.hid (sig_reads 2 37 b (by decide) (by decide) (by decide) ds (by omega))
  have HN := Lib.hid hlen
  have HRD := Lib.hid (show ds ≠ [] → ∃ off, pa = some ⟨M, off, none⟩ ∧ ∀ i c, ds[i]? = some c → w.cell? ⟨M, off + i, none⟩ = some (bv c) from fun h0 => by
    obtain ⟨off, cap, e, _, hc⟩ := hrd.at h0
    injection e with e _ _
    exact ⟨off, e, hc⟩)
  clear h hm hrd hlen hj
  generalize l.length = ln at *
  have ss : ∀ (V : World) (o : Obj), (V.alloc o).heap.size = V.heap.size + 1 := fun V o => by simp
  have HBX := Lib.hid (show ∀ U, Keeps [] (w.alloc (.cells #[.string ⟨#[35]⟩, .int .u32 10, .string ⟨#[36]⟩, .int .u32 16, .string ⟨#[37]⟩, .int .u32 2] 52)) U → U.cell? ⟨w.heap.size, 4, none⟩ = some (.string ⟨#[37]⟩) ∧ U.cell? ⟨w.heap.size, 5, none⟩ = some (.int .u32 2) from fun U hU => ⟨hU.cell (cell_alloc_new w _ _ 4) (by simp), hU.cell (cell_alloc_new w _ _ 5) (by simp)⟩)
  obtain ⟨b0, b1⟩ := HBX.out _ (Keeps.refl _ _)
  go_enter Try.func7, Try.ntmps7
  go_upto_region 3 with fail
  have HKK := Lib.hid (show ∀ U, Keeps [] ((w.alloc (.cells #[.string ⟨#[35]⟩, .int .u32 10, .string ⟨#[36]⟩, .int .u32 16, .string ⟨#[37]⟩, .int .u32 2] 52)).alloc (.cells #[.string ⟨#[37]⟩, .int .u32 2] 52)) U → U.cell? ⟨w.heap.size + 1, 0, none⟩ = some (.string ⟨#[37]⟩) ∧ U.cell? ⟨w.heap.size + 1, 1, none⟩ = some (.int .u32 2) from fun U hU => by
    have e : (w.alloc (.cells #[.string ⟨#[35]⟩, .int .u32 10, .string ⟨#[36]⟩, .int .u32 16, .string ⟨#[37]⟩, .int .u32 2] 52)).heap.size = w.heap.size + 1 := by simp
    have h0 := cell_alloc_new (w.alloc (.cells #[.string ⟨#[35]⟩, .int .u32 10, .string ⟨#[36]⟩, .int .u32 16, .string ⟨#[37]⟩, .int .u32 2] 52)) #[.string ⟨#[37]⟩, .int .u32 2] 52 0
    have h1 := cell_alloc_new (w.alloc (.cells #[.string ⟨#[35]⟩, .int .u32 10, .string ⟨#[36]⟩, .int .u32 16, .string ⟨#[37]⟩, .int .u32 2] 52)) #[.string ⟨#[37]⟩, .int .u32 2] 52 1
    rw [e] at h0 h1
    exact ⟨hU.cell h0 (by simp), hU.cell h1 (by simp)⟩)
  have HKV := Lib.hid ((Keeps.alloc [] w (.cells #[.string ⟨#[35]⟩, .int .u32 10, .string ⟨#[36]⟩, .int .u32 16, .string ⟨#[37]⟩, .int .u32 2] 52)).trans (Keeps.alloc [] (w.alloc (.cells #[.string ⟨#[35]⟩, .int .u32 10, .string ⟨#[36]⟩, .int .u32 16, .string ⟨#[37]⟩, .int .u32 2] 52)) (.cells #[.string ⟨#[37]⟩, .int .u32 2] 52)))
  clear b0 b1 HBX ej
  have HKL := Lib.hid (show w.heap.size + 1 < ((w.alloc (.cells #[.string ⟨#[35]⟩, .int .u32 10, .string ⟨#[36]⟩, .int .u32 16, .string ⟨#[37]⟩, .int .u32 2] 52)).alloc (.cells #[.string ⟨#[37]⟩, .int .u32 2] 52)).heap.size by simp)
  generalize (w.alloc (.cells #[.string ⟨#[35]⟩, .int .u32 10, .string ⟨#[36]⟩, .int .u32 16, .string ⟨#[37]⟩, .int .u32 2] 52)).alloc (.cells #[.string ⟨#[37]⟩, .int .u32 2] 52) = V at *
  generalize w.heap.size + 1 = K at *
  go_wp2
  go_loopw [9, 10, 44] (fun sv nv i wr => ∃ (k wt : Nat) (ST : ByteArray), k ≤ m ∧ sv = .string ST ∧ nv = .int .u32 (wt : Int) ∧ i = .int .i64 (k : Int) ∧ Hid (ST = ByteArray.mk (sigL 2 (ds.take k)).toArray ∧ wt = sigV 2 (ds.take k)) ∧ Hid (Keeps [] V wr)) (fun _ _ i _ => m - (intOf i).toNat)
  case atStart => exact ⟨0, 0, _, by omega, rfl, rfl, rfl, ⟨rfl, rfl⟩, Keeps.refl _ _⟩
  case round =>
    obtain ⟨k, wt, ST, hk, rfl, rfl, rfl, HS, HK⟩ := hrel
    obtain ⟨c0, c1⟩ := HKK.out _ HK.out
    by_cases hlt : k < m
    · obtain ⟨d, hd⟩ : ∃ d, ds[k]? = some d := ⟨_, List.getElem?_eq_getElem (by have := HN.out; omega)⟩
      obtain ⟨off, rfl, hcs⟩ := HRD.out (by intro e; rw [e] at hd; cases hd)
      have ck := (HKV.out.trans HK.out).cell (hcs k d hd) (by simp)
      have HTK := Lib.hid (show ds.take (k + 1) = ds.take k ++ [d] by rw [List.take_add_one, hd]; rfl)
      have hb16 := sig_bound 2 (by decide) (ds.take k) 7 (by rw [List.length_take]; omega)
      rw [show (16 : Nat) ^ 7 = 268435456 by decide, ← HS.out.2] at hb16
      obtain ⟨x, hx⟩ : ∃ x, x = d.toNat % 2 := ⟨_, rfl⟩
      have hx16 : x < 2 := by rw [hx]; exact Nat.mod_lt _ (by decide)
      have hdl := d.toNat_lt
      obtain ⟨X, hX⟩ : ∃ X : Int, X = (x : Int) := ⟨_, rfl⟩
      have hxI : (d.toNat : Int) % 2 = X := by omega
      obtain ⟨c, hc⟩ : ∃ c, c = letN x := ⟨_, rfl⟩
      have hix : ∀ W, (Instr.index 9 (.string ⟨#[48, 49, 50, 51, 52, 53, 54, 55, 56, 57, 65, 66, 67, 68, 69, 70]⟩) (.int .u32 X)).run Try.prog W = .ok (bv c) W := fun W => by rw [hX]; exact run_str_atK W .u32 _ x c (by rw [hc]; exact hexD_at x (by omega))
      have hcv : ∀ W : World, (convert 49 9 (.slice (some ⟨W.heap.size, 0, none⟩) 1 1)).run Try.prog (W.alloc (.cells #[.int .u8 (c.toNat : Int)] 5)) = .ok (.string ⟨[c].toArray⟩) (W.alloc (.cells #[.int .u8 (c.toNat : Int)] 5)) := fun W => conv_reads (Reads.lit W [c] _ 5 1 (0, 0) rfl rfl)
      have hadd : ∀ W, (Op.stringOp .add ST (ByteArray.mk [c].toArray)).run Try.prog W = .ok (.string ⟨(sigL 2 (ds.take (k + 1))).toArray⟩) W := fun W => by
        rw [HS.out.1, HTK.out, (sig_snoc 2 _ d).2, ← hx, ← hc]
        exact add_strs _ _ (by unfold sigL; rw [List.length_map, List.length_take]; omega) (by simp) W
      have HW := Lib.hid (show wt * 2 + x = sigV 2 (ds.take (k + 1)) by rw [HTK.out, (sig_snoc 2 _ d).1, ← HS.out.2, ← hx])
      obtain ⟨w2, hw2⟩ : ∃ w2, w2 = wt * 2 + x := ⟨_, rfl⟩
      obtain ⟨A, hA⟩ : ∃ A : Int, A = (wt : Int) * 2 := ⟨_, rfl⟩
      obtain ⟨W2, hW2⟩ : ∃ W2 : Int, W2 = (w2 : Int) := ⟨_, rfl⟩
      have eW : A + X = W2 := by omega
      have x0 : 0 ≤ X := by omega
      have x1 : X < 16 := by omega
      have eW2 : W2 % 4294967296 = W2 := by omega
      have HW2 := Lib.hid hW2
      have hKlt : K < wr.heap.size := Nat.lt_of_lt_of_le HKL.out HK.out.size
      have eM : ((wt : Int) * 2) % 4294967296 = A := by omega
      have eA : (wt : Int) * 2 = A := hA.symm
      have a0 : 0 ≤ A := by omega
      have a1 : A < 4294967296 := by omega
      clear hA
      rw [← hw2] at HW
      have HOF := Lib.hid hcs
      unfold bv at hix ck
      generalize ByteArray.mk [c].toArray = SC at *
      generalize hS2 : ByteArray.mk (sigL 2 (ds.take (k + 1))).toArray = S3 at *
      have HS2 := Lib.hid hS2
      clear hd hcs hb16 hx hc hw2 hS2 hX hW2
      generalize d.toNat = dn at *
      generalize c.toNat = cn at *
      go_wp2
      go_roundw
      case rel => exact ⟨k + 1, w2, S3, by omega, rfl, by rw [HW2.out], by go_num, ⟨HS2.out.symm, HW.out⟩, HK.out.trans (Keeps.alloc [] _ _)⟩
      case measure => simp [intOf]; omega
    · obtain rfl : k = m := by omega
      have hS := HS.out
      rw [List.take_of_length_le (by rw [HN.out]; exact Nat.le_refl _)] at hS
      obtain ⟨hST, hwt⟩ := hS
      have HR1 := Lib.hid (fun W => nRead_any W (37 :: sigL 2 ds) b (by unfold maxLen sigL; simp; have := HN.out; omega))
      have HR2 := Lib.hid (fun W => nRead_any W (37 :: 45 :: sigL 2 ds) b (by unfold maxLen sigL; simp; have := HN.out; omega))
      have HR3 := Lib.hid (fun W => nRead_any W (sigL 2 ds) 2 (by unfold maxLen sigL; simp; have := HN.out; omega))
      have hln : (sigL 2 ds).length ≤ 8 := by unfold sigL; rw [List.length_map, HN.out]; exact hm8
      have ha1 : ∀ W, (Op.stringOp .add ⟨#[37]⟩ ST).run Try.prog W = .ok (.string ⟨(37 :: sigL 2 ds).toArray⟩) W := fun W => by
        rw [hST]
        exact add_strs [37] _ (by simp) (by omega) W
      have ha2 : ∀ W, (Op.stringOp .add ⟨#[37]⟩ ⟨#[45]⟩).run Try.prog W = .ok (.string ⟨[37, 45].toArray⟩) W := fun W => add_strs [37] [45] (by simp) (by simp) W
      have ha3 : ∀ W, (Op.stringOp .add (ByteArray.mk [37, 45].toArray) ST).run Try.prog W = .ok (.string ⟨(37 :: 45 :: sigL 2 ds).toArray⟩) W := fun W => by
        rw [hST]
        exact add_strs [37, 45] _ (by simp) (by omega) W
      have hKlt : K < wr.heap.size := Nat.lt_of_lt_of_le HKL.out HK.out.size
      have HTL := Lib.hid (show ST.toList = sigL 2 ds by rw [hST]; exact str_toList _)
      have hKK := fun U hU => (HKK.out U (HK.out.trans hU))
      have HKU := Lib.hid hKK
      unfold str at *
      rw [← hST] at HR3
      generalize hA2 : ByteArray.mk [37, 45].toArray = SA at *
      generalize ByteArray.mk (37 :: sigL 2 ds).toArray = S1 at *
      generalize ByteArray.mk (37 :: 45 :: sigL 2 ds).toArray = S2 at *
      have hwl : wt < 4294967296 := by
        have := sig_bound 2 (by decide) ds 8 (by rw [HN.out]; exact hm8)
        rw [show (16 : Nat) ^ 8 = 4294967296 by decide, ← hwt] at this
        exact this
      clear hST hln hA2 hKK
      by_cases h0 : ds = []
      · obtain ⟨r1, r2, r3⟩ := HRS.out.1 h0
        rw [r1] at HR1
        rw [r2] at HR2
        rw [r3] at HR3
        simp only [] at HR1 HR2 HR3
        have hE : ST.toList = [] := by rw [HTL.out, h0]; rfl
        clear r1 r2 r3 h0 hwt hwl
        go_wp2_with (first
          | (go_at_call_of 26 (Value.string S1); refine (HR1.out _).mono ?_; rintro e w3 ⟨rfl, hk⟩; have K3 := Lib.hid hk; obtain ⟨c0, c1⟩ := HKU.out _ K3.out; clear hk)
          | (go_at_call_of 26 (Value.string S2); refine (HR2.out _).mono ?_; rintro e w4 ⟨rfl, hk⟩; have K4 := Lib.hid (K3.out.trans hk); obtain ⟨c0, c1⟩ := HKU.out _ K4.out; clear hk)
          | (go_at_call 26; refine (HR3.out _).mono ?_; rintro e w5 ⟨rfl, hk⟩; have K5 := Lib.hid (K4.out.trans hk); clear hk)
          | (go_at_call 23; refine (awake13_any _).mono ?_; rintro e w9 ⟨rfl, hk⟩; have K9 := Lib.hid (K5.out.trans hk); clear hk))
        go_ret
        exact ⟨rfl, (HKV.out.trans HK.out).trans K9.out⟩
      · obtain ⟨r1, r2, r3⟩ := HRS.out.2 h0
        rw [r1, ← hwt] at HR1
        rw [r2, ← hwt] at HR2
        rw [r3, ← hwt] at HR3
        simp only [] at HR1 HR2 HR3
        have hE : (ST.toList == []) = false := by rw [HTL.out]; unfold sigL; simpa using h0
        have hE2 : ST.toList.isEmpty = false := by rw [HTL.out]; unfold sigL; simpa using h0
        obtain ⟨W3, hW3⟩ : ∃ W3 : Int, W3 = (((4294967296 - wt) % 4294967296 : Nat) : Int) := ⟨_, rfl⟩
        have e3 : (-(wt : Int)) % 4294967296 = W3 := by omega
        rw [← hW3] at HR2
        clear r1 r2 r3 h0 hwt hwl hW3
        go_wp2_with (first
          | (go_at_call_of 26 (Value.string S1); refine (HR1.out _).mono ?_; rintro e w3 ⟨rfl, hk⟩; have K3 := Lib.hid hk; obtain ⟨c0, c1⟩ := HKU.out _ K3.out; clear hk)
          | (go_at_call_of 26 (Value.string S2); refine (HR2.out _).mono ?_; rintro e w4 ⟨rfl, hk⟩; have K4 := Lib.hid (K3.out.trans hk); obtain ⟨c0, c1⟩ := HKU.out _ K4.out; clear hk)
          | (go_at_call 26; refine (HR3.out _).mono ?_; rintro e w5 ⟨rfl, hk⟩; have K5 := Lib.hid (K4.out.trans hk); clear hk)
          | (go_at_call 23; refine (awake13_any _).mono ?_; rintro e w9 ⟨rfl, hk⟩; have K9 := Lib.hid (K5.out.trans hk); clear hk))
        go_ret
        exact ⟨rfl, (HKV.out.trans HK.out).trans K9.out⟩

theorem NumberSigns_any (w : World) (sn : Nat) (hsn : sn < 256) (v : Value) (l : List UInt8) (M : Nat) (h : Reads w v l M) (hl : l.length ≤ maxLen) (b : Nat) : Calls Try.prog 7 #[.int .u8 (sn : Int), v, .int .u32 (b : Int)] w fun e w' => e = .returned (.bool true) ∧ Keeps [] w w' := by
  have hc : sn % 3 = 0 ∨ sn % 3 = 1 ∨ sn % 3 = 2 := by omega
  rcases hc with hj | hj | hj
  · exact NumberSigns_0 w sn hsn hj v l M h hl b
  · exact NumberSigns_1 w sn hsn hj v l M h hl b
  · exact NumberSigns_2 w sn hsn hj v l M h hl b
end Go.Proofs.Ytfnjjanknfmibaa
