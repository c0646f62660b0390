/-
  CrcLinear, walked.
-/
import Derived.Test.YtpcgckppdnlccabCrcJ
import Derived.Deep.RegionHeld3
import Derived.RegionTactic
import Derived.OwnWalk
namespace Go.Proofs.Ytpcgckppdnlccab
open Go.RowKit

theorem made_bytes (z : Value) (n : Nat) : (madeCells #[z] n).toList = List.replicate n z := by
  refine List.ext_getElem? fun i => ?_
  simp only [madeCells, Array.toList_map, Array.toList_range, List.getElem?_map, List.getElem?_replicate]
  by_cases h : i < n
  · simp [h, Nat.mod_one]
  · simp [h]

theorem bits_xor8 (x y : UInt8) : bits .xor .u8 (x.toNat : Int) (y.toNat : Int) = ((x ^^^ y).toNat : Int) := by
  unfold bits
  show IntKind.u8.wrap ((BitVec.ofInt 8 (x.toNat : Int) ^^^ BitVec.ofInt 8 (y.toNat : Int)).toNat : Int) = _
  have e : ∀ z : UInt8, BitVec.ofInt 8 (z.toNat : Int) = z.toBitVec := fun z => by rw [BitVec.ofInt_natCast, ← UInt8.toNat_toBitVec, BitVec.ofNat_toNat, BitVec.setWidth_eq]
  rw [e, e, ← UInt8.toBitVec_xor]
  have : (x ^^^ y).toBitVec.toNat < 256 := (x ^^^ y).toBitVec.isLt
  rw [IntWalk.u8_in _ (by omega)]
  rfl

/-- What stands in an odd number of three texts, as far as it is made. -/
def oddK (o : List UInt8) (n k : Nat) : List UInt8 := o.take k ++ List.replicate (n - k) 0

theorem odds_length : ∀ (a b c : List UInt8) (n : Nat), a.length = n → b.length = n → c.length = n → (odds a b c).length = n
  | [], [], [], n, h, _, _ => by simp at h; simp [odds, h]
  | a :: ta, b :: bt, c :: ct, n, h1, h2, h3 => by
    cases n with
    | zero => simp at h1
    | succ n => simp only [odds, List.length_cons]; rw [odds_length ta bt ct n (by simpa using h1) (by simpa using h2) (by simpa using h3)]
  | [], [], _ :: _, n, h1, _, h3 => by simp at h1 h3; omega
  | [], _ :: _, _, n, h1, h2, _ => by simp at h1 h2; omega
  | _ :: _, [], _, n, h1, h2, _ => by simp at h1 h2; omega
  | _ :: _, _ :: _, [], n, h1, _, h3 => by simp at h1 h3; omega

theorem odds_get : ∀ (a b c : List UInt8) (i : Nat) (x y z : UInt8), a[i]? = some x → b[i]? = some y → c[i]? = some z → (odds a b c)[i]? = some (xor3 x y z)
  | a :: ta, b :: bt, c :: ct, 0, x, y, z, h1, h2, h3 => by simp at h1 h2 h3; simp [odds, h1, h2, h3]
  | a :: ta, b :: bt, c :: ct, i + 1, x, y, z, h1, h2, h3 => by
    simp only [odds, List.getElem?_cons_succ] at *
    exact odds_get ta bt ct i x y z h1 h2 h3
  | [], _, _, i, _, _, _, h, _, _ => by simp at h
  | _ :: _, [], _, i, _, _, _, _, h, _ => by simp at h
  | _ :: _, _ :: _, [], i, _, _, _, _, _, h => by simp at h

theorem oddK_set (o : List UInt8) (n k : Nat) (v : UInt8) (hk : k < n) (hv : o[k]? = some v) : (oddK o n k).set k v = oddK o n (k + 1) := by
  have hl : k < o.length := (List.getElem?_eq_some_iff.1 hv).1
  have hg : o[k] = v := (List.getElem?_eq_some_iff.1 hv).2
  unfold oddK
  rw [List.set_append_right _ _ (by simp; omega)]
  have e : n - k = (n - (k + 1)) + 1 := by omega
  rw [e, List.replicate_succ]
  simp only [List.length_take, Nat.min_eq_left (Nat.le_of_lt hl), Nat.sub_self, List.set_cons_zero]
  rw [List.take_succ_eq_append_getElem hl, hg, List.append_assoc]
  rfl

theorem oddK_get (o : List UInt8) (n k : Nat) (hk : k < n) (ho : k ≤ o.length) : (oddK o n k)[k]? = some 0 := by
  unfold oddK
  have hl : (o.take k).length = k := by rw [List.length_take, Nat.min_eq_left ho]
  rw [List.getElem?_append_right (by omega), hl, Nat.sub_self, List.getElem?_replicate, if_pos (by omega)]

theorem oddK_end (o : List UInt8) (n : Nat) (h : o.length = n) : oddK o n n = o := by
  unfold oddK
  simp [← h]

theorem run_min3 (w : World) (ts : Array TypeId) (t : TypeId) (a b c n : Nat) (hn : n = min (min a b) c) :
    (Builtin.min_ ts t #[.int .i64 (a : Int), .int .i64 (b : Int), .int .i64 (c : Int)]).run Try.prog w = .ok (.int .i64 (n : Int)) w := by
  rw [run_min_int3]
  congr 2
  split <;> split <;> omega

/-- The first bytes that a slice reads as. -/
theorem Reads.head {w : World} {a : Option Addr} {cap : Nat} {l : List UInt8} {M : Nat} (h : Reads w (.slice a l.length cap) l M) (n : Nat) (h2 : n ≤ l.length) :
    ∃ p c, (∀ w, (Instr.sliceAt 22 (.slice a l.length cap) none (some (.int .i64 n)) none).run Try.prog w = .ok (.slice p (l.take n).length c) w) ∧ Reads w (.slice p (l.take n).length c) (l.take n) M := by
  obtain ⟨p, c, e, r⟩ := h.cut 0 n (Nat.zero_le _) h2
  have hc := h.len.2
  rw [List.drop_zero, Nat.sub_zero] at e r
  exact ⟨p, c, fun w => by rw [run_cut_h _ _ _ _ _ (by omega), e], r⟩

set_option maxHeartbeats 4000000 in
theorem CrcLinear_big (w : World) (pa pb pc : Option Addr) (na nb nc ca cb cc n : Nat) (hn : n = min (min na nb) nc) (h : 300 < n) :
    Calls Try.prog 6 #[.slice pa na ca, .slice pb nb cb, .slice pc nc cc] w fun e w' => e = .returned (.bool true) ∧ Keeps [] w w' := by
  have hm := fun w ts t => run_min3 w ts t na nb nc n hn
  clear hn
  go_enter Try.func6, Try.ntmps6
  go_wp2_with (go_at_call 7; refine (awake2_any _).mono ?_; rintro e w1 ⟨rfl, k1⟩; have K1 := Lib.hid k1; clear k1)
  go_ret
  exact ⟨rfl, K1.out⟩

set_option maxHeartbeats 4000000 in
theorem CrcLinear_small (w : World) (Ma Mb Mc oa ob oc ca cb cc n : Nat) (a b c : List UInt8) (hn : n = min (min a.length b.length) c.length) (h : n ≤ 300) (h0 : 0 < n)
    (ra : Reads w (.slice (some ⟨Ma, oa, none⟩) a.length ca) a Ma) (rb : Reads w (.slice (some ⟨Mb, ob, none⟩) b.length cb) b Mb) (rc : Reads w (.slice (some ⟨Mc, oc, none⟩) c.length cc) c Mc)
    (ga : ∀ i x, a[i]? = some x → w.cell? ⟨Ma, oa + i, none⟩ = some (bv x)) (gb : ∀ i x, b[i]? = some x → w.cell? ⟨Mb, ob + i, none⟩ = some (bv x)) (gc : ∀ i x, c[i]? = some x → w.cell? ⟨Mc, oc + i, none⟩ = some (bv x)) :
    Calls Try.prog 6 #[.slice (some ⟨Ma, oa, none⟩) a.length ca, .slice (some ⟨Mb, ob, none⟩) b.length cb, .slice (some ⟨Mc, oc, none⟩) c.length cc] w fun e w' => e = .returned (.bool true) ∧ Keeps [] w w' := by
  have hm := fun w ts t => run_min3 w ts t a.length b.length c.length n hn
  have na : n ≤ a.length := by omega
  have nb : n ≤ b.length := by omega
  have nc : n ≤ c.length := by omega
  have HA := Lib.hid ra
  have HB := Lib.hid rb
  have HC := Lib.hid rc
  have GA := Lib.hid ga
  have GB := Lib.hid gb
  have GC := Lib.hid gc
  clear hn ra rb rc ga gb gc
  obtain ⟨i0, hi, hz0, hz1, hz2⟩ := info_parts infoByte
  generalize ho : odds (a.take n) (b.take n) (c.take n) = o
  have hol : o.length = n := by rw [← ho]; exact odds_length _ _ _ n (by simp; omega) (by simp; omega) (by simp; omega)
  have HO2 := Lib.hid ho
  have HOL := Lib.hid hol
  clear ho hol
  go_enter Try.func6, Try.ntmps6
  go_wp2_with (refine wpList_make_full _ rfl _ _ 22 rfl w.heap.size 5 i0 (.int .u8 0) 1 Try.underlying22 hi hz0 hz1 .i64 .i64 _ _ n rfl rfl rfl rfl (by rw [hz2]; omega) (by unfold maxLen; omega) (Nat.le_refl _) ?_; intro w1 hown1 hg1; have HO := Lib.hid hown1; have HG := Lib.hid hg1; clear hown1 hg1)
  have hr1 : Row w1 w.heap.size 5 ((oddK o n 0).map bv) n := by
    have := Row.ofOwnsAt HO.out
    rw [Nat.mul_one, show (Value.int IntKind.u8 0).cells = #[.int .u8 0] from rfl, made_bytes] at this
    simpa [oddK, bv] using this
  have kw1 : Keeps [] w w1 := Keeps.grown HG.out (fun k hk => by cases hk)
  have HR1 := Lib.hid hr1
  have KW1 := Lib.hid kw1
  clear hr1 kw1
  go_loopw [24] (fun i wr => ∃ k : Nat, k ≤ n ∧ i = .int .i64 k ∧ Row wr w.heap.size 5 ((oddK o n k).map bv) n ∧ Keeps [] w wr) (fun i _ => n - (intOf i).toNat)
  case atStart => exact ⟨0, Nat.zero_le _, rfl, HR1.out, KW1.out⟩
  case round =>
    obtain ⟨k, hk, rfl, rB, kp⟩ := hrel
    by_cases hlt : k < n
    · have hlt' : (k : Int) < n := by omega
      have ea : a[k]? = some (a.getD k 0) := by simp [List.getD, List.getElem?_eq_getElem (show k < a.length by omega)]
      have eb : b[k]? = some (b.getD k 0) := by simp [List.getD, List.getElem?_eq_getElem (show k < b.length by omega)]
      have ec : c[k]? = some (c.getD k 0) := by simp [List.getD, List.getElem?_eq_getElem (show k < c.length by omega)]
      have pa := kp.cell (GA.out k _ ea) (by simp)
      have pb := kp.cell (GB.out k _ eb) (by simp)
      have pc := kp.cell (GC.out k _ ec) (by simp)
      have eo : o[k]? = some (xor3 (a.getD k 0) (b.getD k 0) (c.getD k 0)) := by
        rw [← HO2.out]
        exact odds_get _ _ _ k _ _ _ (by rw [List.getElem?_take, if_pos hlt, ea]) (by rw [List.getElem?_take, if_pos hlt, eb]) (by rw [List.getElem?_take, if_pos hlt, ec])
      have HS := Lib.hid (rB.set k (bv (xor3 (a.getD k 0) (b.getD k 0) (c.getD k 0))))
      have HX := Lib.hid (oddK_set o n k _ hlt eo)
      have p0 : wr.cell? ⟨w.heap.size, k, none⟩ = some (bv 0) := rB.cell k (by rw [List.getElem?_map, oddK_get o n k hlt (by have := HOL.out; omega)]; rfl)
      have fz := rB.frozen k
      have hla : (k : Int) < a.length := by omega
      have hlb : (k : Int) < b.length := by omega
      have hlc : (k : Int) < c.length := by omega
      have KP := Lib.hid kp
      clear ea eb ec eo kp rB
      unfold xor3 at HS HX
      generalize a.getD k 0 = xa at *
      generalize b.getD k 0 = xb at *
      generalize c.getD k 0 = xc at *
      have x1 := bits_xor8 xa xb
      have x2 := bits_xor8 (xa ^^^ xb) xc
      generalize xa ^^^ xb = xd at *
      generalize xd ^^^ xc = xe at *
      unfold bv at pa pb pc p0
      go_wp2
      go_region
      all_goals
        go_wp2
        go_roundw
        case rel =>
          refine ⟨k + 1, by omega, by go_num, ?_, ?_⟩
          · have := HS.out
            rw [← List.map_set, HX.out] at this
            exact this.keeps (Keeps.drew [] _) (by simp)
          · exact (KP.out.then (Keeps.setCell (S := [w.heap.size]) _ (by simp) _) (fun x hx => .inr (by simp at hx; omega))).trans (Keeps.drew [] _)
        case measure => simp [intOf]; omega
    · have hkn : k = n := by omega
      subst hkn
      obtain ⟨qa, ua, sa, ra⟩ := HA.out.head k na
      obtain ⟨qb, ub, sb, rb⟩ := HB.out.head k nb
      obtain ⟨qc, uc, sc, rc⟩ := HC.out.head k nc
      have ro := rB.reads
      rw [oddK_end o k HOL.out] at ro
      rw [HOL.out] at ro
      have la : (a.take k).length ≤ 300 := by simp; omega
      have lb : (b.take k).length ≤ 300 := by simp; omega
      have lc : (c.take k).length ≤ 300 := by simp; omega
      have lo : o.length ≤ 300 := by have := HOL.out; omega
      have hcrc := crcOf_odds (a.take k) (b.take k) (c.take k) (by simp; omega) (by simp; omega)
      rw [HO2.out] at hcrc
      have RA := Lib.hid (ra.keeps kp (by simp))
      have RB := Lib.hid (rb.keeps kp (by simp))
      have RC := Lib.hid (rc.keeps kp (by simp))
      have RO := Lib.hid ro
      have KP := Lib.hid kp
      clear HO2 HOL HA HB HC GA GB GC rB kp ra rb rc ro HR1 KW1 HO HG
      generalize a.take k = xa at *
      generalize b.take k = xb at *
      generalize c.take k = xc at *
      have x1 := bits_xor32 (crcOf xa) (crcOf xb)
      have x2 := bits_xor32 (crcOf xa ^^^ crcOf xb) (crcOf xc)
      rw [← hcrc] at x2
      clear hcrc
      generalize crcOf xa ^^^ crcOf xb = t1 at *
      go_wp2
      go_region_held3 (fun w' => Keeps [] wr w') (first | assumption | exact Keeps.refl [] _ | exact Keeps.drew [] _ | (exact Keeps.trans (by assumption) (by assumption))) (first | (go_at_call 12; ((with_reducible refine (Of_any _ _ o w.heap.size (RO.out.keeps (by assumption) (by simp)) (by omega)).mono ?_); rintro e wk ⟨rfl, kk⟩)) | (go_at_call 12; ((with_reducible refine (Of_any _ _ xa Ma (RA.out.keeps (by assumption) (by simp)) (by omega)).mono ?_); rintro e wk ⟨rfl, kk⟩)) | (go_at_call 12; ((with_reducible refine (Of_any _ _ xb Mb (RB.out.keeps (by assumption) (by simp)) (by omega)).mono ?_); rintro e wk ⟨rfl, kk⟩)) | (go_at_call 12; ((with_reducible refine (Of_any _ _ xc Mc (RC.out.keeps (by assumption) (by simp)) (by omega)).mono ?_); rintro e wk ⟨rfl, kk⟩)) | (go_at_call 7; ((with_reducible refine (awake2_any _).mono ?_); rintro e wk ⟨rfl, kk⟩)))
      have kf := KP.out.trans (show Keeps [] wr _ by assumption)
      go_wp2
      go_ret
      exact ⟨rfl, kf⟩

set_option maxHeartbeats 4000000 in
theorem CrcLinear_zero (w : World) (Ma Mb Mc : Nat) (pa pb pc : Option Addr) (ca cb cc : Nat) (a b c : List UInt8) (hn : 0 = min (min a.length b.length) c.length)
    (ra : Reads w (.slice pa a.length ca) a Ma) (rb : Reads w (.slice pb b.length cb) b Mb) (rc : Reads w (.slice pc c.length cc) c Mc) :
    Calls Try.prog 6 #[.slice pa a.length ca, .slice pb b.length cb, .slice pc c.length cc] w fun e w' => e = .returned (.bool true) ∧ Keeps [] w w' := by
  have hm := fun w ts t => run_min3 w ts t a.length b.length c.length 0 hn
  obtain ⟨qa, ua, sa, ra⟩ := ra.head 0 (Nat.zero_le _)
  obtain ⟨qb, ub, sb, rb⟩ := rb.head 0 (Nat.zero_le _)
  obtain ⟨qc, uc, sc, rc⟩ := rc.head 0 (Nat.zero_le _)
  simp only [List.take_zero, List.length_nil] at ra rb rc
  simp only [List.take_zero, List.length_nil, Int.ofNat_zero] at sa sb sc
  have RA := Lib.hid ra
  have RB := Lib.hid rb
  have RC := Lib.hid rc
  clear hn ra rb rc
  obtain ⟨i0, hi, hz0, hz1, hz2⟩ := info_parts infoByte
  have hcrc := crcOf_odds [] [] [] rfl rfl
  rw [show odds [] [] [] = [] from rfl] at hcrc
  have x1 := bits_xor32 (crcOf []) (crcOf [])
  have x2 := bits_xor32 (crcOf [] ^^^ crcOf []) (crcOf [])
  rw [← hcrc] at x2
  clear hcrc
  generalize crcOf [] ^^^ crcOf [] = t1 at *
  have OE := Lib.hid (fun (w : World) (v : Value) (M : Nat) (h : Reads w v [] M) => Of_any w v [] M h (by decide))
  generalize hcc : crcOf [] = t0 at *
  have HCC := Lib.hid hcc
  clear hcc
  go_enter Try.func6, Try.ntmps6
  go_wp2_with (refine wpList_make_full _ rfl _ _ 22 rfl w.heap.size 5 i0 (.int .u8 0) 1 Try.underlying22 hi hz0 hz1 .i64 .i64 _ _ 0 rfl rfl rfl rfl (by rw [hz2]; omega) (by unfold maxLen; omega) (Nat.le_refl _) ?_; intro w1 hown1 hg1; have HO := Lib.hid hown1; have HG := Lib.hid hg1; clear hown1 hg1)
  refine wp_loop_rounds 1 ?_; rw [rounds_succ]
  have kw1 : Keeps [] w w1 := Keeps.grown HG.out (fun k hk => by cases hk)
  have KP := Lib.hid kw1
  have RO := Lib.hid (show Reads w1 (.slice (some ⟨w.heap.size, 0, none⟩) 0 0) [] w.heap.size from .inr ⟨_, 0, rfl, Nat.le_refl _, fun h => absurd rfl h, fun i c h => by simp at h⟩)
  have RA' := Lib.hid (RA.out.keeps kw1 (by simp))
  have RB' := Lib.hid (RB.out.keeps kw1 (by simp))
  have RC' := Lib.hid (RC.out.keeps kw1 (by simp))
  clear kw1 RA RB RC HO HG
  go_wp2
  go_region_held3 (fun w' => Keeps [] w1 w') (first | assumption | exact Keeps.refl [] _ | exact Keeps.drew [] _ | (exact Keeps.trans (by assumption) (by assumption))) (first | (go_at_call 12; ((with_reducible refine (OE.out _ _ w.heap.size (RO.out.keeps (by assumption) (by simp))).mono ?_); rintro e wk ⟨rfl, kk⟩)) | (go_at_call 12; ((with_reducible refine (OE.out _ _ Ma (RA'.out.keeps (by assumption) (by simp))).mono ?_); rintro e wk ⟨rfl, kk⟩)) | (go_at_call 12; ((with_reducible refine (OE.out _ _ Mb (RB'.out.keeps (by assumption) (by simp))).mono ?_); rintro e wk ⟨rfl, kk⟩)) | (go_at_call 12; ((with_reducible refine (OE.out _ _ Mc (RC'.out.keeps (by assumption) (by simp))).mono ?_); rintro e wk ⟨rfl, kk⟩)) | (go_at_call 7; ((with_reducible refine (awake2_any _).mono ?_); rintro e wk ⟨rfl, kk⟩)))
  have kf := KP.out.trans (show Keeps [] w1 _ by assumption)
  go_wp2
  go_ret
  exact ⟨rfl, kf⟩

theorem CrcLinear_any (w : World) (va vb vc : Value) (a b c : List UInt8) (Ma Mb Mc : Nat) (ra : Reads w va a Ma) (rb : Reads w vb b Mb) (rc : Reads w vc c Mc) :
    Calls Try.prog 6 #[va, vb, vc] w fun e w' => e = .returned (.bool true) ∧ Keeps [] w w' := by
  by_cases h0 : min (min a.length b.length) c.length = 0
  · obtain ⟨pa, ca, rfl, _⟩ := ra.shape
    obtain ⟨pb, cb, rfl, _⟩ := rb.shape
    obtain ⟨pc, cc, rfl, _⟩ := rc.shape
    exact CrcLinear_zero w Ma Mb Mc pa pb pc ca cb cc a b c h0.symm ra rb rc
  · by_cases h : min (min a.length b.length) c.length ≤ 300
    · obtain ⟨oa, ca, rfl, _, ga⟩ := ra.at (by intro e; subst e; simp at h0)
      obtain ⟨ob, cb, rfl, _, gb⟩ := rb.at (by intro e; subst e; simp at h0)
      obtain ⟨oc, cc, rfl, _, gc⟩ := rc.at (by intro e; subst e; simp at h0)
      exact CrcLinear_small w Ma Mb Mc oa ob oc ca cb cc _ a b c rfl h (by omega) ra rb rc ga gb gc
    · obtain ⟨pa, ca, rfl, _⟩ := ra.shape
      obtain ⟨pb, cb, rfl, _⟩ := rb.shape
      obtain ⟨pc, cc, rfl, _⟩ := rc.shape
      exact CrcLinear_big w pa pb pc _ _ _ ca cb cc _ rfl (by omega)
end Go.Proofs.Ytpcgckppdnlccab
