/-
  CfgCrash, walked.
-/
import Derived.Test.YtcmjecnbmdhjlaaGreatCfgFullA
import Derived.Test.YtcmjecnbmdhjlaaGreatCfgBeh
import Derived.Test.YtcmjecnbmdhjlaaGreatCfgCrA
namespace Go.Proofs.YtcmjecnbmdhjlaaGreat
open Go.RowKit Go.Deep Go.BigFrame

theorem FlashAt.toE {w : World} {F B W M : Nat} {s : FS} (h : FlashAt w F B W M s) : FlashE w F B W s := by
  by_cases hm : s.mask = []
  · exact ⟨M, h, .inl hm⟩
  · refine ⟨M, h, .inr ?_⟩
    obtain ⟨cb, cw, mv, c0, c1, c2, c3, c4, c5, c6, cf, rB, rW, rM⟩ := h.cells
    rcases rM with ⟨_, h0⟩ | ⟨ad, cap, _, _, hb, hc⟩
    · exact absurd h0 hm
    · obtain ⟨c, hc0⟩ : ∃ c, s.mask[0]? = some c := ⟨_, List.getElem?_eq_getElem (List.length_pos_iff.2 hm)⟩
      have := World.block_lt_of_cell? w _ (hc 0 c hc0)
      rw [Addr.add_block, hb hm] at this
      exact this

theorem Arm6 {F B W : Nat} {s : FS} (w : World) (hF : FlashE w F B W s) (n : Nat) (v : Value) (l : List UInt8) (Ml : Nat) (hr : Reads w v l Ml) (hd : s.down = false) (hn : n ≤ 1000) (hl : l.length ≤ maxLen) :
    Calls Tryz.prog 24 #[.pointer (some ⟨F, 0, none⟩), .int .i64 n, v] w fun e w' => e = .returned (.int .i64 0) ∧ FlashE w' F B W (s.arm n l) ∧ Keeps [F] w w' := by
  obtain ⟨M, hF, _⟩ := hF
  unfold maxLen at hl
  rcases hr with ⟨rfl, rfl⟩ | ⟨ad, cap, rfl, hcap, hb, hc⟩
  · exact (Arm_nil w hF n hd (by omega) (by omega)).mono fun _ _ ⟨h1, h2, h3⟩ => ⟨h1, h2.toE, h3⟩
  · exact (Arm_some w hF n hd (by omega) (by omega) ad l.length cap l rfl hcap (by omega) hc).mono fun _ _ ⟨h1, M', _, h2, h3⟩ => ⟨h1, h2.toE, h3⟩

theorem Down6 {F B W : Nat} {s : FS} (w : World) (h : FlashE w F B W s) : Calls Tryz.prog 25 #[.pointer (some ⟨F, 0, none⟩)] w fun e w' => e = .returned (.bool s.down) ∧ w = w' := by
  obtain ⟨M, h, _⟩ := h
  exact Down_yes w h

theorem Up6 {F B W : Nat} {s : FS} (w : World) (h : FlashE w F B W s) : Calls Tryz.prog 26 #[.pointer (some ⟨F, 0, none⟩)] w fun e w' => e = .returned (.int .i64 0) ∧ FlashE w' F B W s.up ∧ Keeps [F] w w' := by
  obtain ⟨M, h, _⟩ := h
  exact (Up_yes w h).mono fun _ _ ⟨h1, h2, h3⟩ => ⟨h1, h2.toE, h3⟩

theorem sumW_R (s : FS) (first : Nat) : ∀ j, sumW s first j = sumR s first j
  | 0 => rfl
  | j + 1 => by unfold sumW sumR; rw [sumW_R s first j]

theorem wears6_E {F B W N first n k i t : Nat} {es : List Ent} {s : FS} (w : World) (hF : FlashE w F B W s) (hc : Cfg N first n k i t es s) (hN : N ≤ 256) (ht : t ≤ 1000000) (c : Int) (hn : Near s first n k c) :
    Calls Tryz.prog 22 #[.pointer (some ⟨F, 0, none⟩), .agg #[.int .i64 first, .int .i64 n]] w fun e w' => ∃ d : Int, e = .returned (.tuple #[.int .i64 (sumR s first n), .int .i64 d]) ∧ d ≤ 2 + c ∧ Keeps [] w w' := by
  obtain ⟨M, hF, _⟩ := hF
  have h3 := hc.n3
  have hf := hc.fit
  refine (wears6_any w hF first n (by omega) (by omega) (hc.wear_in ht)).mono ?_
  rintro e w' ⟨d, rfl, hd, k⟩
  rw [sumW_R]
  exact ⟨d, rfl, hd (2 + c) (by have := hn.c0; omega) hn.spread, k⟩

theorem use6_E {F B W N first n k i t : Nat} {es : List Ent} {s : FS} (w : World) (hF : FlashE w F B W s) (hc : Cfg N first n k i t es s) (hi : i < 90000) :
    Calls Tryz.prog 23 #[.pointer (some ⟨F, 0, none⟩), .agg #[.int .i64 first, .int .i64 n]] w fun e w' => e = .returned (.agg #[.int .i64 k, .int .u8 1, .int .u32 i]) ∧ Keeps [] w w' := by
  obtain ⟨M, hF, _⟩ := hF
  have h := use6_any w hF hc.down first n hc.n3 (by rw [hc.wl]; exact hc.fit)
  rw [hc.new] at h
  simp only [Option.getD_some, hdrCells, uv] at h
  rw [num_ofNat i (by omega)] at h
  exact h

/-- The newest head, whatever its number. -/
theorem use6_num {F B W N first n k i t : Nat} {es : List Ent} {s : FS} (w : World) (hF : FlashE w F B W s) (hc : Cfg N first n k i t es s) :
    Calls Tryz.prog 23 #[.pointer (some ⟨F, 0, none⟩), .agg #[.int .i64 first, .int .i64 n]] w fun e w' => e = .returned (.agg #[.int .i64 k, .int .u8 1, .int .u32 ((BitVec.ofNat 32 i).toNat : Nat)]) ∧ Keeps [] w w' := by
  obtain ⟨M, hF, _⟩ := hF
  have h := use6_any w hF hc.down first n hc.n3 (by rw [hc.wl]; exact hc.fit)
  rw [hc.new] at h
  simp only [Option.getD_some, hdrCells, uv] at h
  exact h

theorem hdr_equalBN (w : World) (d : Nat) (s x s' x' : Int) : (Op.equalIn (d + 1 + 1) 51 (.agg #[.int .i64 s, .int .u8 1, .int .u32 x]) (.agg #[.int .i64 s', .int .u8 1, .int .u32 x'])).run Tryz.prog w = .ok (s == s' && x == x') w := by
  rw [run_equalIn_struct w (d + 1) 51 _ _ hdr_under hdr_held, hdr_fields]
  have h1 := fun w => run_equalIn_int (P := Tryz.prog) w d 3 .i64 .i64 s s' Tryz.underlying3
  have h2 := fun w => run_equalIn_int (P := Tryz.prog) w d 5 .u8 .u8 1 1 Tryz.underlying5
  have h3 := fun w => run_equalIn_int (P := Tryz.prog) w d 49 .u32 .u32 x x' Tryz.underlying49
  by_cases e1 : s = s'
  · subst e1
    by_cases e2 : x = x'
    · subst e2
      simp [Op.eqFields, _root_.Go.part, h1, h2, h3]
    · have e2b : (x == x') = false := by simp [e2]
      simp [Op.eqFields, _root_.Go.part, h1, h2, h3, e2b]
  · have e1b : (s == s') = false := by simp [e1]
    simp [Op.eqFields, _root_.Go.part, h1, h2, h3, e1b]

theorem hdr_equalB (w : World) (s x s' x' : Int) : (Op.equalIn 10000 51 (.agg #[.int .i64 s, .int .u8 1, .int .u32 x]) (.agg #[.int .i64 s', .int .u8 1, .int .u32 x'])).run Tryz.prog w = .ok (s == s' && x == x') w := hdr_equalBN w 9998 s x s' x'

theorem hdr_neqB (w : World) (s x s' x' : Int) : (binOp .neq 51 (.agg #[.int .i64 s, .int .u8 1, .int .u32 x]) (.agg #[.int .i64 s', .int .u8 1, .int .u32 x'])).run Tryz.prog w = .ok (.bool !(s == s' && x == x')) w := by
  simp only [binOp]
  simp [Op.equal, Op.maxDepth, hdr_equalB]

theorem fld_hdr (s k x : Int) (w : World) : (Instr.field 51 (.agg #[.int .i64 s, .int .u8 k, .int .u32 x]) 2).run Tryz.prog w = .ok (.int .u32 x) w := by kernel_rfl

/-- A world behind another one, whose blocks it has. -/
structure After (w : World) where
  U : World
  k : Keeps [] w U

theorem wp_region_class {P : Program} {id : Nat} {Q : Exit → Act → World → Prop} {a : Act} {w : World} {l : List Oper} {S : Type} (f : S → World) (s0 : S) (hm : P.follows .mixedOrders = true) (hB : Region.lexB .any l.toArray = true) (h0 : w.drew = f s0)
    (h : wpQuiet P l.toArray (fun w' => ∃ n, w' = f n) (fun a' => ∀ w', (∃ n, w' = f n) → Q .normal a' w') l a) : (Code.region id l.toArray true).wp P Q a w :=
  wp_region_quiet (C := fun w' => ∃ n, w' = f n) hm hB ⟨s0, h0⟩ (by simpa using h)

theorem crS {w : World} {b h : Nat} {n k i : Int} (hr : Whole w b 25 [.int .i64 2, .int .i64 n]) (hh : Whole w h 51 [.int .i64 k, .int .u8 1, .int .u32 i]) :
    w.cell? ⟨b, 0, none⟩ = some (.int .i64 2) ∧ w.cell? ⟨b, 1, none⟩ = some (.int .i64 n) ∧ w.cell? ⟨h, 0, none⟩ = some (.int .i64 k) ∧ w.cell? ⟨h, 1, none⟩ = some (.int .u8 1) ∧ w.cell? ⟨h, 2, none⟩ = some (.int .u32 i) :=
  ⟨(hr.cell 0).trans rfl, (hr.cell 1).trans rfl, (hh.cell 0).trans rfl, (hh.cell 1).trans rfl, (hh.cell 2).trans rfl⟩

theorem near_start {N first n k i : Nat} {es : List Ent} {s : FS} (h : Cfg N first n k i 0 es s) : Near s first n k 0 := by
  have hz : ∀ x : Nat, (first ≤ x ∧ x < first + n) → s.wearOf x = 0 := fun x hx => by
    have hw : x < s.wear.length := by rw [h.wl]; have := h.fit; omega
    rw [wearOf_nat s x hw, List.getD_eq_getElem?_getD, List.getElem?_eq_getElem hw]
    have := h.wears _ (List.getElem_mem hw)
    simp only [Option.getD_some]
    omega
  have htop := h.top
  refine ⟨Int.le_refl _, fun x y hx hy _ => by rw [hz x hx, hz y hy]; omega, .inl fun y hy => by rw [hz y hy, hz k ⟨htop.1, htop.2.1⟩]; omega⟩

set_option maxRecDepth 100000 in
set_option maxHeartbeats 4000000 in
theorem CfgCrash_any (w : World) (c0 : Int) (hc0 : 0 ≤ c0 ∧ c0 ≤ 255) (lv : Value) (n0 : Nat) (hl : Ops6 w w.heap.size lv n0) :
    Calls Tryz.prog 4 #[.int .u8 c0, lv] w fun e w' => e = .returned (.bool true) ∧ Keeps [] w w' := by
  obtain ⟨C, rfl⟩ := Int.eq_ofNat_of_zero_le hc0.1
  obtain ⟨c, hcc⟩ : ∃ c, c = C % 6 := ⟨_, rfl⟩
  obtain ⟨n, hn⟩ : ∃ n, n = 3 + c := ⟨_, rfl⟩
  have hn3 : 3 ≤ n := by omega
  have hn8 : n ≤ 8 := by omega
  have e1 : (C : Int) % 6 = (c : Int) := by omega
  have e2 : (C : Int).tmod 6 = (c : Int) := by rw [Int.tmod_eq_emod_of_nonneg (by omega)]; exact e1
  have e3 : (3 : Int) + (c : Int) = (n : Int) := by omega
  have hC : C < 256 := by omega
  have hni : (n : Int) ≤ 8 := by omega
  have hci : (c : Int) ≤ 5 := by omega
  clear hcc hn hc0
  obtain ⟨ao, cap, rfl, hln⟩ := hl.shape
  have HL := Lib.hid hl
  have HBG := Lib.hid (fun U => begun6_ok U 2 n hn3 (by omega))
  clear hl
  go_enter Tryz.func4, Tryz.ntmps4
  go_upto_region 2 with (fail)
  generalize hV : World.alloc w _ = V
  have kV : Keeps [] w V := by rw [← hV]; exact Keeps.alloc [] _ _
  have wV : Whole V w.heap.size 25 [.int .i64 2, .int .i64 n] := by rw [← hV]; exact Whole.new w 25 [_, _]
  have v0 := (wV.cell 0).trans (show _ = some (Value.int .i64 2) from rfl)
  have v1 := (wV.cell 1).trans (show _ = some (Value.int .i64 (n : Int)) from rfl)
  have KV := Lib.hid kV
  have WV := Lib.hid wV
  have hRV := wV.lt
  clear hV kV wV e1 e2 e3
  go_upto_region 3 with (go_at_call 9; refine (HBG.out _).mono ?_; rintro e w1 ⟨F, B, W, s0, rfl, f1, f2, f3, hF1, ha1, hc1, k1⟩; have HF1 := Lib.hid hF1; have HC1 := Lib.hid hc1; have HN1 := Lib.hid (near_start hc1); have W1 := Lib.hid (WV.out.keeps k1 (by simp)); have K1 := Lib.hid (KV.out.trans k1); clear hF1 hc1 ha1 k1)
  clear v0 v1
  have f4 : w.heap.size < F ∧ w.heap.size < B ∧ w.heap.size < W := by omega
  clear f1 f2 f3
  go_wp2
  go_loopw [8, 9, 10, 11, 12, 14, 15, 16, 17, 18, 19, 20, 21, 22] (fun wv cv ix _ _ _ _ _ _ _ _ _ _ _ wr => ∃ (j : Nat) (s : FS) (k i : Nat) (es : List Ent) (m bs : Nat) (ao2 : Option Addr) (cp2 cr : Nat), (F < bs ∧ B < bs ∧ W < bs) ∧ j ≤ n0 ∧ j ≤ 60 ∧ wv = .slice ao2 m cp2 ∧ cv = .int .i64 cr ∧ ix = .int .i64 j ∧ cr ≤ j ∧ i ≤ j + 1 ∧ Hid (m = es.length) ∧ Hid (FlashE wr F B W s) ∧ Hid (Cfg 16 2 n k i j es s) ∧ Hid (Near s 2 n k cr) ∧ Hid (EntsAt bs wr (.slice ao2 m cp2) es) ∧ Hid (Whole wr w.heap.size 25 [.int .i64 2, .int .i64 n]) ∧ Hid (Keeps [] w wr)) (fun _ _ ix _ _ _ _ _ _ _ _ _ _ _ _ => 60 - (intOf ix).toNat)
  case atStart => exact ⟨0, s0, 2, 1, [], 0, F + B + W + 1, none, 0, 0, by omega, by omega, by omega, rfl, rfl, rfl, by omega, by omega, Lib.hid rfl, HF1, HC1, HN1, Lib.hid (EntsAt.nil _ w1), W1, K1⟩
  case round =>
    obtain ⟨j, s, k, i, es, m, bs, ao2, cp2, cr, hbs, hjn, hj60, rfl, rfl, rfl, hcr, hij, HM, HF, HC, HNR, HE, WR, HKW⟩ := hrel
    clear HF1 HC1 HN1 W1 K1 WV KV HBG
    by_cases hlt : j < n0 ∧ j < 60
    · obtain ⟨h1, h2⟩ := hlt
      have hji : (j : Int) < (n0 : Int) := by omega
      have hj3 : (j : Int) < 60 := by omega
      obtain ⟨b, off, rfl, hops⟩ := HL.out.spot (by omega)
      obtain ⟨d, ar, kv1, vv1, mv1, ky1, vl1, ml1, Mk1, Mv1, Mm1, hop⟩ := hops j h1
      obtain ⟨hd1, har, hk1, hv1, hm1, rk1, bk1, rv1, bv1, rm1, bm1, _, c0, c1, c2, c3, c4⟩ := hop.keeps HKW.out (by simp)
      obtain ⟨ka1, kc1, rfl, _⟩ := rk1.shape
      obtain ⟨va1, vc1, rfl, _⟩ := rv1.shape
      obtain ⟨ma1, mc1, rfl, _⟩ := rm1.shape
      have hsz := HKW.out.size
      have HBK := Lib.hid (fun U (hU : Keeps [] w U) => BytesAt.of (hop.2.2.2.2.2.1.keeps hU (by simp)) bk1 hU.size)
      have HBV := Lib.hid (fun U (hU : Keeps [] w U) => BytesAt.of (hop.2.2.2.2.2.2.2.1.keeps hU (by simp)) bv1 hU.size)
      have HRM := Lib.hid (fun U (hU : Keeps [] w U) => hop.2.2.2.2.2.2.2.2.2.1.keeps hU (by simp))
      have hflt := HF.out.lt
      clear rm1 hop hops
      generalize hkn : ky1.length = kn1 at *
      generalize hvn1 : vl1.length = vn1 at *
      generalize hmn1 : ml1.length = mn1 at *
      have HMN := Lib.hid hmn1
      clear hkn hvn1 hmn1
      simp only [Addr.add_off, ← Nat.add_assoc] at c0 c1 c2 c3 c4
      have hm100 : m ≤ 100 := by have := wtL_length es; have := HC.out.room.1; have := HM.out; omega
      have hcp2 : m ≤ cp2 := by obtain ⟨_, _, hv, hl⟩ := HE.out.shape; simp at hv; omega
      go_upto_region 11 with (fail)
      generalize hX : World.alloc wr _ = X
      have kX : Keeps [] wr X := by rw [← hX]; exact Keeps.alloc [] _ _
      have wX : Whole X wr.heap.size 33 [.int .u8 d, .slice ka1 kn1 kc1, .slice va1 vn1 vc1, .int .u8 ar, .slice ma1 mn1 mc1] := by rw [← hX]; exact Whole.new wr 33 [_, _, _, _, _]
      have WX := Lib.hid wX
      have KX := Lib.hid (HKW.out.trans kX)
      have EX := Lib.hid (HE.out.keeps kX (by simp))
      have WRX := Lib.hid (WR.out.keeps kX (by simp))
      have HFX := Lib.hid (HF.out.keeps kX (by simp) (by simp) (by simp) (by simp))
      have hwX : w.heap.size < wr.heap.size := WR.out.lt
      have hXs : wr.heap.size < X.heap.size := wX.lt
      have r0 := (WRX.out.cell 0).trans (show _ = some (Value.int .i64 2) from rfl)
      have r1 := (WRX.out.cell 1).trans (show _ = some (Value.int .i64 (n : Int)) from rfl)
      have HWE := Lib.hid (wears6_E X HFX.out HC.out (by omega) (by omega) cr HNR.out)
      generalize hso : sumR s 2 n = so at *
      have HSO := Lib.hid hso
      clear hso hX kX wX c0 c1 c2 c3 c4 rk1 bk1 rv1 bv1 HE WR HF
      generalize wr.heap.size = OB at *
      go_upto_region 13 with (first
        | (go_at_call 22; refine HWE.out.mono ?_; rintro e w2 ⟨dd, rfl, _, k2⟩; have K2 := Lib.hid (KX.out.trans k2); have W2 := Lib.hid (WX.out.keeps k2 (by simp)); have WR2 := Lib.hid (WRX.out.keeps k2 (by simp)); have E2 := Lib.hid (EX.out.keeps k2 (by simp)); have HF2 := Lib.hid (HFX.out.keeps k2 (by simp) (by simp) (by simp) (by simp)); have hs2 := k2.size; have u0 := (WR2.out.cell 0).trans (show _ = some (Value.int .i64 2) from rfl); have u1 := (WR2.out.cell 1).trans (show _ = some (Value.int .i64 (n : Int)) from rfl); clear k2)
        | (go_at_call 23; refine (use6_E w2 HF2.out HC.out (by omega)).mono ?_; rintro e w3 ⟨rfl, k3⟩; have K3 := Lib.hid (K2.out.trans k3); have W3 := Lib.hid (W2.out.keeps k3 (by simp)); have WR3 := Lib.hid (WR2.out.keeps k3 (by simp)); have E3 := Lib.hid (E2.out.keeps k3 (by simp)); have HF3 := Lib.hid (HF2.out.keeps k3 (by simp) (by simp) (by simp) (by simp)); have hs3 := k3.size; clear k3))
      generalize hY : World.alloc w3 _ = Y
      have kY : Keeps [] w3 Y := by rw [← hY]; exact Keeps.alloc [] _ _
      have wY : Whole Y w3.heap.size 51 [.int .i64 k, .int .u8 1, .int .u32 i] := by rw [← hY]; exact Whole.new w3 51 [_, _, _]
      have HY := Lib.hid wY
      have KY := Lib.hid (K3.out.trans kY)
      have WY := Lib.hid (W3.out.keeps kY (by simp))
      have WRY := Lib.hid (WR3.out.keeps kY (by simp))
      have EY := Lib.hid (E3.out.keeps kY (by simp))
      have HFY := Lib.hid (HF3.out.keeps kY (by simp) (by simp) (by simp) (by simp))
      have hHB : OB < w3.heap.size := by omega
      have hYs : w3.heap.size < Y.heap.size := wY.lt
      clear hY kY wY r0 r1 u0 u1 K2 W2 WR2 E2 HF2 K3 W3 WR3 E3 HF3 WX WRX EX HFX
      generalize w3.heap.size = HB at *
      have q3 := (WY.out.cell 3).trans (show _ = some (Value.int .u8 (ar : Int)) from rfl)
      have q4 := (WY.out.cell 4).trans (show _ = some (Value.slice ma1 mn1 mc1) from rfl)
      by_cases har0 : ar = 0
      · subst har0
        have z1 : decide ((0 : Int) < ((0 : Nat) : Int)) = false := by simp
        obtain ⟨sA, hsA⟩ : ∃ sA, sA = s := ⟨_, rfl⟩
        have HCA := Lib.hid (show Cfg 16 2 n k i j es sA by rw [hsA]; exact HC.out)
        have HNA := Lib.hid (show Near sA 2 n k cr by rw [hsA]; exact HNR.out)
        have HSA := Lib.hid (show sumR sA 2 n = so by rw [hsA]; exact HSO.out)
        have HFA := Lib.hid (show FlashE Y F B W sA by rw [hsA]; exact HFY.out)
        clear hsA
        go_upto_region 15 with (fail)
        obtain ⟨wA, rfl⟩ : ∃ wA, wA = Y := ⟨_, rfl⟩
        have WA := WY; have WRA := WRY; have EA := EY; have HA := HY; have KA := KY
        clear q3 q4 WY WRY EY HY KY HFY
        as_aux_lemma =>
          obtain ⟨s1, er, k', i', es1, hopk, hlf⟩ := HCA.out.op_left HNA.out (by omega) d ky1 vl1
          have hch := changed6_any wA HFA.out HCA.out (by omega) (by omega) d 0 hd1 (.slice ka1 kn1 kc1) (.slice va1 vn1 vc1) (.slice ma1 mn1 mc1) ky1 vl1 (HBK.out _ KA.out) (HBV.out _ KA.out)
          rw [hopk] at hch
          have HCH := Lib.hid hch
          have HLF := Lib.hid hlf
          have HC1 := Lib.hid hlf.cfg
          have HDN := Lib.hid hlf.down
          obtain ⟨m', hm'⟩ : ∃ m', m' = es1.length := ⟨_, rfl⟩
          have HM' := Lib.hid hm'
          have hm100' : m' ≤ 100 := by have := wtL_length es1; have := HC1.out.room.1; omega
          clear hch hlf hopk hm'
          have t0 := (WA.out.cell 0).trans (show _ = some (Value.int .u8 (d : Int)) from rfl)
          have t1 := (WA.out.cell 1).trans (show _ = some (Value.slice ka1 kn1 kc1) from rfl)
          have t2 := (WA.out.cell 2).trans (show _ = some (Value.slice va1 vn1 vc1) from rfl)
          have t3 := (WA.out.cell 3).trans (show _ = some (Value.int .u8 ((0 : Nat) : Int)) from rfl)
          have t4 := (WA.out.cell 4).trans (show _ = some (Value.slice ma1 mn1 mc1) from rfl)
          have r0 := (WRA.out.cell 0).trans (show _ = some (Value.int .i64 2) from rfl)
          have r1 := (WRA.out.cell 1).trans (show _ = some (Value.int .i64 (n : Int)) from rfl)
          go_upto_region 16 with (go_at_call 13; refine HCH.out.mono ?_; rintro e w4 ⟨rfl, hf4, k4⟩; have HF4 := Lib.hid hf4; have hlt4 := hf4.lt; have K4 := Lib.hid (KA.out.then k4 (S := []) (T := [F, B, W]) (fun x hx => by simp at hx; right; rcases hx with rfl | rfl | rfl <;> omega)); have W4 := Lib.hid (WA.out.keeps k4 (by simp; omega)); have WR4 := Lib.hid (WRA.out.keeps k4 (by simp; omega)); have E4 := Lib.hid (EA.out.keeps k4 (fun x hx => by simp at hx; omega)); have H4 := Lib.hid (HA.out.keeps k4 (by simp; omega)); clear hf4 k4)
          clear t0 t1 t2 t3 t4 r0 r1 HCH WA WRA EA HA HFA
          have HUP := Lib.hid (Up6 w4 HF4.out)
          obtain ⟨sm, hsm⟩ : ∃ sm : Bool, sm = decide (es = es1) := ⟨_, rfl⟩
          obtain ⟨wh, hwh⟩ : ∃ wh : Bool, wh = behindB d ky1 vl1 es es1 := ⟨_, rfl⟩
          have HBE := Lib.hid (show ∀ U, Keeps [] w U → ∀ va vb, EntsAt 0 U va es → EntsAt 0 U vb es1 → Calls Tryz.prog 27 #[.agg #[.int .u8 d, .slice ka1 kn1 kc1, .slice va1 vn1 vc1, .int .u8 ((0 : Nat) : Int), .slice ma1 mn1 mc1], va, vb] U (fun e w' => e = .returned (.bool wh) ∧ Keeps [] U w') from fun U hU va vb ha hb => by
            obtain ⟨Mk, rk, _⟩ := HBK.out U hU
            obtain ⟨Mv, rv, _⟩ := HBV.out U hU
            have h := behind6_any U d 0 hd1 (.slice ka1 kn1 kc1) (.slice va1 vn1 vc1) (.slice ma1 mn1 mc1) ky1 vl1 Mk Mv rk rv va vb es es1 ha hb (by have := HM.out; omega) (by have := HM'.out; omega)
            rw [← hwh] at h
            exact h)
          have HAE := Lib.hid (show ∀ U va vb, EntsAt 0 U va es → EntsAt 0 U vb es1 → Calls Tryz.prog 18 #[va, vb] U (fun e w' => e = .returned (.bool sm) ∧ Keeps [] U w') from fun U va vb ha hb => by
            have h := AreEntries_any U va vb es es1 ha hb (by have := HM.out; omega) (by have := HM'.out; omega)
            rw [← hsm] at h
            exact h)
          have HSM := Lib.hid hsm
          have HWH := Lib.hid hwh
          clear hsm hwh
          by_cases er12 : er = 12
          · have db : (er == 12) = true := by simp [er12]
            have g0 : (er == 0) = false := by rw [er12]; rfl
            have g1 : (er != 0) = true := by rw [er12]; rfl
            have hdn := Down6 w4 HF4.out
            rw [HDN.out, decide_eq_true er12] at hdn
            have HD := Lib.hid hdn
            obtain ⟨hn1, hw1⟩ : Near s1.up 2 n k' ((cr : Int) + 1) ∧ ((es1 = es ∧ k' = k ∧ i' = i) ∨ (es1 = aftE es d ky1 vl1 ∧ i' = i + 1) ∨ (es1 = aftE es d ky1 vl1 ∧ k' = k ∧ i' = i) ∨ (sumR s1.up 2 n = sumR sA 2 n + 1 ∧ k' ≠ k)) := by
              rcases HLF.out.what with h | h | h
              · exact absurd (h.1.symm.trans er12) (by decide)
              · exact absurd er12 h.2.1
              · exact h.2
            rw [HSA.out] at hw1
            have HN1 := Lib.hid hn1
            generalize hsn : sumR s1.up 2 n = sn at hw1
            have HSN := Lib.hid hsn
            have HW1 := Lib.hid hw1
            have HWE := Lib.hid (show ∀ U, FlashE U F B W s1.up → Calls Tryz.prog 22 #[.pointer (some ⟨F, 0, none⟩), .agg #[.int .i64 2, .int .i64 n]] U (fun e w' => ∃ dq : Int, e = .returned (.tuple #[.int .i64 sn, .int .i64 dq]) ∧ dq ≤ 2 + ((cr : Int) + 1) ∧ Keeps [] U w') from fun U hU => by have h := wears6_E U hU HC1.out (by omega) (by omega) _ HN1.out; rw [hsn] at h; exact h)
            clear hdn hn1 hw1 hsn er12
            go_upto_region 25 with (first
              | (go_at_call 25; refine HD.out.mono ?_; rintro e w' ⟨rfl, rfl⟩)
              | (go_at_call 26; refine HUP.out.mono ?_; rintro e w5 ⟨rfl, hf5, k5⟩; have HF5 := Lib.hid hf5; have K5 := Lib.hid (K4.out.then k5 (S := []) (T := [F]) (fun x hx => by simp at hx; right; omega)); have W5 := Lib.hid (W4.out.keeps k5 (by simp; omega)); have WR5 := Lib.hid (WR4.out.keeps k5 (by simp; omega)); have E5 := Lib.hid (E4.out.keeps k5 (fun x hx => by simp at hx; omega)); have H5 := Lib.hid (H4.out.keeps k5 (by simp; omega)); have hlt5 := hf5.lt; have r0 := (WR5.out.cell 0).trans (show _ = some (Value.int .i64 2) from rfl); have r1 := (WR5.out.cell 1).trans (show _ = some (Value.int .i64 (n : Int)) from rfl); clear hf5 k5)
              | (go_at_call 17; refine (All_base w5 HF5.out HC1.out HM'.out).mono ?_; rintro e w6 ⟨ao3, cp3, rfl, hen, hcp3, k6⟩; have EN6 := Lib.hid hen; have HF6 := Lib.hid (HF5.out.keeps k6 (by simp) (by simp) (by simp) (by simp)); have K6 := Lib.hid (K5.out.trans k6); have W6 := Lib.hid (W5.out.keeps k6 (by simp)); have WR6 := Lib.hid (WR5.out.keeps k6 (by simp)); have E6 := Lib.hid (E5.out.keeps k6 (by simp)); have H6 := Lib.hid (H5.out.keeps k6 (by simp)); have u0 := (WR6.out.cell 0).trans (show _ = some (Value.int .i64 2) from rfl); have u1 := (WR6.out.cell 1).trans (show _ = some (Value.int .i64 (n : Int)) from rfl); clear hen k6)
              | (go_at_call 22; refine (HWE.out w6 HF6.out).mono ?_; rintro e w7 ⟨dd2, rfl, hdd2, k7⟩; have EN7 := Lib.hid (EN6.out.keeps k7 (by simp)); have HF7 := Lib.hid (HF6.out.keeps k7 (by simp) (by simp) (by simp) (by simp)); have K7 := Lib.hid (K6.out.trans k7); have W7 := Lib.hid (W6.out.keeps k7 (by simp)); have WR7 := Lib.hid (WR6.out.keeps k7 (by simp)); have E7 := Lib.hid (E6.out.keeps k7 (by simp)); have H7 := Lib.hid (H6.out.keeps k7 (by simp)); clear k7)
              | (go_at_call 18; refine (HAE.out w7 _ _ (E7.out.mono (Nat.zero_le _)) (EN7.out.mono (Nat.zero_le _))).mono ?_; rintro e w8 ⟨rfl, k8⟩; have EN8 := Lib.hid (EN7.out.keeps k8 (by simp)); have HF8 := Lib.hid (HF7.out.keeps k8 (by simp) (by simp) (by simp) (by simp)); have K8 := Lib.hid (K7.out.trans k8); have W8 := Lib.hid (W7.out.keeps k8 (by simp)); have WR8 := Lib.hid (WR7.out.keeps k8 (by simp)); have E8 := Lib.hid (E7.out.keeps k8 (by simp)); have H8 := Lib.hid (H7.out.keeps k8 (by simp)); have t0 := (W8.out.cell 0).trans (show _ = some (Value.int .u8 (d : Int)) from rfl); have t1 := (W8.out.cell 1).trans (show _ = some (Value.slice ka1 kn1 kc1) from rfl); have t2 := (W8.out.cell 2).trans (show _ = some (Value.slice va1 vn1 vc1) from rfl); have t3 := (W8.out.cell 3).trans (show _ = some (Value.int .u8 ((0 : Nat) : Int)) from rfl); have t4 := (W8.out.cell 4).trans (show _ = some (Value.slice ma1 mn1 mc1) from rfl); clear k8)
              | (go_at_call 27; refine (HBE.out w8 K8.out _ _ (E8.out.mono (Nat.zero_le _)) (EN8.out.mono (Nat.zero_le _))).mono ?_; rintro e w9 ⟨rfl, k9⟩; have EN9 := Lib.hid (EN8.out.keeps k9 (by simp)); have HF9 := Lib.hid (HF8.out.keeps k9 (by simp) (by simp) (by simp) (by simp)); have K9 := Lib.hid (K8.out.trans k9); have WR9 := Lib.hid (WR8.out.keeps k9 (by simp)); have H9 := Lib.hid (H8.out.keeps k9 (by simp)); clear k9 t0 t1 t2 t3 t4))
            clear r0 r1 u0 u1 W4 WR4 E4 H4 HF4 W5 WR5 E5 H5 HF5 W6 WR6 E6 H6 HF6 EN6 W7 WR7 E7 H7 HF7 EN7 W8 WR8 E8 H8 HF8 EN8 HUP HD HBE HAE K4 K5 K6 K7 K8
            have hall : ((sm = true ∨ wh = true) ∧ i' ≤ i + 1) ∨ (so < sn ∧ k' ≠ k) := by
              rcases HW1.out with h | h | h | h
              · exact .inl ⟨.inl (by rw [HSM.out, h.1]; simp), by omega⟩
              · exact .inl ⟨.inr (by rw [HWH.out, h.1]; exact behind_aft HC.out.good.rise d ky1 vl1), by omega⟩
              · exact .inl ⟨.inr (by rw [HWH.out, h.1]; exact behind_aft HC.out.good.rise d ky1 vl1), by omega⟩
              · exact .inr ⟨by omega, h.2⟩
            have HUS := Lib.hid (show ∀ U, Keeps [] w9 U → Calls Tryz.prog 23 #[.pointer (some ⟨F, 0, none⟩), .agg #[.int .i64 2, .int .i64 n]] U (fun e w' => e = .returned (.agg #[.int .i64 k', .int .u8 1, .int .u32 ((BitVec.ofNat 32 i').toNat : Nat)]) ∧ Keeps [] U w') from fun U hU => use6_num U (HF9.out.keeps hU (by simp) (by simp) (by simp) (by simp)) HC1.out)
            have HUQ := Lib.hid (show ∀ z : After w9, Calls Tryz.prog 23 #[.pointer (some ⟨F, 0, none⟩), .agg #[.int .i64 2, .int .i64 n]] z.U (fun e w' => e = .returned (.agg #[.int .i64 k', .int .u8 1, .int .u32 ((BitVec.ofNat 32 i').toNat : Nat)]) ∧ ∃ m : After w9, w' = m.U) from fun z => (HUS.out z.U z.k).mono fun e w' h => ⟨h.1, ⟨w', z.k.trans h.2⟩, rfl⟩)
            have hz5 : ∀ z : After w9, z.U.cell? ⟨w.heap.size, 0, none⟩ = some (.int .i64 2) ∧ z.U.cell? ⟨w.heap.size, 1, none⟩ = some (.int .i64 n) ∧ z.U.cell? ⟨HB, 0, none⟩ = some (.int .i64 k) ∧ z.U.cell? ⟨HB, 1, none⟩ = some (.int .u8 1) ∧ z.U.cell? ⟨HB, 2, none⟩ = some (.int .u32 i) := fun z => crS (WR9.out.keeps z.k (by simp)) (H9.out.keeps z.k (by simp))
            have z50 := fun z => (hz5 z).1
            have z51 := fun z => (hz5 z).2.1
            have z52 := fun z => (hz5 z).2.2.1
            have z53 := fun z => (hz5 z).2.2.2.1
            have z54 := fun z => (hz5 z).2.2.2.2
            haveI : Nonempty (After w9) := ⟨⟨w9, Keeps.refl [] _⟩⟩
            clear hz5
            have HREN := Lib.hid (fun (h : (BitVec.ofNat 32 i').toNat = i + 1) => show Cfg 16 2 n k' (i + 1) (j + 1) es1 s1.up from by
              have hb : BitVec.ofNat 32 i' = BitVec.ofNat 32 (i + 1) := BitVec.eq_of_toNat_eq (by rw [h, num_ofNat (i + 1) (by omega)])
              have c := HC1.out
              exact ⟨c.len, c.wl, c.down, c.left, c.fit, c.n3, by rw [← hb]; exact c.new, c.ents, c.wears⟩)
            have hxb : (BitVec.ofNat 32 i').toNat < 4294967296 := (BitVec.ofNat 32 i').isLt
            have HEQ := Lib.hid (fun W => hdr_equalB W (k' : Int) ((BitVec.ofNat 32 i').toNat : Int) (k : Int) (i : Int))
            generalize hxd : (BitVec.ofNat 32 i').toNat = xd at *
            have hgd := hdr_guard
            have hfld := fld_hdr
            have hw32 : IntKind.u32.wrap ((i : Int) + 1) = (i : Int) + 1 := IntWalk.u32_in _ (by omega)
            have hw33 : ((i : Int) + 1) % 4294967296 = (i : Int) + 1 := by omega
            have hdd3 : ¬ 2 + ((cr : Int) + 1) < dd2 := by omega
            clear hxd HSM HWH HW1 HLF
            by_cases hss : so < sn
            · have a1 : decide (so < sn) = true := decide_eq_true hss
              by_cases hnb : ((k' : Int) == (k : Int) && (xd : Int) == (i : Int)) = true
              · -- the sector in use is the same
                have hkk : k' = k := by simp at hnb; omega
                obtain ⟨hsw, hi1⟩ : (sm = true ∨ wh = true) ∧ i' ≤ i + 1 := by rcases hall with h | h; exact h; exact absurd hkk h.2
                have heq : ∀ W, (Op.equalIn 10000 51 (.agg #[.int .i64 (k' : Int), .int .u8 1, .int .u32 (xd : Int)]) (.agg #[.int .i64 (k : Int), .int .u8 1, .int .u32 (i : Int)])).run Tryz.prog W = .ok true W := fun W => by rw [HEQ.out W, hnb]
                have hnq : ∀ W, (binOp .neq 51 (.agg #[.int .i64 (k' : Int), .int .u8 1, .int .u32 (xd : Int)]) (.agg #[.int .i64 (k : Int), .int .u8 1, .int .u32 (i : Int)])).run Tryz.prog W = .ok (.bool false) W := fun W => by rw [hdr_neqB, hnb]; rfl
                have hcs : sm = true ∨ (sm = false ∧ wh = true) := by cases sm <;> simp_all
                clear hnb hall hkk hsw HEQ
                rcases hcs with rfl | ⟨rfl, rfl⟩
                all_goals
                  refine wp_region_class (S := After w9) After.U ⟨w9.drew, Keeps.drew [] w9⟩ (by kernel_rfl) (by kernel_rfl) rfl ?_
                  repeat (go_big_quiet_step ((go_at_call 23; exact HUQ.out _)))
                  refine wpQuiet_nil ?_
                  rintro _ ⟨nq, rfl⟩
                  have KL := Lib.hid nq.k
                  generalize nq.U = wq at *
                  have HFZ := Lib.hid (HF9.out.keeps KL.out (by simp) (by simp) (by simp) (by simp))
                  have ENZ := Lib.hid (EN9.out.keeps KL.out (by simp))
                  have WRZ := Lib.hid (WR9.out.keeps KL.out (by simp))
                  have KZ := Lib.hid (K9.out.trans KL.out)
                  have HN1' := Lib.hid (show Near s1.up 2 n k' ((cr + 1 : Nat) : Int) by have := HN1.out; rwa [show ((cr + 1 : Nat) : Int) = (cr : Int) + 1 by omega])
                  go_wp2
                  go_roundw
                  case rel => exact ⟨j + 1, s1.up, k', i', es1, m', w5.heap.size, ao3, cp3, cr + 1, hlt5, by omega, by omega, rfl, by go_num, by go_num, by omega, by omega, HM', HFZ, HC1, HN1', ENZ, WRZ, KZ⟩
                  case measure => simp [intOf]; omega
              · have hnb2 : ((k' : Int) == (k : Int) && (xd : Int) == (i : Int)) = false := by simpa using hnb
                have heq : ∀ W, (Op.equalIn 10000 51 (.agg #[.int .i64 (k' : Int), .int .u8 1, .int .u32 (xd : Int)]) (.agg #[.int .i64 (k : Int), .int .u8 1, .int .u32 (i : Int)])).run Tryz.prog W = .ok false W := fun W => by rw [HEQ.out W, hnb2]
                have hnq : ∀ W, (binOp .neq 51 (.agg #[.int .i64 (k' : Int), .int .u8 1, .int .u32 (xd : Int)]) (.agg #[.int .i64 (k : Int), .int .u8 1, .int .u32 (i : Int)])).run Tryz.prog W = .ok (.bool true) W := fun W => by rw [hdr_neqB, hnb2]; rfl
                clear hnb hnb2 hall HEQ
                by_cases hne : (xd : Int) = (i : Int) + 1
                · have n1 : ((xd : Int) != (i : Int) + 1) = false := by simp [hne]
                  have HCR := Lib.hid (HREN.out (by omega))
                  clear hne
                  cases sm with
                  | true =>
                    refine wp_region_class (S := After w9) After.U ⟨w9.drew, Keeps.drew [] w9⟩ (by kernel_rfl) (by kernel_rfl) rfl ?_
                    repeat (go_big_quiet_step ((go_at_call 23; exact HUQ.out _)))
                    refine wpQuiet_nil ?_
                    rintro _ ⟨nq, rfl⟩
                    have KL := Lib.hid nq.k
                    generalize nq.U = wq at *
                    have HFZ := Lib.hid (HF9.out.keeps KL.out (by simp) (by simp) (by simp) (by simp))
                    have ENZ := Lib.hid (EN9.out.keeps KL.out (by simp))
                    have WRZ := Lib.hid (WR9.out.keeps KL.out (by simp))
                    have KZ := Lib.hid (K9.out.trans KL.out)
                    have HN1' := Lib.hid (show Near s1.up 2 n k' ((cr + 1 : Nat) : Int) by have := HN1.out; rwa [show ((cr + 1 : Nat) : Int) = (cr : Int) + 1 by omega])
                    go_wp2
                    go_roundw
                    case rel => exact ⟨j + 1, s1.up, k', i + 1, es1, m', w5.heap.size, ao3, cp3, cr + 1, hlt5, by omega, by omega, rfl, by go_num, by go_num, by omega, by omega, HM', HFZ, HCR, HN1', ENZ, WRZ, KZ⟩
                    case measure => simp [intOf]; omega
                  | false =>
                    cases wh with
                    | true =>
                      refine wp_region_class (S := After w9) After.U ⟨w9.drew, Keeps.drew [] w9⟩ (by kernel_rfl) (by kernel_rfl) rfl ?_
                      repeat (go_big_quiet_step ((go_at_call 23; exact HUQ.out _)))
                      refine wpQuiet_nil ?_
                      rintro _ ⟨nq, rfl⟩
                      have KL := Lib.hid nq.k
                      generalize nq.U = wq at *
                      have HFZ := Lib.hid (HF9.out.keeps KL.out (by simp) (by simp) (by simp) (by simp))
                      have ENZ := Lib.hid (EN9.out.keeps KL.out (by simp))
                      have WRZ := Lib.hid (WR9.out.keeps KL.out (by simp))
                      have KZ := Lib.hid (K9.out.trans KL.out)
                      have HN1' := Lib.hid (show Near s1.up 2 n k' ((cr + 1 : Nat) : Int) by have := HN1.out; rwa [show ((cr + 1 : Nat) : Int) = (cr : Int) + 1 by omega])
                      go_wp2
                      go_roundw
                      case rel => exact ⟨j + 1, s1.up, k', i + 1, es1, m', w5.heap.size, ao3, cp3, cr + 1, hlt5, by omega, by omega, rfl, by go_num, by go_num, by omega, by omega, HM', HFZ, HCR, HN1', ENZ, WRZ, KZ⟩
                      case measure => simp [intOf]; omega
                    | false =>
                      refine wp_region_class (S := After w9) After.U ⟨w9.drew, Keeps.drew [] w9⟩ (by kernel_rfl) (by kernel_rfl) rfl ?_
                      repeat (go_big_quiet_step ((go_at_call 23; exact HUQ.out _)))
                      refine wpQuiet_nil ?_
                      rintro _ ⟨nq, rfl⟩
                      have KL := Lib.hid nq.k
                      generalize nq.U = wq at *
                      have KZ := Lib.hid (K9.out.trans KL.out)
                      go_wp2_with (go_at_call 21; refine (awake6_any _).mono ?_; rintro e w15 ⟨rfl, k15⟩; have K15 := Lib.hid (KZ.out.trans k15); clear k15)
                      go_ret
                      exact ⟨rfl, K15.out⟩
                · have n1 : ((xd : Int) != (i : Int) + 1) = true := by simp [hne]
                  clear hne
                  cases sm with
                  | true =>
                    refine wp_region_class (S := After w9) After.U ⟨w9.drew, Keeps.drew [] w9⟩ (by kernel_rfl) (by kernel_rfl) rfl ?_
                    repeat (go_big_quiet_step ((go_at_call 23; exact HUQ.out _)))
                    refine wpQuiet_nil ?_
                    rintro _ ⟨nq, rfl⟩
                    have KL := Lib.hid nq.k
                    generalize nq.U = wq at *
                    have KZ := Lib.hid (K9.out.trans KL.out)
                    go_wp2_with (go_at_call 21; refine (awake6_any _).mono ?_; rintro e w15 ⟨rfl, k15⟩; have K15 := Lib.hid (KZ.out.trans k15); clear k15)
                    go_ret
                    exact ⟨rfl, K15.out⟩
                  | false =>
                    cases wh with
                    | true =>
                      refine wp_region_class (S := After w9) After.U ⟨w9.drew, Keeps.drew [] w9⟩ (by kernel_rfl) (by kernel_rfl) rfl ?_
                      repeat (go_big_quiet_step ((go_at_call 23; exact HUQ.out _)))
                      refine wpQuiet_nil ?_
                      rintro _ ⟨nq, rfl⟩
                      have KL := Lib.hid nq.k
                      generalize nq.U = wq at *
                      have KZ := Lib.hid (K9.out.trans KL.out)
                      go_wp2_with (go_at_call 21; refine (awake6_any _).mono ?_; rintro e w15 ⟨rfl, k15⟩; have K15 := Lib.hid (KZ.out.trans k15); clear k15)
                      go_ret
                      exact ⟨rfl, K15.out⟩
                    | false =>
                      refine wp_region_class (S := After w9) After.U ⟨w9.drew, Keeps.drew [] w9⟩ (by kernel_rfl) (by kernel_rfl) rfl ?_
                      repeat (go_big_quiet_step ((go_at_call 23; exact HUQ.out _)))
                      refine wpQuiet_nil ?_
                      rintro _ ⟨nq, rfl⟩
                      have KL := Lib.hid nq.k
                      generalize nq.U = wq at *
                      have KZ := Lib.hid (K9.out.trans KL.out)
                      go_wp2_with (go_at_call 21; refine (awake6_any _).mono ?_; rintro e w15 ⟨rfl, k15⟩; have K15 := Lib.hid (KZ.out.trans k15); clear k15)
                      go_ret
                      exact ⟨rfl, K15.out⟩
            · have a1 : decide (so < sn) = false := decide_eq_false hss
              obtain ⟨hsw, hi1⟩ : (sm = true ∨ wh = true) ∧ i' ≤ i + 1 := by rcases hall with h | h; exact h; exact absurd h.1 hss
              have hcs : sm = true ∨ (sm = false ∧ wh = true) := by cases sm <;> simp_all
              clear hall hsw HEQ
              rcases hcs with rfl | ⟨rfl, rfl⟩
              all_goals
                refine wp_region_class (S := After w9) After.U ⟨w9.drew, Keeps.drew [] w9⟩ (by kernel_rfl) (by kernel_rfl) rfl ?_
                repeat (go_big_quiet_step ((go_at_call 23; exact HUQ.out _)))
                refine wpQuiet_nil ?_
                rintro _ ⟨nq, rfl⟩
                have KL := Lib.hid nq.k
                generalize nq.U = wq at *
                have HFZ := Lib.hid (HF9.out.keeps KL.out (by simp) (by simp) (by simp) (by simp))
                have ENZ := Lib.hid (EN9.out.keeps KL.out (by simp))
                have WRZ := Lib.hid (WR9.out.keeps KL.out (by simp))
                have KZ := Lib.hid (K9.out.trans KL.out)
                have HN1' := Lib.hid (show Near s1.up 2 n k' ((cr + 1 : Nat) : Int) by have := HN1.out; rwa [show ((cr + 1 : Nat) : Int) = (cr : Int) + 1 by omega])
                go_wp2
                go_roundw
                case rel => exact ⟨j + 1, s1.up, k', i', es1, m', w5.heap.size, ao3, cp3, cr + 1, hlt5, by omega, by omega, rfl, by go_num, by go_num, by omega, by omega, HM', HFZ, HC1, HN1', ENZ, WRZ, KZ⟩
                case measure => simp [intOf]; omega
          · have db : (er == 12) = false := by simp [er12]
            have hdn := Down6 w4 HF4.out
            rw [HDN.out, decide_eq_false er12] at hdn
            have HD := Lib.hid hdn
            obtain ⟨hn1, hw1⟩ : Near s1.up 2 n k' (cr : Int) ∧ ((er = 0 ∧ es1 = aftE es d ky1 vl1 ∧ i' ≤ i + 1) ∨ (er ≠ 0 ∧ es1 = es ∧ i' = i)) := by
              rcases HLF.out.what with h | h | h
              · exact ⟨h.2.2.1, .inl ⟨h.1, h.2.1, h.2.2.2⟩⟩
              · exact ⟨h.2.2.2.1, .inr ⟨h.1, h.2.2.1, h.2.2.2.2.1⟩⟩
              · exact absurd h.1 er12
            have HN1 := Lib.hid hn1
            have HW1 := Lib.hid hw1
            generalize hsn : sumR s1.up 2 n = sn
            have HWE := Lib.hid (show ∀ U, FlashE U F B W s1.up → Calls Tryz.prog 22 #[.pointer (some ⟨F, 0, none⟩), .agg #[.int .i64 2, .int .i64 n]] U (fun e w' => ∃ dq : Int, e = .returned (.tuple #[.int .i64 sn, .int .i64 dq]) ∧ dq ≤ 2 + ((cr : Int)) ∧ Keeps [] U w') from fun U hU => by have h := wears6_E U hU HC1.out (by omega) (by omega) _ HN1.out; rw [hsn] at h; exact h)
            clear hdn hn1 hw1 hsn er12
            go_upto_region 25 with (first
              | (go_at_call 25; refine HD.out.mono ?_; rintro e w' ⟨rfl, rfl⟩)
              | (go_at_call 26; refine HUP.out.mono ?_; rintro e w5 ⟨rfl, hf5, k5⟩; have HF5 := Lib.hid hf5; have K5 := Lib.hid (K4.out.then k5 (S := []) (T := [F]) (fun x hx => by simp at hx; right; omega)); have W5 := Lib.hid (W4.out.keeps k5 (by simp; omega)); have WR5 := Lib.hid (WR4.out.keeps k5 (by simp; omega)); have E5 := Lib.hid (E4.out.keeps k5 (fun x hx => by simp at hx; omega)); have H5 := Lib.hid (H4.out.keeps k5 (by simp; omega)); have hlt5 := hf5.lt; have r0 := (WR5.out.cell 0).trans (show _ = some (Value.int .i64 2) from rfl); have r1 := (WR5.out.cell 1).trans (show _ = some (Value.int .i64 (n : Int)) from rfl); clear hf5 k5)
              | (go_at_call 17; refine (All_base w5 HF5.out HC1.out HM'.out).mono ?_; rintro e w6 ⟨ao3, cp3, rfl, hen, hcp3, k6⟩; have EN6 := Lib.hid hen; have HF6 := Lib.hid (HF5.out.keeps k6 (by simp) (by simp) (by simp) (by simp)); have K6 := Lib.hid (K5.out.trans k6); have W6 := Lib.hid (W5.out.keeps k6 (by simp)); have WR6 := Lib.hid (WR5.out.keeps k6 (by simp)); have E6 := Lib.hid (E5.out.keeps k6 (by simp)); have H6 := Lib.hid (H5.out.keeps k6 (by simp)); have u0 := (WR6.out.cell 0).trans (show _ = some (Value.int .i64 2) from rfl); have u1 := (WR6.out.cell 1).trans (show _ = some (Value.int .i64 (n : Int)) from rfl); clear hen k6)
              | (go_at_call 22; refine (HWE.out w6 HF6.out).mono ?_; rintro e w7 ⟨dd2, rfl, hdd2, k7⟩; have EN7 := Lib.hid (EN6.out.keeps k7 (by simp)); have HF7 := Lib.hid (HF6.out.keeps k7 (by simp) (by simp) (by simp) (by simp)); have K7 := Lib.hid (K6.out.trans k7); have W7 := Lib.hid (W6.out.keeps k7 (by simp)); have WR7 := Lib.hid (WR6.out.keeps k7 (by simp)); have E7 := Lib.hid (E6.out.keeps k7 (by simp)); have H7 := Lib.hid (H6.out.keeps k7 (by simp)); clear k7)
              | (go_at_call 18; refine (HAE.out w7 _ _ (E7.out.mono (Nat.zero_le _)) (EN7.out.mono (Nat.zero_le _))).mono ?_; rintro e w8 ⟨rfl, k8⟩; have EN8 := Lib.hid (EN7.out.keeps k8 (by simp)); have HF8 := Lib.hid (HF7.out.keeps k8 (by simp) (by simp) (by simp) (by simp)); have K8 := Lib.hid (K7.out.trans k8); have W8 := Lib.hid (W7.out.keeps k8 (by simp)); have WR8 := Lib.hid (WR7.out.keeps k8 (by simp)); have E8 := Lib.hid (E7.out.keeps k8 (by simp)); have H8 := Lib.hid (H7.out.keeps k8 (by simp)); have t0 := (W8.out.cell 0).trans (show _ = some (Value.int .u8 (d : Int)) from rfl); have t1 := (W8.out.cell 1).trans (show _ = some (Value.slice ka1 kn1 kc1) from rfl); have t2 := (W8.out.cell 2).trans (show _ = some (Value.slice va1 vn1 vc1) from rfl); have t3 := (W8.out.cell 3).trans (show _ = some (Value.int .u8 ((0 : Nat) : Int)) from rfl); have t4 := (W8.out.cell 4).trans (show _ = some (Value.slice ma1 mn1 mc1) from rfl); clear k8)
              | (go_at_call 27; refine (HBE.out w8 K8.out _ _ (E8.out.mono (Nat.zero_le _)) (EN8.out.mono (Nat.zero_le _))).mono ?_; rintro e w9 ⟨rfl, k9⟩; have EN9 := Lib.hid (EN8.out.keeps k9 (by simp)); have HF9 := Lib.hid (HF8.out.keeps k9 (by simp) (by simp) (by simp) (by simp)); have K9 := Lib.hid (K8.out.trans k9); have WR9 := Lib.hid (WR8.out.keeps k9 (by simp)); have H9 := Lib.hid (H8.out.keeps k9 (by simp)); clear k9 t0 t1 t2 t3 t4))
            clear r0 r1 u0 u1 W4 WR4 E4 H4 HF4 W5 WR5 E5 H5 HF5 W6 WR6 E6 H6 HF6 EN6 W7 WR7 E7 H7 HF7 EN7 W8 WR8 E8 H8 HF8 EN8 HUP HD HBE HAE K4 K5 K6 K7 K8
            rcases HW1.out with ⟨h0, ha, hi⟩ | ⟨h0, ha, hi⟩
            · have ht : wh = true := by rw [HWH.out, ha]; exact behind_aft HC.out.good.rise d ky1 vl1
              have g0 : (er == 0) = true := by simp [h0]
              have g1 : (er != 0) = false := by simp [h0]
              subst ht
              clear h0 ha
              go_quiet (fail)
              go_wp2
              go_roundw
              case rel => exact ⟨j + 1, s1.up, k', i', es1, m', w5.heap.size, ao3, cp3, cr, hlt5, by omega, by omega, rfl, rfl, by go_num, by omega, by omega, HM', Lib.hid (HF9.out.keeps (Keeps.drewN [] _ _) (by simp) (by simp) (by simp) (by simp)), HC1, HN1, Lib.hid (EN9.out.keeps (Keeps.drewN [] _ _) (by simp)), Lib.hid (WR9.out.keeps (Keeps.drewN [] _ _) (by simp)), Lib.hid (K9.out.trans (Keeps.drewN [] _ _))⟩
              case measure => simp [intOf]; omega
            · have ht : sm = true := by rw [HSM.out, ha]; simp
              have g0 : (er == 0) = false := by simp [h0]
              have g1 : (er != 0) = true := by simp [h0]
              subst ht
              clear h0 ha
              go_quiet (fail)
              go_wp2
              go_roundw
              case rel => exact ⟨j + 1, s1.up, k', i', es1, m', w5.heap.size, ao3, cp3, cr, hlt5, by omega, by omega, rfl, rfl, by go_num, by omega, by omega, HM', Lib.hid (HF9.out.keeps (Keeps.drewN [] _ _) (by simp) (by simp) (by simp) (by simp)), HC1, HN1, Lib.hid (EN9.out.keeps (Keeps.drewN [] _ _) (by simp)), Lib.hid (WR9.out.keeps (Keeps.drewN [] _ _) (by simp)), Lib.hid (K9.out.trans (Keeps.drewN [] _ _))⟩
              case measure => simp [intOf]; omega
      · obtain ⟨a, rfl⟩ : ∃ a, ar = a + 1 := ⟨ar - 1, by omega⟩
        have z1 : decide ((0 : Int) < ((a + 1 : Nat) : Int)) = true := decide_eq_true (by omega)
        have z2 : decide (0 < a + 1) = true := by simp
        have z3 : ((a + 1 : Nat) : Int) - 1 = (a : Int) := by omega
        have hAR := Arm6 Y HFY.out a (.slice ma1 mn1 mc1) ml1 Mm1 (HRM.out Y KY.out) HC.out.down (by omega) (by rw [HMN.out]; exact hm1)
        have HAR := Lib.hid hAR
        have HCA := Lib.hid (HC.out.arm a ml1)
        have HNA := Lib.hid (HNR.out.arm a ml1)
        have HSA := Lib.hid (show sumR (s.arm a ml1) 2 n = so from (sumR_same (s := s) (s' := s.arm a ml1) (fun _ => rfl) 2 n).trans HSO.out)
        clear hAR
        generalize s.arm a ml1 = sA at *
        go_upto_region 15 with (go_at_call 24; refine HAR.out.mono ?_; rintro e wA ⟨rfl, hfA, kA⟩; have HFA := Lib.hid hfA; have KA := Lib.hid (KY.out.then kA (S := []) (T := [F]) (fun x hx => by simp at hx; right; omega)); have WA := Lib.hid (WY.out.keeps kA (by simp; omega)); have WRA := Lib.hid (WRY.out.keeps kA (by simp; omega)); have EA := Lib.hid (EY.out.keeps kA (fun x hx => by simp at hx; omega)); have HA := Lib.hid (HY.out.keeps kA (by simp; omega)); clear hfA kA)
        clear q3 q4 WY WRY EY HY KY HFY HAR
        as_aux_lemma =>
          obtain ⟨s1, er, k', i', es1, hopk, hlf⟩ := HCA.out.op_left HNA.out (by omega) d ky1 vl1
          have hch := changed6_any wA HFA.out HCA.out (by omega) (by omega) d (a + 1) hd1 (.slice ka1 kn1 kc1) (.slice va1 vn1 vc1) (.slice ma1 mn1 mc1) ky1 vl1 (HBK.out _ KA.out) (HBV.out _ KA.out)
          rw [hopk] at hch
          have HCH := Lib.hid hch
          have HLF := Lib.hid hlf
          have HC1 := Lib.hid hlf.cfg
          have HDN := Lib.hid hlf.down
          obtain ⟨m', hm'⟩ : ∃ m', m' = es1.length := ⟨_, rfl⟩
          have HM' := Lib.hid hm'
          have hm100' : m' ≤ 100 := by have := wtL_length es1; have := HC1.out.room.1; omega
          clear hch hlf hopk hm'
          have t0 := (WA.out.cell 0).trans (show _ = some (Value.int .u8 (d : Int)) from rfl)
          have t1 := (WA.out.cell 1).trans (show _ = some (Value.slice ka1 kn1 kc1) from rfl)
          have t2 := (WA.out.cell 2).trans (show _ = some (Value.slice va1 vn1 vc1) from rfl)
          have t3 := (WA.out.cell 3).trans (show _ = some (Value.int .u8 (((a + 1) : Nat) : Int)) from rfl)
          have t4 := (WA.out.cell 4).trans (show _ = some (Value.slice ma1 mn1 mc1) from rfl)
          have r0 := (WRA.out.cell 0).trans (show _ = some (Value.int .i64 2) from rfl)
          have r1 := (WRA.out.cell 1).trans (show _ = some (Value.int .i64 (n : Int)) from rfl)
          go_upto_region 16 with (go_at_call 13; refine HCH.out.mono ?_; rintro e w4 ⟨rfl, hf4, k4⟩; have HF4 := Lib.hid hf4; have hlt4 := hf4.lt; have K4 := Lib.hid (KA.out.then k4 (S := []) (T := [F, B, W]) (fun x hx => by simp at hx; right; rcases hx with rfl | rfl | rfl <;> omega)); have W4 := Lib.hid (WA.out.keeps k4 (by simp; omega)); have WR4 := Lib.hid (WRA.out.keeps k4 (by simp; omega)); have E4 := Lib.hid (EA.out.keeps k4 (fun x hx => by simp at hx; omega)); have H4 := Lib.hid (HA.out.keeps k4 (by simp; omega)); clear hf4 k4)
          clear t0 t1 t2 t3 t4 r0 r1 HCH WA WRA EA HA HFA
          have HUP := Lib.hid (Up6 w4 HF4.out)
          obtain ⟨sm, hsm⟩ : ∃ sm : Bool, sm = decide (es = es1) := ⟨_, rfl⟩
          obtain ⟨wh, hwh⟩ : ∃ wh : Bool, wh = behindB d ky1 vl1 es es1 := ⟨_, rfl⟩
          have HBE := Lib.hid (show ∀ U, Keeps [] w U → ∀ va vb, EntsAt 0 U va es → EntsAt 0 U vb es1 → Calls Tryz.prog 27 #[.agg #[.int .u8 d, .slice ka1 kn1 kc1, .slice va1 vn1 vc1, .int .u8 (((a + 1) : Nat) : Int), .slice ma1 mn1 mc1], va, vb] U (fun e w' => e = .returned (.bool wh) ∧ Keeps [] U w') from fun U hU va vb ha hb => by
            obtain ⟨Mk, rk, _⟩ := HBK.out U hU
            obtain ⟨Mv, rv, _⟩ := HBV.out U hU
            have h := behind6_any U d (a + 1) hd1 (.slice ka1 kn1 kc1) (.slice va1 vn1 vc1) (.slice ma1 mn1 mc1) ky1 vl1 Mk Mv rk rv va vb es es1 ha hb (by have := HM.out; omega) (by have := HM'.out; omega)
            rw [← hwh] at h
            exact h)
          have HAE := Lib.hid (show ∀ U va vb, EntsAt 0 U va es → EntsAt 0 U vb es1 → Calls Tryz.prog 18 #[va, vb] U (fun e w' => e = .returned (.bool sm) ∧ Keeps [] U w') from fun U va vb ha hb => by
            have h := AreEntries_any U va vb es es1 ha hb (by have := HM.out; omega) (by have := HM'.out; omega)
            rw [← hsm] at h
            exact h)
          have HSM := Lib.hid hsm
          have HWH := Lib.hid hwh
          clear hsm hwh
          by_cases er12 : er = 12
          · have db : (er == 12) = true := by simp [er12]
            have g0 : (er == 0) = false := by rw [er12]; rfl
            have g1 : (er != 0) = true := by rw [er12]; rfl
            have hdn := Down6 w4 HF4.out
            rw [HDN.out, decide_eq_true er12] at hdn
            have HD := Lib.hid hdn
            obtain ⟨hn1, hw1⟩ : Near s1.up 2 n k' ((cr : Int) + 1) ∧ ((es1 = es ∧ k' = k ∧ i' = i) ∨ (es1 = aftE es d ky1 vl1 ∧ i' = i + 1) ∨ (es1 = aftE es d ky1 vl1 ∧ k' = k ∧ i' = i) ∨ (sumR s1.up 2 n = sumR sA 2 n + 1 ∧ k' ≠ k)) := by
              rcases HLF.out.what with h | h | h
              · exact absurd (h.1.symm.trans er12) (by decide)
              · exact absurd er12 h.2.1
              · exact h.2
            rw [HSA.out] at hw1
            have HN1 := Lib.hid hn1
            generalize hsn : sumR s1.up 2 n = sn at hw1
            have HSN := Lib.hid hsn
            have HW1 := Lib.hid hw1
            have HWE := Lib.hid (show ∀ U, FlashE U F B W s1.up → Calls Tryz.prog 22 #[.pointer (some ⟨F, 0, none⟩), .agg #[.int .i64 2, .int .i64 n]] U (fun e w' => ∃ dq : Int, e = .returned (.tuple #[.int .i64 sn, .int .i64 dq]) ∧ dq ≤ 2 + ((cr : Int) + 1) ∧ Keeps [] U w') from fun U hU => by have h := wears6_E U hU HC1.out (by omega) (by omega) _ HN1.out; rw [hsn] at h; exact h)
            clear hdn hn1 hw1 hsn er12
            go_upto_region 25 with (first
              | (go_at_call 25; refine HD.out.mono ?_; rintro e w' ⟨rfl, rfl⟩)
              | (go_at_call 26; refine HUP.out.mono ?_; rintro e w5 ⟨rfl, hf5, k5⟩; have HF5 := Lib.hid hf5; have K5 := Lib.hid (K4.out.then k5 (S := []) (T := [F]) (fun x hx => by simp at hx; right; omega)); have W5 := Lib.hid (W4.out.keeps k5 (by simp; omega)); have WR5 := Lib.hid (WR4.out.keeps k5 (by simp; omega)); have E5 := Lib.hid (E4.out.keeps k5 (fun x hx => by simp at hx; omega)); have H5 := Lib.hid (H4.out.keeps k5 (by simp; omega)); have hlt5 := hf5.lt; have r0 := (WR5.out.cell 0).trans (show _ = some (Value.int .i64 2) from rfl); have r1 := (WR5.out.cell 1).trans (show _ = some (Value.int .i64 (n : Int)) from rfl); clear hf5 k5)
              | (go_at_call 17; refine (All_base w5 HF5.out HC1.out HM'.out).mono ?_; rintro e w6 ⟨ao3, cp3, rfl, hen, hcp3, k6⟩; have EN6 := Lib.hid hen; have HF6 := Lib.hid (HF5.out.keeps k6 (by simp) (by simp) (by simp) (by simp)); have K6 := Lib.hid (K5.out.trans k6); have W6 := Lib.hid (W5.out.keeps k6 (by simp)); have WR6 := Lib.hid (WR5.out.keeps k6 (by simp)); have E6 := Lib.hid (E5.out.keeps k6 (by simp)); have H6 := Lib.hid (H5.out.keeps k6 (by simp)); have u0 := (WR6.out.cell 0).trans (show _ = some (Value.int .i64 2) from rfl); have u1 := (WR6.out.cell 1).trans (show _ = some (Value.int .i64 (n : Int)) from rfl); clear hen k6)
              | (go_at_call 22; refine (HWE.out w6 HF6.out).mono ?_; rintro e w7 ⟨dd2, rfl, hdd2, k7⟩; have EN7 := Lib.hid (EN6.out.keeps k7 (by simp)); have HF7 := Lib.hid (HF6.out.keeps k7 (by simp) (by simp) (by simp) (by simp)); have K7 := Lib.hid (K6.out.trans k7); have W7 := Lib.hid (W6.out.keeps k7 (by simp)); have WR7 := Lib.hid (WR6.out.keeps k7 (by simp)); have E7 := Lib.hid (E6.out.keeps k7 (by simp)); have H7 := Lib.hid (H6.out.keeps k7 (by simp)); clear k7)
              | (go_at_call 18; refine (HAE.out w7 _ _ (E7.out.mono (Nat.zero_le _)) (EN7.out.mono (Nat.zero_le _))).mono ?_; rintro e w8 ⟨rfl, k8⟩; have EN8 := Lib.hid (EN7.out.keeps k8 (by simp)); have HF8 := Lib.hid (HF7.out.keeps k8 (by simp) (by simp) (by simp) (by simp)); have K8 := Lib.hid (K7.out.trans k8); have W8 := Lib.hid (W7.out.keeps k8 (by simp)); have WR8 := Lib.hid (WR7.out.keeps k8 (by simp)); have E8 := Lib.hid (E7.out.keeps k8 (by simp)); have H8 := Lib.hid (H7.out.keeps k8 (by simp)); have t0 := (W8.out.cell 0).trans (show _ = some (Value.int .u8 (d : Int)) from rfl); have t1 := (W8.out.cell 1).trans (show _ = some (Value.slice ka1 kn1 kc1) from rfl); have t2 := (W8.out.cell 2).trans (show _ = some (Value.slice va1 vn1 vc1) from rfl); have t3 := (W8.out.cell 3).trans (show _ = some (Value.int .u8 (((a + 1) : Nat) : Int)) from rfl); have t4 := (W8.out.cell 4).trans (show _ = some (Value.slice ma1 mn1 mc1) from rfl); clear k8)
              | (go_at_call 27; refine (HBE.out w8 K8.out _ _ (E8.out.mono (Nat.zero_le _)) (EN8.out.mono (Nat.zero_le _))).mono ?_; rintro e w9 ⟨rfl, k9⟩; have EN9 := Lib.hid (EN8.out.keeps k9 (by simp)); have HF9 := Lib.hid (HF8.out.keeps k9 (by simp) (by simp) (by simp) (by simp)); have K9 := Lib.hid (K8.out.trans k9); have WR9 := Lib.hid (WR8.out.keeps k9 (by simp)); have H9 := Lib.hid (H8.out.keeps k9 (by simp)); clear k9 t0 t1 t2 t3 t4))
            clear r0 r1 u0 u1 W4 WR4 E4 H4 HF4 W5 WR5 E5 H5 HF5 W6 WR6 E6 H6 HF6 EN6 W7 WR7 E7 H7 HF7 EN7 W8 WR8 E8 H8 HF8 EN8 HUP HD HBE HAE K4 K5 K6 K7 K8
            have hall : ((sm = true ∨ wh = true) ∧ i' ≤ i + 1) ∨ (so < sn ∧ k' ≠ k) := by
              rcases HW1.out with h | h | h | h
              · exact .inl ⟨.inl (by rw [HSM.out, h.1]; simp), by omega⟩
              · exact .inl ⟨.inr (by rw [HWH.out, h.1]; exact behind_aft HC.out.good.rise d ky1 vl1), by omega⟩
              · exact .inl ⟨.inr (by rw [HWH.out, h.1]; exact behind_aft HC.out.good.rise d ky1 vl1), by omega⟩
              · exact .inr ⟨by omega, h.2⟩
            have HUS := Lib.hid (show ∀ U, Keeps [] w9 U → Calls Tryz.prog 23 #[.pointer (some ⟨F, 0, none⟩), .agg #[.int .i64 2, .int .i64 n]] U (fun e w' => e = .returned (.agg #[.int .i64 k', .int .u8 1, .int .u32 ((BitVec.ofNat 32 i').toNat : Nat)]) ∧ Keeps [] U w') from fun U hU => use6_num U (HF9.out.keeps hU (by simp) (by simp) (by simp) (by simp)) HC1.out)
            have HUQ := Lib.hid (show ∀ z : After w9, Calls Tryz.prog 23 #[.pointer (some ⟨F, 0, none⟩), .agg #[.int .i64 2, .int .i64 n]] z.U (fun e w' => e = .returned (.agg #[.int .i64 k', .int .u8 1, .int .u32 ((BitVec.ofNat 32 i').toNat : Nat)]) ∧ ∃ m : After w9, w' = m.U) from fun z => (HUS.out z.U z.k).mono fun e w' h => ⟨h.1, ⟨w', z.k.trans h.2⟩, rfl⟩)
            have hz5 : ∀ z : After w9, z.U.cell? ⟨w.heap.size, 0, none⟩ = some (.int .i64 2) ∧ z.U.cell? ⟨w.heap.size, 1, none⟩ = some (.int .i64 n) ∧ z.U.cell? ⟨HB, 0, none⟩ = some (.int .i64 k) ∧ z.U.cell? ⟨HB, 1, none⟩ = some (.int .u8 1) ∧ z.U.cell? ⟨HB, 2, none⟩ = some (.int .u32 i) := fun z => crS (WR9.out.keeps z.k (by simp)) (H9.out.keeps z.k (by simp))
            have z50 := fun z => (hz5 z).1
            have z51 := fun z => (hz5 z).2.1
            have z52 := fun z => (hz5 z).2.2.1
            have z53 := fun z => (hz5 z).2.2.2.1
            have z54 := fun z => (hz5 z).2.2.2.2
            haveI : Nonempty (After w9) := ⟨⟨w9, Keeps.refl [] _⟩⟩
            clear hz5
            have HREN := Lib.hid (fun (h : (BitVec.ofNat 32 i').toNat = i + 1) => show Cfg 16 2 n k' (i + 1) (j + 1) es1 s1.up from by
              have hb : BitVec.ofNat 32 i' = BitVec.ofNat 32 (i + 1) := BitVec.eq_of_toNat_eq (by rw [h, num_ofNat (i + 1) (by omega)])
              have c := HC1.out
              exact ⟨c.len, c.wl, c.down, c.left, c.fit, c.n3, by rw [← hb]; exact c.new, c.ents, c.wears⟩)
            have hxb : (BitVec.ofNat 32 i').toNat < 4294967296 := (BitVec.ofNat 32 i').isLt
            have HEQ := Lib.hid (fun W => hdr_equalB W (k' : Int) ((BitVec.ofNat 32 i').toNat : Int) (k : Int) (i : Int))
            generalize hxd : (BitVec.ofNat 32 i').toNat = xd at *
            have hgd := hdr_guard
            have hfld := fld_hdr
            have hw32 : IntKind.u32.wrap ((i : Int) + 1) = (i : Int) + 1 := IntWalk.u32_in _ (by omega)
            have hw33 : ((i : Int) + 1) % 4294967296 = (i : Int) + 1 := by omega
            have hdd3 : ¬ 2 + ((cr : Int) + 1) < dd2 := by omega
            clear hxd HSM HWH HW1 HLF
            by_cases hss : so < sn
            · have a1 : decide (so < sn) = true := decide_eq_true hss
              by_cases hnb : ((k' : Int) == (k : Int) && (xd : Int) == (i : Int)) = true
              · -- the sector in use is the same
                have hkk : k' = k := by simp at hnb; omega
                obtain ⟨hsw, hi1⟩ : (sm = true ∨ wh = true) ∧ i' ≤ i + 1 := by rcases hall with h | h; exact h; exact absurd hkk h.2
                have heq : ∀ W, (Op.equalIn 10000 51 (.agg #[.int .i64 (k' : Int), .int .u8 1, .int .u32 (xd : Int)]) (.agg #[.int .i64 (k : Int), .int .u8 1, .int .u32 (i : Int)])).run Tryz.prog W = .ok true W := fun W => by rw [HEQ.out W, hnb]
                have hnq : ∀ W, (binOp .neq 51 (.agg #[.int .i64 (k' : Int), .int .u8 1, .int .u32 (xd : Int)]) (.agg #[.int .i64 (k : Int), .int .u8 1, .int .u32 (i : Int)])).run Tryz.prog W = .ok (.bool false) W := fun W => by rw [hdr_neqB, hnb]; rfl
                have hcs : sm = true ∨ (sm = false ∧ wh = true) := by cases sm <;> simp_all
                clear hnb hall hkk hsw HEQ
                rcases hcs with rfl | ⟨rfl, rfl⟩
                all_goals
                  refine wp_region_class (S := After w9) After.U ⟨w9.drew, Keeps.drew [] w9⟩ (by kernel_rfl) (by kernel_rfl) rfl ?_
                  repeat (go_big_quiet_step ((go_at_call 23; exact HUQ.out _)))
                  refine wpQuiet_nil ?_
                  rintro _ ⟨nq, rfl⟩
                  have KL := Lib.hid nq.k
                  generalize nq.U = wq at *
                  have HFZ := Lib.hid (HF9.out.keeps KL.out (by simp) (by simp) (by simp) (by simp))
                  have ENZ := Lib.hid (EN9.out.keeps KL.out (by simp))
                  have WRZ := Lib.hid (WR9.out.keeps KL.out (by simp))
                  have KZ := Lib.hid (K9.out.trans KL.out)
                  have HN1' := Lib.hid (show Near s1.up 2 n k' ((cr + 1 : Nat) : Int) by have := HN1.out; rwa [show ((cr + 1 : Nat) : Int) = (cr : Int) + 1 by omega])
                  go_wp2
                  go_roundw
                  case rel => exact ⟨j + 1, s1.up, k', i', es1, m', w5.heap.size, ao3, cp3, cr + 1, hlt5, by omega, by omega, rfl, by go_num, by go_num, by omega, by omega, HM', HFZ, HC1, HN1', ENZ, WRZ, KZ⟩
                  case measure => simp [intOf]; omega
              · have hnb2 : ((k' : Int) == (k : Int) && (xd : Int) == (i : Int)) = false := by simpa using hnb
                have heq : ∀ W, (Op.equalIn 10000 51 (.agg #[.int .i64 (k' : Int), .int .u8 1, .int .u32 (xd : Int)]) (.agg #[.int .i64 (k : Int), .int .u8 1, .int .u32 (i : Int)])).run Tryz.prog W = .ok false W := fun W => by rw [HEQ.out W, hnb2]
                have hnq : ∀ W, (binOp .neq 51 (.agg #[.int .i64 (k' : Int), .int .u8 1, .int .u32 (xd : Int)]) (.agg #[.int .i64 (k : Int), .int .u8 1, .int .u32 (i : Int)])).run Tryz.prog W = .ok (.bool true) W := fun W => by rw [hdr_neqB, hnb2]; rfl
                clear hnb hnb2 hall HEQ
                by_cases hne : (xd : Int) = (i : Int) + 1
                · have n1 : ((xd : Int) != (i : Int) + 1) = false := by simp [hne]
                  have HCR := Lib.hid (HREN.out (by omega))
                  clear hne
                  cases sm with
                  | true =>
                    refine wp_region_class (S := After w9) After.U ⟨w9.drew, Keeps.drew [] w9⟩ (by kernel_rfl) (by kernel_rfl) rfl ?_
                    repeat (go_big_quiet_step ((go_at_call 23; exact HUQ.out _)))
                    refine wpQuiet_nil ?_
                    rintro _ ⟨nq, rfl⟩
                    have KL := Lib.hid nq.k
                    generalize nq.U = wq at *
                    have HFZ := Lib.hid (HF9.out.keeps KL.out (by simp) (by simp) (by simp) (by simp))
                    have ENZ := Lib.hid (EN9.out.keeps KL.out (by simp))
                    have WRZ := Lib.hid (WR9.out.keeps KL.out (by simp))
                    have KZ := Lib.hid (K9.out.trans KL.out)
                    have HN1' := Lib.hid (show Near s1.up 2 n k' ((cr + 1 : Nat) : Int) by have := HN1.out; rwa [show ((cr + 1 : Nat) : Int) = (cr : Int) + 1 by omega])
                    go_wp2
                    go_roundw
                    case rel => exact ⟨j + 1, s1.up, k', i + 1, es1, m', w5.heap.size, ao3, cp3, cr + 1, hlt5, by omega, by omega, rfl, by go_num, by go_num, by omega, by omega, HM', HFZ, HCR, HN1', ENZ, WRZ, KZ⟩
                    case measure => simp [intOf]; omega
                  | false =>
                    cases wh with
                    | true =>
                      refine wp_region_class (S := After w9) After.U ⟨w9.drew, Keeps.drew [] w9⟩ (by kernel_rfl) (by kernel_rfl) rfl ?_
                      repeat (go_big_quiet_step ((go_at_call 23; exact HUQ.out _)))
                      refine wpQuiet_nil ?_
                      rintro _ ⟨nq, rfl⟩
                      have KL := Lib.hid nq.k
                      generalize nq.U = wq at *
                      have HFZ := Lib.hid (HF9.out.keeps KL.out (by simp) (by simp) (by simp) (by simp))
                      have ENZ := Lib.hid (EN9.out.keeps KL.out (by simp))
                      have WRZ := Lib.hid (WR9.out.keeps KL.out (by simp))
                      have KZ := Lib.hid (K9.out.trans KL.out)
                      have HN1' := Lib.hid (show Near s1.up 2 n k' ((cr + 1 : Nat) : Int) by have := HN1.out; rwa [show ((cr + 1 : Nat) : Int) = (cr : Int) + 1 by omega])
                      go_wp2
                      go_roundw
                      case rel => exact ⟨j + 1, s1.up, k', i + 1, es1, m', w5.heap.size, ao3, cp3, cr + 1, hlt5, by omega, by omega, rfl, by go_num, by go_num, by omega, by omega, HM', HFZ, HCR, HN1', ENZ, WRZ, KZ⟩
                      case measure => simp [intOf]; omega
                    | false =>
                      refine wp_region_class (S := After w9) After.U ⟨w9.drew, Keeps.drew [] w9⟩ (by kernel_rfl) (by kernel_rfl) rfl ?_
                      repeat (go_big_quiet_step ((go_at_call 23; exact HUQ.out _)))
                      refine wpQuiet_nil ?_
                      rintro _ ⟨nq, rfl⟩
                      have KL := Lib.hid nq.k
                      generalize nq.U = wq at *
                      have KZ := Lib.hid (K9.out.trans KL.out)
                      go_wp2_with (go_at_call 21; refine (awake6_any _).mono ?_; rintro e w15 ⟨rfl, k15⟩; have K15 := Lib.hid (KZ.out.trans k15); clear k15)
                      go_ret
                      exact ⟨rfl, K15.out⟩
                · have n1 : ((xd : Int) != (i : Int) + 1) = true := by simp [hne]
                  clear hne
                  cases sm with
                  | true =>
                    refine wp_region_class (S := After w9) After.U ⟨w9.drew, Keeps.drew [] w9⟩ (by kernel_rfl) (by kernel_rfl) rfl ?_
                    repeat (go_big_quiet_step ((go_at_call 23; exact HUQ.out _)))
                    refine wpQuiet_nil ?_
                    rintro _ ⟨nq, rfl⟩
                    have KL := Lib.hid nq.k
                    generalize nq.U = wq at *
                    have KZ := Lib.hid (K9.out.trans KL.out)
                    go_wp2_with (go_at_call 21; refine (awake6_any _).mono ?_; rintro e w15 ⟨rfl, k15⟩; have K15 := Lib.hid (KZ.out.trans k15); clear k15)
                    go_ret
                    exact ⟨rfl, K15.out⟩
                  | false =>
                    cases wh with
                    | true =>
                      refine wp_region_class (S := After w9) After.U ⟨w9.drew, Keeps.drew [] w9⟩ (by kernel_rfl) (by kernel_rfl) rfl ?_
                      repeat (go_big_quiet_step ((go_at_call 23; exact HUQ.out _)))
                      refine wpQuiet_nil ?_
                      rintro _ ⟨nq, rfl⟩
                      have KL := Lib.hid nq.k
                      generalize nq.U = wq at *
                      have KZ := Lib.hid (K9.out.trans KL.out)
                      go_wp2_with (go_at_call 21; refine (awake6_any _).mono ?_; rintro e w15 ⟨rfl, k15⟩; have K15 := Lib.hid (KZ.out.trans k15); clear k15)
                      go_ret
                      exact ⟨rfl, K15.out⟩
                    | false =>
                      refine wp_region_class (S := After w9) After.U ⟨w9.drew, Keeps.drew [] w9⟩ (by kernel_rfl) (by kernel_rfl) rfl ?_
                      repeat (go_big_quiet_step ((go_at_call 23; exact HUQ.out _)))
                      refine wpQuiet_nil ?_
                      rintro _ ⟨nq, rfl⟩
                      have KL := Lib.hid nq.k
                      generalize nq.U = wq at *
                      have KZ := Lib.hid (K9.out.trans KL.out)
                      go_wp2_with (go_at_call 21; refine (awake6_any _).mono ?_; rintro e w15 ⟨rfl, k15⟩; have K15 := Lib.hid (KZ.out.trans k15); clear k15)
                      go_ret
                      exact ⟨rfl, K15.out⟩
            · have a1 : decide (so < sn) = false := decide_eq_false hss
              obtain ⟨hsw, hi1⟩ : (sm = true ∨ wh = true) ∧ i' ≤ i + 1 := by rcases hall with h | h; exact h; exact absurd h.1 hss
              have hcs : sm = true ∨ (sm = false ∧ wh = true) := by cases sm <;> simp_all
              clear hall hsw HEQ
              rcases hcs with rfl | ⟨rfl, rfl⟩
              all_goals
                refine wp_region_class (S := After w9) After.U ⟨w9.drew, Keeps.drew [] w9⟩ (by kernel_rfl) (by kernel_rfl) rfl ?_
                repeat (go_big_quiet_step ((go_at_call 23; exact HUQ.out _)))
                refine wpQuiet_nil ?_
                rintro _ ⟨nq, rfl⟩
                have KL := Lib.hid nq.k
                generalize nq.U = wq at *
                have HFZ := Lib.hid (HF9.out.keeps KL.out (by simp) (by simp) (by simp) (by simp))
                have ENZ := Lib.hid (EN9.out.keeps KL.out (by simp))
                have WRZ := Lib.hid (WR9.out.keeps KL.out (by simp))
                have KZ := Lib.hid (K9.out.trans KL.out)
                have HN1' := Lib.hid (show Near s1.up 2 n k' ((cr + 1 : Nat) : Int) by have := HN1.out; rwa [show ((cr + 1 : Nat) : Int) = (cr : Int) + 1 by omega])
                go_wp2
                go_roundw
                case rel => exact ⟨j + 1, s1.up, k', i', es1, m', w5.heap.size, ao3, cp3, cr + 1, hlt5, by omega, by omega, rfl, by go_num, by go_num, by omega, by omega, HM', HFZ, HC1, HN1', ENZ, WRZ, KZ⟩
                case measure => simp [intOf]; omega
          · have db : (er == 12) = false := by simp [er12]
            have hdn := Down6 w4 HF4.out
            rw [HDN.out, decide_eq_false er12] at hdn
            have HD := Lib.hid hdn
            obtain ⟨hn1, hw1⟩ : Near s1.up 2 n k' (cr : Int) ∧ ((er = 0 ∧ es1 = aftE es d ky1 vl1 ∧ i' ≤ i + 1) ∨ (er ≠ 0 ∧ es1 = es ∧ i' = i)) := by
              rcases HLF.out.what with h | h | h
              · exact ⟨h.2.2.1, .inl ⟨h.1, h.2.1, h.2.2.2⟩⟩
              · exact ⟨h.2.2.2.1, .inr ⟨h.1, h.2.2.1, h.2.2.2.2.1⟩⟩
              · exact absurd h.1 er12
            have HN1 := Lib.hid hn1
            have HW1 := Lib.hid hw1
            generalize hsn : sumR s1.up 2 n = sn
            have HWE := Lib.hid (show ∀ U, FlashE U F B W s1.up → Calls Tryz.prog 22 #[.pointer (some ⟨F, 0, none⟩), .agg #[.int .i64 2, .int .i64 n]] U (fun e w' => ∃ dq : Int, e = .returned (.tuple #[.int .i64 sn, .int .i64 dq]) ∧ dq ≤ 2 + ((cr : Int)) ∧ Keeps [] U w') from fun U hU => by have h := wears6_E U hU HC1.out (by omega) (by omega) _ HN1.out; rw [hsn] at h; exact h)
            clear hdn hn1 hw1 hsn er12
            go_upto_region 25 with (first
              | (go_at_call 25; refine HD.out.mono ?_; rintro e w' ⟨rfl, rfl⟩)
              | (go_at_call 26; refine HUP.out.mono ?_; rintro e w5 ⟨rfl, hf5, k5⟩; have HF5 := Lib.hid hf5; have K5 := Lib.hid (K4.out.then k5 (S := []) (T := [F]) (fun x hx => by simp at hx; right; omega)); have W5 := Lib.hid (W4.out.keeps k5 (by simp; omega)); have WR5 := Lib.hid (WR4.out.keeps k5 (by simp; omega)); have E5 := Lib.hid (E4.out.keeps k5 (fun x hx => by simp at hx; omega)); have H5 := Lib.hid (H4.out.keeps k5 (by simp; omega)); have hlt5 := hf5.lt; have r0 := (WR5.out.cell 0).trans (show _ = some (Value.int .i64 2) from rfl); have r1 := (WR5.out.cell 1).trans (show _ = some (Value.int .i64 (n : Int)) from rfl); clear hf5 k5)
              | (go_at_call 17; refine (All_base w5 HF5.out HC1.out HM'.out).mono ?_; rintro e w6 ⟨ao3, cp3, rfl, hen, hcp3, k6⟩; have EN6 := Lib.hid hen; have HF6 := Lib.hid (HF5.out.keeps k6 (by simp) (by simp) (by simp) (by simp)); have K6 := Lib.hid (K5.out.trans k6); have W6 := Lib.hid (W5.out.keeps k6 (by simp)); have WR6 := Lib.hid (WR5.out.keeps k6 (by simp)); have E6 := Lib.hid (E5.out.keeps k6 (by simp)); have H6 := Lib.hid (H5.out.keeps k6 (by simp)); have u0 := (WR6.out.cell 0).trans (show _ = some (Value.int .i64 2) from rfl); have u1 := (WR6.out.cell 1).trans (show _ = some (Value.int .i64 (n : Int)) from rfl); clear hen k6)
              | (go_at_call 22; refine (HWE.out w6 HF6.out).mono ?_; rintro e w7 ⟨dd2, rfl, hdd2, k7⟩; have EN7 := Lib.hid (EN6.out.keeps k7 (by simp)); have HF7 := Lib.hid (HF6.out.keeps k7 (by simp) (by simp) (by simp) (by simp)); have K7 := Lib.hid (K6.out.trans k7); have W7 := Lib.hid (W6.out.keeps k7 (by simp)); have WR7 := Lib.hid (WR6.out.keeps k7 (by simp)); have E7 := Lib.hid (E6.out.keeps k7 (by simp)); have H7 := Lib.hid (H6.out.keeps k7 (by simp)); clear k7)
              | (go_at_call 18; refine (HAE.out w7 _ _ (E7.out.mono (Nat.zero_le _)) (EN7.out.mono (Nat.zero_le _))).mono ?_; rintro e w8 ⟨rfl, k8⟩; have EN8 := Lib.hid (EN7.out.keeps k8 (by simp)); have HF8 := Lib.hid (HF7.out.keeps k8 (by simp) (by simp) (by simp) (by simp)); have K8 := Lib.hid (K7.out.trans k8); have W8 := Lib.hid (W7.out.keeps k8 (by simp)); have WR8 := Lib.hid (WR7.out.keeps k8 (by simp)); have E8 := Lib.hid (E7.out.keeps k8 (by simp)); have H8 := Lib.hid (H7.out.keeps k8 (by simp)); have t0 := (W8.out.cell 0).trans (show _ = some (Value.int .u8 (d : Int)) from rfl); have t1 := (W8.out.cell 1).trans (show _ = some (Value.slice ka1 kn1 kc1) from rfl); have t2 := (W8.out.cell 2).trans (show _ = some (Value.slice va1 vn1 vc1) from rfl); have t3 := (W8.out.cell 3).trans (show _ = some (Value.int .u8 (((a + 1) : Nat) : Int)) from rfl); have t4 := (W8.out.cell 4).trans (show _ = some (Value.slice ma1 mn1 mc1) from rfl); clear k8)
              | (go_at_call 27; refine (HBE.out w8 K8.out _ _ (E8.out.mono (Nat.zero_le _)) (EN8.out.mono (Nat.zero_le _))).mono ?_; rintro e w9 ⟨rfl, k9⟩; have EN9 := Lib.hid (EN8.out.keeps k9 (by simp)); have HF9 := Lib.hid (HF8.out.keeps k9 (by simp) (by simp) (by simp) (by simp)); have K9 := Lib.hid (K8.out.trans k9); have WR9 := Lib.hid (WR8.out.keeps k9 (by simp)); have H9 := Lib.hid (H8.out.keeps k9 (by simp)); clear k9 t0 t1 t2 t3 t4))
            clear r0 r1 u0 u1 W4 WR4 E4 H4 HF4 W5 WR5 E5 H5 HF5 W6 WR6 E6 H6 HF6 EN6 W7 WR7 E7 H7 HF7 EN7 W8 WR8 E8 H8 HF8 EN8 HUP HD HBE HAE K4 K5 K6 K7 K8
            rcases HW1.out with ⟨h0, ha, hi⟩ | ⟨h0, ha, hi⟩
            · have ht : wh = true := by rw [HWH.out, ha]; exact behind_aft HC.out.good.rise d ky1 vl1
              have g0 : (er == 0) = true := by simp [h0]
              have g1 : (er != 0) = false := by simp [h0]
              subst ht
              clear h0 ha
              go_quiet (fail)
              go_wp2
              go_roundw
              case rel => exact ⟨j + 1, s1.up, k', i', es1, m', w5.heap.size, ao3, cp3, cr, hlt5, by omega, by omega, rfl, rfl, by go_num, by omega, by omega, HM', Lib.hid (HF9.out.keeps (Keeps.drewN [] _ _) (by simp) (by simp) (by simp) (by simp)), HC1, HN1, Lib.hid (EN9.out.keeps (Keeps.drewN [] _ _) (by simp)), Lib.hid (WR9.out.keeps (Keeps.drewN [] _ _) (by simp)), Lib.hid (K9.out.trans (Keeps.drewN [] _ _))⟩
              case measure => simp [intOf]; omega
            · have ht : sm = true := by rw [HSM.out, ha]; simp
              have g0 : (er == 0) = false := by simp [h0]
              have g1 : (er != 0) = true := by simp [h0]
              subst ht
              clear h0 ha
              go_quiet (fail)
              go_wp2
              go_roundw
              case rel => exact ⟨j + 1, s1.up, k', i', es1, m', w5.heap.size, ao3, cp3, cr, hlt5, by omega, by omega, rfl, rfl, by go_num, by omega, by omega, HM', Lib.hid (HF9.out.keeps (Keeps.drewN [] _ _) (by simp) (by simp) (by simp) (by simp)), HC1, HN1, Lib.hid (EN9.out.keeps (Keeps.drewN [] _ _) (by simp)), Lib.hid (WR9.out.keeps (Keeps.drewN [] _ _) (by simp)), Lib.hid (K9.out.trans (Keeps.drewN [] _ _))⟩
              case measure => simp [intOf]; omega
    · have hex : (n0 ≤ j) ∨ (j < n0 ∧ ¬ j < 60) := by omega
      have hgx : (j < n0 → (j : Int) < n0) := by omega
      clear hlt
      rcases hex with hx | ⟨hx, hx'⟩
      · have dd1 : decide ((j : Int) < (n0 : Int)) = false := by simp; omega
        have dd2 : decide (j < n0) = false := by simp; omega
        clear hgx
        go_wp2_with (go_at_call 21; refine (awake6_any _).mono ?_; rintro e w15 ⟨rfl, k15⟩; have K15 := Lib.hid k15; clear k15)
        go_ret
        exact ⟨rfl, HKW.out.trans K15.out⟩
      · have hji := hgx hx
        have dd1 : decide ((j : Int) < (60 : Int)) = false := by simp; omega
        have dd2 : decide (j < 60) = false := by simp; omega
        clear hgx
        go_wp2_with (go_at_call 21; refine (awake6_any _).mono ?_; rintro e w15 ⟨rfl, k15⟩; have K15 := Lib.hid k15; clear k15)
        go_ret
        exact ⟨rfl, HKW.out.trans K15.out⟩
end Go.Proofs.YtcmjecnbmdhjlaaGreat
