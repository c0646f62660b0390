/-
  CfgNone: its walk.
-/
import Derived.Test.YtcmjecnbmdhjlaaGreatCfgAw
import Derived.LaidEqlPtr
import Derived.OpenShut
import Derived.Lib.SmallJoins
namespace Go.Proofs.YtcmjecnbmdhjlaaGreat
open Go.RowKit Go.Deep Go.ChangeShapes Go.WideShapes Go.Joins

set_option maxRecDepth 100000 in
theorem ring_read {H : Type} {enc : TypeId × Value → H} {W : World} {b0 base : Nat} {spare : Nat → Bool} {held : Bool} {r : Reach} {v : Value} {d : DataW H} {p : List MemPlace} (hv : Value.okWide Tryz.prog W r b0 25 v) (h : DataW.Trod enc Tryz.prog W base spare held 25 v d p) :
    ∃ a b : Int, v = .agg #[.int .i64 a, .int .i64 b] ∧ -9223372036854775808 ≤ a ∧ a ≤ 9223372036854775807 ∧ -9223372036854775808 ≤ b ∧ b ≤ 9223372036854775807 := by
  obtain ⟨c0, c1, y0, y1, m, rfl, _, _, h0, h1⟩ := open_agg2 Tryz.underlying25 (by kernel_rfl) (by kernel_rfl) hv h
  obtain ⟨d, hd, _, wd⟩ := DataW.trod_int Tryz.underlying3 h0
  obtain ⟨q, hq, _, wq⟩ := DataW.trod_int Tryz.underlying3 h1
  simp at hd hq
  subst hd hq
  exact ⟨d, q, rfl, (bounds_i64 wd).1, (bounds_i64 wd).2, (bounds_i64 wq).1, (bounds_i64 wq).2⟩

/-- What the functions answer where there is no ring. -/
structure NoRing (W0 : World) (p : Option Addr) (first count er : Int) : Prop where
  er0 : er ≠ 0
  no : ∀ U, Keeps [] W0 U → Calls Tryz.prog 45 #[.pointer p, .agg #[.int .i64 first, .int .i64 count]] U fun e w' => e = .returned (.tuple #[.agg #[.slice none 0 0, .int .i64 0, .int .u8 0, .int .u32 0, .int .i64 0, .map none], .int .i64 er]) ∧ Keeps [] U w'

theorem NoRing.keeps {W0 W1 : World} {p : Option Addr} {first count er : Int} (h : NoRing W0 p first count er) (hk : Keeps [] W0 W1) : NoRing W1 p first count er := ⟨h.er0, fun U hU => h.no U (hk.trans hU)⟩

theorem noRing_not (W0 : World) (p : Option Addr) (h : NotMade W0 p) (first count : Int) : NoRing W0 p first count 1 := ⟨by decide, fun U hU => inUse_not U p (NotMade.keeps h hU) first count⟩

theorem noRing_new {F B W M : Nat} {s : FS} (W0 : World) (hF : FlashAt W0 F B W M s) (hN : NewN 8 s) (first count : Int) (h1 : count ≤ 9223372036854775807) : NoRing W0 (some ⟨F, 0, none⟩) first count 50 := by
  have hwl : s.wear.length = 8 := by rw [hN.wear]; rfl
  refine ⟨by decide, fun U hU => ?_⟩
  have hFU := hF.keeps hU (by simp) (by simp) (by simp) (by simp)
  by_cases hb : count < 3 ∨ first < 0 ∨ (s.wear.length : Int) - count < first
  · exact inUse_bad U hFU (by omega) first count h1 hb
  · obtain ⟨f, rfl⟩ : ∃ f : Nat, first = (f : Int) := ⟨first.toNat, by omega⟩
    obtain ⟨c, rfl⟩ : ∃ c : Nat, count = (c : Int) := ⟨count.toNat, by omega⟩
    exact inUse_fresh U hFU hN (by omega) (by omega)

theorem run_eql_nilF (w : World) (b : Addr) : (binOp .eql 26 (.pointer none) (.pointer (some b))).run Tryz.prog w = .ok (.bool false) w := by
  have h : ∀ d : Nat, (Op.equalIn (d + 1) 26 (.pointer none) (.pointer (some b))).run Tryz.prog w = .ok false w := fun d => by
    simp [Op.equalIn, run_underlying Tryz.underlying26]
  simp only [binOp]
  simp [Op.equal, Op.maxDepth, h 9999]

theorem infoFl : ∃ j, Tryz.prog.info? 77 = some j ∧ j.size ≠ 0 := by
  have h : (Tryz.prog.info? 77).map (fun j => j.size != 0) = some true := by kernel_rfl
  cases hh : Tryz.prog.info? 77 with
  | none => rw [hh] at h; cases h
  | some j => rw [hh] at h; exact ⟨j, rfl, by simpa using h⟩

/-- A block of cells. -/
def Blk (w : World) (b : Nat) : Prop := ∃ cs t, w.heap[b]? = some (.cells cs t (0, 0))
theorem Blk.keeps {S : List Nat} {w w' : World} {b : Nat} (h : Blk w b) (hk : Keeps S w w') (hb : b ∉ S) : Blk w' b := by obtain ⟨cs, t, h⟩ := h; exact ⟨cs, t, hk.obj h hb⟩
theorem FlashAt.blk {w : World} {F B W M : Nat} {s : FS} (h : FlashAt w F B W M s) : Blk w F := by obtain ⟨_, _, _, h, _⟩ := h.here; exact ⟨_, _, h⟩
theorem run_eql_other (w : World) {a b : Nat} (h : a ≠ b) (ha : Blk w a) (hb : Blk w b) : (binOp .eql 26 (.pointer (some ⟨a, 0, none⟩)) (.pointer (some ⟨b, 0, none⟩))).run Tryz.prog w = .ok (.bool false) w := by
  obtain ⟨c1, t1, h1⟩ := ha
  obtain ⟨c2, t2, h2⟩ := hb
  obtain ⟨j, hj, hz⟩ := infoFl
  exact run_eql_ptr_other w Tryz.underlying26 hj hz (fun e => h (by cases e; rfl)) h1 h2
theorem run_eql_same (w : World) (a : Addr) : (binOp .eql 26 (.pointer (some a)) (.pointer (some a))).run Tryz.prog w = .ok (.bool true) w := by
  obtain ⟨j, hj, _⟩ := infoFl
  exact run_eql_ptr_same w a Tryz.underlying26 hj

set_option maxRecDepth 100000 in
set_option maxHeartbeats 4000000 in
theorem CfgNone_any (w : World) (first count : Int) (a1 a2 : Option Addr) (n1 n2 c1 c2 : Nat) (h1 : count ≤ 9223372036854775807) (h2 : -9223372036854775808 ≤ first) (h3 : first ≤ 9223372036854775807) (h4 : -9223372036854775808 ≤ count) :
    Calls Tryz.prog 8 #[.agg #[.int .i64 first, .int .i64 count], .slice a1 n1 c1, .slice a2 n2 c2] w fun e w' => e = .returned (.bool true) ∧ Keeps [] w w' := by
  have HNW := Lib.hid (fun U => New_ok U 8 (by decide) (by decide))
  go_enter Tryz.func8, Tryz.ntmps8
  go_upto_region 2 with (fail)
  generalize hV : World.alloc w _ = V
  have kV : Keeps [] w V := by rw [← hV]; exact Keeps.alloc [] _ _
  have wV : Whole V w.heap.size 25 [.int .i64 first, .int .i64 count] := by rw [← hV]; exact Whole.new w 25 [_, _]
  have KV := Lib.hid kV
  have WV := Lib.hid wV
  have nV := kV.size
  clear hV kV wV
  go_upto_region 5 with (go_at_call 34; refine (HNW.out _).mono ?_; rintro e w1 ⟨F, B, W, M, rfl, g1, g2, g3, hf1, k1⟩; have HF1 := Lib.hid hf1; have K1 := Lib.hid (KV.out.trans k1); have W1 := Lib.hid (WV.out.keeps k1 (by simp)); clear k1 hf1)
  go_upto_region 6 with (fail)
  generalize hX : World.alloc (World.alloc w1 _) _ = X
  have kX : Keeps [] w1 X := by rw [← hX]; exact (Keeps.alloc [] _ _).trans (Keeps.alloc [] _ _)
  have hz : X.cell? ⟨w1.heap.size, 0, none⟩ = some (.pointer none) := by
    rw [← hX]; exact (Keeps.alloc [] _ _).cell ((cell_alloc_new w1 _ _ 0).trans rfl) (by simp)
  have wL : Whole X (w1.heap.size + 1) 26 [.pointer none, .pointer (some ⟨w1.heap.size, 0, none⟩), .pointer (some ⟨F, 0, none⟩)] := by
    rw [← hX]; exact Whole.new_at _ 26 [_, _, _] (w1.heap.size + 1) (by simp)
  have hFlt := (HF1.out.lt).1
  have KX := Lib.hid (K1.out.trans kX)
  have WX := Lib.hid (W1.out.keeps kX (by simp))
  have HFX := Lib.hid (HF1.out.keeps kX (by simp) (by simp) (by simp) (by simp))
  have WL := Lib.hid wL
  have HNZ := Lib.hid (show NotMade X (some ⟨w1.heap.size, 0, none⟩) from .inr ⟨_, rfl, hz⟩)
  have hne : w1.heap.size ≠ F := by omega
  have hblk : Blk X w1.heap.size := by rw [← hX]; exact ⟨_, _, (Keeps.alloc [] _ _).obj (heap_alloc_new w1 _) (by simp)⟩
  have HEQ := Lib.hid (fun U (hU : Keeps [] X U) => run_eql_other U hne (hblk.keeps hU (by simp)) ((HFX.out.keeps hU (by simp) (by simp) (by simp) (by simp)).blk))
  have HG := Lib.hid (show w.heap.size ≤ F ∧ w.heap.size ≤ B ∧ w.heap.size ≤ W from ⟨by omega, by omega, by omega⟩)
  clear hX kX hz wL HF1 K1 W1 hblk hne g1 g2 g3
  generalize w1.heap.size = E at *
  go_loopw [11, 32] (fun _ ix wr => ∃ j : Nat, j ≤ 3 ∧ ix = .int .i64 j ∧ (j < 3 → Hid (Keeps [] X wr)) ∧ Hid (Keeps [] w wr)) (fun _ ix _ => 3 - (intOf ix).toNat)
  case atStart => exact ⟨0, by omega, rfl, fun _ => Lib.hid (Keeps.refl _ _), KX⟩
  case round =>
    obtain ⟨j, hj, rfl, hkx, HKW⟩ := hrel
    by_cases hlt : j < 3
    · have HKX := hkx hlt
      have hd1 : (j : Int) < 3 := by omega
      have r0 := ((WX.out.keeps HKX.out (by simp)).cell 0).trans (show _ = some (Value.int .i64 first) from rfl)
      have r1 := ((WX.out.keeps HKX.out (by simp)).cell 1).trans (show _ = some (Value.int .i64 count) from rfl)
      have WR := Lib.hid (WX.out.keeps HKX.out (by simp))
      have WLR := Lib.hid (WL.out.keeps HKX.out (by simp))
      clear hkx
      by_cases h2' : j < 2
      · obtain ⟨p, hp, hnm, hpf⟩ : ∃ p : Option Addr, wr.cell? ⟨E + 1, j, none⟩ = some (.pointer p) ∧ NotMade wr p ∧ ∀ U, Keeps [] wr U → (binOp .eql 26 (.pointer p) (.pointer (some ⟨F, 0, none⟩))).run Tryz.prog U = .ok (.bool false) U := by
          match j, h2' with
          | 0, _ => exact ⟨none, (WLR.out.cell 0).trans rfl, .inl rfl, fun U _ => run_eql_nilF U _⟩
          | 1, _ => exact ⟨some ⟨E, 0, none⟩, (WLR.out.cell 1).trans rfl, NotMade.keeps HNZ.out HKX.out, fun U hU => HEQ.out U (HKX.out.trans hU)⟩
        have HNR := Lib.hid (noRing_not wr p hnm first count)
        have HQ := Lib.hid hpf
        have heq0 := HQ.out wr (Keeps.refl _ _)
        have HNM := Lib.hid hnm
        clear hnm hpf
        go_wp2_with (first
          | (go_at_call 17; refine (All_err wr p first count 1 HNR.out.er0 HNR.out.no).mono ?_; rintro e v1 ⟨rfl, k1⟩; have Q1 := Lib.hid k1; have m0 := ((WR.out.keeps Q1.out (by simp)).cell 0).trans (show _ = some (Value.int .i64 first) from rfl); have m1 := ((WR.out.keeps Q1.out (by simp)).cell 1).trans (show _ = some (Value.int .i64 count) from rfl); clear k1)
          | (go_at_call 19; refine (Get_err v1 p first count 1 _ HNR.out.er0 (HNR.out.keeps Q1.out).no).mono ?_; rintro e v2 ⟨rfl, k2⟩; have Q2 := Lib.hid (Q1.out.trans k2); have m2 := ((WR.out.keeps Q2.out (by simp)).cell 0).trans (show _ = some (Value.int .i64 first) from rfl); have m3 := ((WR.out.keeps Q2.out (by simp)).cell 1).trans (show _ = some (Value.int .i64 count) from rfl); clear k2)
          | (go_at_call 30; refine (Set_err v2 p first count 1 _ _ HNR.out.er0 (HNR.out.keeps Q2.out).no).mono ?_; rintro e v3 ⟨rfl, k3⟩; have Q3 := Lib.hid (Q2.out.trans k3); have m4 := ((WR.out.keeps Q3.out (by simp)).cell 0).trans (show _ = some (Value.int .i64 first) from rfl); have m5 := ((WR.out.keeps Q3.out (by simp)).cell 1).trans (show _ = some (Value.int .i64 count) from rfl); clear k3)
          | (go_at_call 32; refine (Del_err v3 p first count 1 _ HNR.out.er0 (HNR.out.keeps Q3.out).no).mono ?_; rintro e v4 ⟨rfl, k4⟩; have Q4 := Lib.hid (Q3.out.trans k4); have m6 := ((WR.out.keeps Q4.out (by simp)).cell 0).trans (show _ = some (Value.int .i64 first) from rfl); have m7 := ((WR.out.keeps Q4.out (by simp)).cell 1).trans (show _ = some (Value.int .i64 count) from rfl); have heq4 := HQ.out v4 Q4.out; clear k4)
          | (go_at_call 10; refine (Make_not v4 p (NotMade.keeps HNM.out Q4.out) first count).mono ?_; rintro e v5 ⟨rfl, k5⟩; have Q5 := Lib.hid (Q4.out.trans k5); clear k5))
        go_roundw
        case rel => exact ⟨j + 1, by omega, by go_num, fun _ => Lib.hid (HKX.out.trans Q5.out), Lib.hid (HKW.out.trans Q5.out)⟩
        case measure => simp [intOf]; omega
      · obtain rfl : j = 2 := by omega
        have q0 := (WLR.out.cell 2).trans (show _ = some (Value.pointer (some ⟨F, 0, none⟩)) from rfl)
        have HFR := Lib.hid (HFX.out.keeps HKX.out (by simp) (by simp) (by simp) (by simp))
        have HNR := Lib.hid (noRing_new wr HFR.out (newN 8) first count h1)
        have HQ := Lib.hid (fun U (_ : Keeps [] wr U) => run_eql_same U ⟨F, 0, none⟩)
        have heq0 := HQ.out wr (Keeps.refl _ _)
        by_cases hfine : 3 ≤ count ∧ count ≤ 8 ∧ 0 ≤ first ∧ first ≤ 8 - count
        · have HMK := Lib.hid (show ∀ U, Keeps [] wr U → Calls Tryz.prog 10 #[.pointer (some ⟨F, 0, none⟩), .agg #[.int .i64 first, .int .i64 count]] U fun e w' => e = .returned (.int .i64 0) ∧ Keeps [F, B, W] U w' from fun U hU => by
            obtain ⟨f, rfl⟩ : ∃ f : Nat, first = (f : Int) := ⟨first.toNat, by omega⟩
            obtain ⟨c, rfl⟩ : ∃ c : Nat, count = (c : Int) := ⟨count.toNat, by omega⟩
            exact (Make_new (first := f) (n := c) U (HFR.out.keeps hU (by simp) (by simp) (by simp) (by simp)) (newN 8) (by omega) (by omega)).mono fun e w' ⟨h1, _, h3⟩ => ⟨h1, h3⟩)
          obtain ⟨f1, f2, f3, f4⟩ := hfine
          go_wp2_with (first
            | (go_at_call 17; refine (All_err wr (some ⟨F, 0, none⟩) first count 50 HNR.out.er0 HNR.out.no).mono ?_; rintro e v1 ⟨rfl, k1⟩; have Q1 := Lib.hid k1; have m0 := ((WR.out.keeps Q1.out (by simp)).cell 0).trans (show _ = some (Value.int .i64 first) from rfl); have m1 := ((WR.out.keeps Q1.out (by simp)).cell 1).trans (show _ = some (Value.int .i64 count) from rfl); clear k1)
            | (go_at_call 19; refine (Get_err v1 (some ⟨F, 0, none⟩) first count 50 _ HNR.out.er0 (HNR.out.keeps Q1.out).no).mono ?_; rintro e v2 ⟨rfl, k2⟩; have Q2 := Lib.hid (Q1.out.trans k2); have m2 := ((WR.out.keeps Q2.out (by simp)).cell 0).trans (show _ = some (Value.int .i64 first) from rfl); have m3 := ((WR.out.keeps Q2.out (by simp)).cell 1).trans (show _ = some (Value.int .i64 count) from rfl); clear k2)
            | (go_at_call 30; refine (Set_err v2 (some ⟨F, 0, none⟩) first count 50 _ _ HNR.out.er0 (HNR.out.keeps Q2.out).no).mono ?_; rintro e v3 ⟨rfl, k3⟩; have Q3 := Lib.hid (Q2.out.trans k3); have m4 := ((WR.out.keeps Q3.out (by simp)).cell 0).trans (show _ = some (Value.int .i64 first) from rfl); have m5 := ((WR.out.keeps Q3.out (by simp)).cell 1).trans (show _ = some (Value.int .i64 count) from rfl); clear k3)
            | (go_at_call 32; refine (Del_err v3 (some ⟨F, 0, none⟩) first count 50 _ HNR.out.er0 (HNR.out.keeps Q3.out).no).mono ?_; rintro e v4 ⟨rfl, k4⟩; have Q4 := Lib.hid (Q3.out.trans k4); have m6 := ((WR.out.keeps Q4.out (by simp)).cell 0).trans (show _ = some (Value.int .i64 first) from rfl); have m7 := ((WR.out.keeps Q4.out (by simp)).cell 1).trans (show _ = some (Value.int .i64 count) from rfl); have heq4 := HQ.out v4 Q4.out; clear k4)
            | (go_at_call 10; refine (HMK.out v4 Q4.out).mono ?_; rintro e v5 ⟨rfl, k5⟩; have Q5 := Lib.hid ((Q4.out.mono (T := [F, B, W]) (by simp)).trans k5); clear k5))
          all_goals
            go_roundw
            case rel => exact ⟨3, by omega, rfl, fun h => absurd h (by omega), Lib.hid (HKW.out.then Q5.out (by have := HG.out; simp; omega))⟩
            case measure => simp [intOf]
        · have HMK := Lib.hid (show ∀ U, Keeps [] wr U → Calls Tryz.prog 10 #[.pointer (some ⟨F, 0, none⟩), .agg #[.int .i64 first, .int .i64 count]] U fun e w' => e = .returned (.int .i64 50) ∧ Keeps [] U w' from fun U hU =>
            Make_bad U (HFR.out.keeps hU (by simp) (by simp) (by simp) (by simp)) (by decide) first count h1 (by have : ((FS.new 8).wear.length : Int) = 8 := rfl; omega))
          go_wp2_with (first
            | (go_at_call 17; refine (All_err wr (some ⟨F, 0, none⟩) first count 50 HNR.out.er0 HNR.out.no).mono ?_; rintro e v1 ⟨rfl, k1⟩; have Q1 := Lib.hid k1; have m0 := ((WR.out.keeps Q1.out (by simp)).cell 0).trans (show _ = some (Value.int .i64 first) from rfl); have m1 := ((WR.out.keeps Q1.out (by simp)).cell 1).trans (show _ = some (Value.int .i64 count) from rfl); clear k1)
            | (go_at_call 19; refine (Get_err v1 (some ⟨F, 0, none⟩) first count 50 _ HNR.out.er0 (HNR.out.keeps Q1.out).no).mono ?_; rintro e v2 ⟨rfl, k2⟩; have Q2 := Lib.hid (Q1.out.trans k2); have m2 := ((WR.out.keeps Q2.out (by simp)).cell 0).trans (show _ = some (Value.int .i64 first) from rfl); have m3 := ((WR.out.keeps Q2.out (by simp)).cell 1).trans (show _ = some (Value.int .i64 count) from rfl); clear k2)
            | (go_at_call 30; refine (Set_err v2 (some ⟨F, 0, none⟩) first count 50 _ _ HNR.out.er0 (HNR.out.keeps Q2.out).no).mono ?_; rintro e v3 ⟨rfl, k3⟩; have Q3 := Lib.hid (Q2.out.trans k3); have m4 := ((WR.out.keeps Q3.out (by simp)).cell 0).trans (show _ = some (Value.int .i64 first) from rfl); have m5 := ((WR.out.keeps Q3.out (by simp)).cell 1).trans (show _ = some (Value.int .i64 count) from rfl); clear k3)
            | (go_at_call 32; refine (Del_err v3 (some ⟨F, 0, none⟩) first count 50 _ HNR.out.er0 (HNR.out.keeps Q3.out).no).mono ?_; rintro e v4 ⟨rfl, k4⟩; have Q4 := Lib.hid (Q3.out.trans k4); have m6 := ((WR.out.keeps Q4.out (by simp)).cell 0).trans (show _ = some (Value.int .i64 first) from rfl); have m7 := ((WR.out.keeps Q4.out (by simp)).cell 1).trans (show _ = some (Value.int .i64 count) from rfl); have heq4 := HQ.out v4 Q4.out; clear k4)
            | (go_at_call 10; refine (HMK.out v4 Q4.out).mono ?_; rintro e v5 ⟨rfl, k5⟩; have Q5 := Lib.hid (Q4.out.trans k5); clear k5))
          all_goals
            go_roundw
            case rel => exact ⟨3, by omega, rfl, fun h => absurd h (by omega), Lib.hid (HKW.out.trans Q5.out)⟩
            case measure => simp [intOf]
    · obtain rfl : j = 3 := by omega
      go_wp2_with (go_at_call 21; refine (awake6_any _).mono ?_; rintro e w4 ⟨rfl, k4⟩; have K4 := Lib.hid k4; clear k4)
      go_ret
      exact ⟨rfl, HKW.out.trans K4.out⟩
end Go.Proofs.YtcmjecnbmdhjlaaGreat
