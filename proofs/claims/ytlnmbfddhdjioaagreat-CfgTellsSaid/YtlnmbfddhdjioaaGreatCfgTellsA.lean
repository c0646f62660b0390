/-
  CfgTells, walked.
-/
import Derived.Test.YtlnmbfddhdjioaaGreatCfgMnt
import Derived.Deep.RegionHeld3
namespace Go.Proofs.YtlnmbfddhdjioaaGreat
set_option linter.unusedVariables false
open Go.RowKit Go.Deep

/-- A list of changes whose keys and values are of bounded length. -/
def OpsR (w : World) (base : Nat) (v : Value) (n : Nat) : Prop :=
  (v = .slice none 0 0 ∧ n = 0) ∨ ∃ (a : Addr) (cap : Nat), v = .slice (some a) n cap ∧ n ≤ cap ∧ cap ≤ maxLen ∧ ∀ i, i < n → ∃ d ar kv vv mv ky vl ml Mk Mv Mm, Op6At w base a i d ar kv vv mv ky vl ml Mk Mv Mm ∧ ky.length ≤ 140737488351232 ∧ vl.length ≤ 140737488351232

theorem OpsR.shape {w : World} {base n : Nat} {v : Value} (h : OpsR w base v n) : ∃ ao cap, v = .slice ao n cap ∧ n ≤ maxLen := by
  rcases h with ⟨rfl, rfl⟩ | ⟨a, cap, rfl, h1, h2, _⟩
  · exact ⟨none, 0, rfl, by decide⟩
  · exact ⟨some a, cap, rfl, by omega⟩

theorem OpsR.spot {w : World} {base : Nat} {ao : Option Addr} {cap n : Nat} (h : OpsR w base (.slice ao n cap) n) (h0 : 0 < n) : ∃ b off, ao = some ⟨b, off, none⟩ ∧ ∀ i, i < n → ∃ d ar kv vv mv ky vl ml Mk Mv Mm, Op6At w base ⟨b, off, none⟩ i d ar kv vv mv ky vl ml Mk Mv Mm ∧ ky.length ≤ 140737488351232 ∧ vl.length ≤ 140737488351232 := by
  rcases h with ⟨_, h1⟩ | ⟨⟨b, off, spot⟩, cap', hv, _, _, hp⟩
  · omega
  · simp only [Value.slice.injEq] at hv
    obtain ⟨_, _, _, _, _, _, _, _, _, _, _, ⟨_, _, _, _, _, _, _, _, _, _, _, _, c0, _⟩, _⟩ := hp 0 h0
    have hs : spot = none := by
      cases spot with
      | none => rfl
      | some x =>
        exfalso
        simp only [Addr.add, Nat.zero_mul, if_true] at c0
        unfold World.cell? at c0
        split at c0
        · simp at c0
        · cases c0
    subst hs
    exact ⟨b, off, hv.1, hp⟩

theorem EntsP.mono {P Q : Nat → Prop} {w : World} {v : Value} {es : List Ent} (h : EntsP P w v es) (hPQ : ∀ g, P g → g < w.heap.size → Q g) : EntsP Q w v es := by
  obtain ⟨ao, cap, hv, hl, hc⟩ := h
  refine ⟨ao, cap, hv, hl, fun i e he => ?_⟩
  obtain ⟨g, kv, vv, h1, h2, h3, h4, h5, ⟨M1, r1, l1⟩, ⟨M2, r2, l2⟩⟩ := hc i e he
  exact ⟨g, kv, vv, h1, hPQ g h2 h3, h3, h4, h5, ⟨M1, r1, fun h => ⟨hPQ M1 (l1 h).1 (l1 h).2, (l1 h).2⟩⟩, ⟨M2, r2, fun h => ⟨hPQ M2 (l2 h).1 (l2 h).2, (l2 h).2⟩⟩⟩

/-- The blocks of what came in, and those behind a flash. -/
def PArg (A F B W : Nat) : Nat → Prop := fun M => M < A ∨ (F < M ∧ B < M ∧ W < M)
/-- The same, but two. -/
def PBut (A F B W x y : Nat) : Nat → Prop := fun M => (M < A ∨ (F < M ∧ B < M ∧ W < M)) ∧ M ≠ x ∧ M ≠ y

theorem notMem1' {a b : Nat} (h : a ≠ b) : a ∉ [b] := fun hm => h (by simpa using hm)

theorem byteUp (c : UInt8) : IntKind.u8.wrap ((c.toNat : Int) + 1) = ((c + 1).toNat : Int) := by
  rw [UInt8.toNat_add]
  show ((c.toNat : Int) + 1) % 256 = _
  simp

theorem two_cells {w : World} {r b : Nat} {x y u v : Value} (h : Whole w r 25 [x, y]) (a0 : w.cell? ⟨b, 0, none⟩ = some u) (a1 : w.cell? ⟨b, 1, none⟩ = some v) :
    w.cell? ⟨r, 0, none⟩ = some x ∧ w.cell? ⟨r, 1, none⟩ = some y := ⟨(h.cell 0).trans rfl, (h.cell 1).trans rfl⟩

set_option maxRecDepth 100000 in
set_option maxHeartbeats 2000000 in
theorem begun6_mask (w : World) (first n : Nat) (hn : 3 ≤ n) (hf : first + n ≤ 16) :
    Calls Tryz.prog 5 #[.agg #[.int .i64 first, .int .i64 n]] w fun e w' => ∃ F B W s, e = .returned (.tuple #[.pointer (some ⟨F, 0, none⟩), .bool true]) ∧ w.heap.size ≤ F ∧ w.heap.size ≤ B ∧ w.heap.size ≤ W ∧ FlashE w' F B W s ∧ s.armed = false ∧ s.mask = [] ∧ Cfg 16 first n first 1 0 [] s ∧ Keeps [] w w' := by
  go_enter Tryz.func5, Tryz.ntmps5
  go_upto_region 1 with (fail)
  generalize hV : World.alloc w _ = V
  have kV : Keeps [] w V := by rw [← hV]; exact Keeps.alloc [] _ _
  have wV : Whole V w.heap.size 25 [.int .i64 first, .int .i64 n] := by rw [← hV]; exact Whole.new w 25 [_, _]
  have KV := Lib.hid kV
  have WV := Lib.hid wV
  have nV := kV.size
  clear hV kV wV
  have HNW := Lib.hid (New_ok V 16 (by decide) (by decide))
  go_upto_region 2 with (go_at_call 18; refine HNW.out.mono ?_; rintro e w1 ⟨F, B, W, M, rfl, h1, h2, h3, hf1, k1⟩; have HF1 := Lib.hid hf1; have K1 := Lib.hid (KV.out.trans k1); have W1 := Lib.hid (WV.out.keeps k1 (by simp)); clear k1 hf1)
  have v0 := (W1.out.cell 0).trans (show _ = some (Value.int .i64 (first : Int)) from rfl)
  have v1 := (W1.out.cell 1).trans (show _ = some (Value.int .i64 (n : Int)) from rfl)
  have HMK := Lib.hid (fun U (hU : Keeps [] w1 U) => Make_new U (HF1.out.keeps hU (by simp) (by simp) (by simp) (by simp)) (newN 16) hn hf)
  go_wp2_with (go_at_call 6; first | (refine (HMK.out _ (Keeps.refl [] _)).mono ?_; rintro e w2 ⟨rfl, hf2, k2⟩))
  go_ret2
  have hc := ((newN 16).cfg first n hn hf (Int.le_refl _)).1
  exact ⟨F, B, W, _, rfl, by omega, by omega, by omega, FlashE.of hf2 (.inl rfl), rfl, rfl, hc, K1.out.then k2 (fun x hx => by simp at hx; right; rcases hx with rfl | rfl | rfl <;> omega)⟩

set_option maxRecDepth 100000 in
set_option maxHeartbeats 4000000 in
theorem CfgTells_any (w : World) (f0 c0 : Nat) (hf0 : f0 < 256) (hc0 : c0 < 256) (lv kv : Value) (n0 : Nat) (hl : OpsR w w.heap.size lv n0) (key : List UInt8) (Mk : Nat) (hkey : Reads w kv key Mk) (hMk : key ≠ [] → Mk < w.heap.size) (hkl : key.length ≤ maxLen) :
    Calls Tryz.prog 3 #[.int .u8 f0, .int .u8 c0, lv, kv] w fun e w' => e = .returned (.bool true) ∧ Keeps [] w w' := by
  obtain ⟨ao, cap, rfl, hn⟩ := hl.shape
  obtain ⟨ka, kcap, rfl, _⟩ := hkey.shape
  have HL := Lib.hid hl
  have HKEY := Lib.hid hkey
  have HMK := Lib.hid hMk
  obtain ⟨m, hm⟩ : ∃ m, c0 % 10 = m := ⟨_, rfl⟩
  obtain ⟨n, hnn⟩ : ∃ n, 3 + m = n := ⟨_, rfl⟩
  obtain ⟨first, hfi⟩ : ∃ first, f0 % (17 - n) = first := ⟨_, rfl⟩
  have hm9 : m < 10 := by omega
  have hn3 : 3 ≤ n := by omega
  have hn12 : n ≤ 12 := by omega
  have hfn : first + n ≤ 16 := by
    have := Nat.mod_lt f0 (show 17 - n > 0 by omega)
    omega
  have e1 : (c0 : Int) % 10 = (m : Int) := by omega
  have e1' : (c0 : Int).tmod 10 = (m : Int) := by rw [Int.tmod_eq_emod_of_nonneg (by omega)]; exact e1
  have e2 : (3 : Int) + (m : Int) = (n : Int) := by omega
  have e3 : (f0 : Int) % (17 - (n : Int)) = (first : Int) := by rw [show (17 : Int) - (n : Int) = ((17 - n : Nat) : Int) by omega, ← Int.natCast_emod, hfi]
  have e3' : (f0 : Int).tmod (17 - (n : Int)) = (first : Int) := by rw [Int.tmod_eq_emod_of_nonneg (by omega)]; exact e3
  have hn17 : (17 : Int) - (n : Int) ≠ 0 := by omega
  have HBG := Lib.hid (fun U => begun6_mask U first n hn3 hfn)
  generalize hkn : key.length = kn at *
  have HKNE := Lib.hid hkn
  clear hl hkey hMk hm hnn hfi hkn
  go_enter Tryz.func3, Tryz.ntmps3
  go_upto_region 3 with (fail)
  generalize hV : World.alloc w _ = V
  have kV : Keeps [] w V := by rw [← hV]; exact Keeps.alloc [] _ _
  have wV : Whole V w.heap.size 25 [.int .i64 first, .int .i64 n] := by rw [← hV]; exact Whole.new w 25 [_, _]
  have v0 := (wV.cell 0).trans (show _ = some (Value.int .i64 (first : Int)) from rfl)
  have v1 := (wV.cell 1).trans (show _ = some (Value.int .i64 (n : Int)) from rfl)
  have KV := Lib.hid kV
  have WV := Lib.hid wV
  have hRV := wV.lt
  clear hV kV wV e1 e1' e2 e3 e3' hn17
  go_upto_region 4 with (go_at_call 5; refine (HBG.out _).mono ?_; rintro e w1 ⟨F, B, W, s0, rfl, f1, f2, f3, hF1, ha1, hm1, hc1, k1⟩; have HM1 := Lib.hid hm1; clear hm1; have HF1 := Lib.hid hF1; have HC1 := Lib.hid hc1; have HA1 := Lib.hid ha1; have W1 := Lib.hid (WV.out.keeps k1 (by simp)); have K1 := Lib.hid (KV.out.trans k1); clear hF1 hc1 ha1 k1)
  clear v0 v1
  have f4 : w.heap.size < F ∧ w.heap.size < B ∧ w.heap.size < W := by omega
  clear f1 f2 f3
  have v0 := (W1.out.cell 0).trans (show _ = some (Value.int .i64 (first : Int)) from rfl)
  have v1 := (W1.out.cell 1).trans (show _ = some (Value.int .i64 (n : Int)) from rfl)
  go_wp2_with (go_at_call 6; refine (Make_has w1 HF1.out HC1.out).mono ?_; rintro e w2 ⟨rfl, k2⟩; have HF2 := Lib.hid (HF1.out.keeps k2 (by simp) (by simp) (by simp) (by simp)); have W2 := Lib.hid (W1.out.keeps k2 (by simp)); have K2 := Lib.hid (K1.out.trans k2); clear k2)
  clear v0 v1 W1 K1 HF1
  go_loopw [12, 13, 14, 15, 16, 17, 18, 19] (fun wv ix _ _ _ _ _ _ wr => ∃ (j : Nat) (s : FS) (k i : Nat) (es : List Ent) (m : Nat) (ao2 : Option Addr) (cp2 : Nat), j ≤ n0 ∧ j ≤ 40 ∧ wv = .slice ao2 m cp2 ∧ ix = .int .i64 j ∧ i ≤ j + 1 ∧ Hid (m = es.length) ∧ Hid (FlashE wr F B W s) ∧ Hid (Cfg 16 first n k i j es s) ∧ Hid (s.armed = false) ∧ Hid (s.mask = []) ∧ Hid (EntsP (PArg w.heap.size F B W) wr (.slice ao2 m cp2) es) ∧ Hid (Whole wr w.heap.size 25 [.int .i64 first, .int .i64 n]) ∧ Hid (Keeps [] w wr)) (fun _ ix _ _ _ _ _ _ _ => n0 - (intOf ix).toNat)
  case atStart => exact ⟨0, s0, first, 1, [], 0, none, 0, by omega, by omega, rfl, rfl, by omega, Lib.hid rfl, HF2, HC1, HA1, HM1, Lib.hid (EntsP.nil _ _), W2, K2⟩
  case round =>
    obtain ⟨j, s, k, i, es, m2, ao2, cp2, hjn, hj40, rfl, rfl, hij, HM, HF, HC, HA, HMS, HE, WR, HKW⟩ := hrel
    clear HF2 HC1 HA1 HM1 W2 K2 WV KV HBG
    by_cases hlt : j < n0 ∧ j < 40
    · obtain ⟨h1, h2⟩ := hlt
      have hji : (j : Int) < (n0 : Int) := by omega
      have hj3 : (j : Int) < 40 := by omega
      obtain ⟨b, off, rfl, hops⟩ := HL.out.spot (by omega)
      obtain ⟨d, ar, kv1, vv1, mv1, ky1, vl1, ml1, Mk1, Mv1, Mm1, hop, hky, hvl⟩ := hops j h1
      have hop0 := hop
      obtain ⟨hd1, _, hk1, hv1, _, rk1, bk1, rv1, bv1, rm1, _, hbA, c0, c1, c2, c3, c4⟩ := hop.keeps HKW.out (by simp)
      obtain ⟨ka1, kc1, rfl, _⟩ := rk1.shape
      obtain ⟨va1, vc1, rfl, _⟩ := rv1.shape
      obtain ⟨ma1, mc1, rfl, _⟩ := rm1.shape
      have hsz := HKW.out.size
      have RK := Lib.hid (fun U (hU : Keeps [] w U) => show Reads U (.slice ka1 ky1.length kc1) ky1 Mk1 from (hop0.keeps hU (by simp)).2.2.2.2.2.1)
      have RV := Lib.hid (fun U (hU : Keeps [] w U) => show Reads U (.slice va1 vl1.length vc1) vl1 Mv1 from (hop0.keeps hU (by simp)).2.2.2.2.2.2.2.1)
      have HFK := Lib.hid (fun U (hU : Keeps [] w U) => FreshBig U (.slice ka1 ky1.length kc1) ky1 Mk1 (RK.out U hU) hky)
      have HFV := Lib.hid (fun U (hU : Keeps [] w U) => FreshBig U (.slice va1 vl1.length vc1) vl1 Mv1 (RV.out U hU) hvl)
      have HBK := Lib.hid bk1
      have HBV := Lib.hid bv1
      have hflt := HF.out.lt
      have OPC := Lib.hid (fun U (hU : Keeps [] w U) => (hop0.keeps hU (by simp)).2.2.2.2.2.2.2.2.2.2.2.2)
      clear rm1 hop hop0 hops rk1 rv1 bk1 bv1
      generalize hkn1 : ky1.length = kn1 at *
      generalize hvn1 : vl1.length = vn1 at *
      generalize ml1.length = mn1 at *
      have HKN := Lib.hid hkn1
      have HVN := Lib.hid hvn1
      clear hkn1 hvn1
      simp only [Addr.add_off, ← Nat.add_assoc] at c0 c1 c2 c3 c4 OPC
      have hm100 : m2 ≤ 100 := by have := wtL_length es; have := HC.out.room.1; have := HM.out; omega
      go_upto_region 11 with (fail)
      generalize hX : World.alloc wr _ = X
      have kX : Keeps [] wr X := by rw [← hX]; exact Keeps.alloc [] _ _
      have wX : Whole X wr.heap.size 33 [.int .u8 d, (.slice ka1 kn1 kc1), (.slice va1 vn1 vc1), .int .u8 ar, (.slice ma1 mn1 mc1)] := by rw [← hX]; exact Whole.new wr 33 [_, _, _, _, _]
      have WX := Lib.hid wX
      have hXlt := wX.lt
      have KX := Lib.hid (HKW.out.trans kX)
      have KXR := Lib.hid kX
      have KD := Lib.hid (HKW.out.trans (kX.trans (Keeps.drew [] X)))
      have KXD := Lib.hid (Keeps.drew [] X)
      have HEX := Lib.hid (HE.out.keeps kX (by simp))
      have WRX := Lib.hid (WR.out.keeps kX (by simp))
      have HFX := Lib.hid (HF.out.keeps kX (by simp) (by simp) (by simp) (by simp))
      have hwX : w.heap.size < wr.heap.size := WR.out.lt
      clear hX kX wX c1 c2 c3 c4
      generalize hOB : wr.heap.size = OB at *
      have HOB := Lib.hid hOB
      clear hOB
      go_region_held3 (fun w' => w'.cell? ⟨b, off + j * 5 + 1, none⟩ = some (.slice ka1 kn1 kc1) ∧ w'.cell? ⟨b, off + j * 5 + 2, none⟩ = some (.slice va1 vn1 vc1))
        (first
          | exact ⟨(OPC.out _ KD.out).2.1, (OPC.out _ KD.out).2.2.1⟩
          | exact ⟨(OPC.out _ K3.out).2.1, (OPC.out _ K3.out).2.2.1⟩
          | exact ⟨(OPC.out _ K4.out).2.1, (OPC.out _ K4.out).2.2.1⟩
          | exact ⟨(OPC.out _ K5.out).2.1, (OPC.out _ K5.out).2.2.1⟩
          | exact ⟨(OPC.out _ K6.out).2.1, (OPC.out _ K6.out).2.2.1⟩)
        (first
          | ((with_reducible refine (HFK.out _ KD.out).mono ?_); rintro e w3 ⟨fk, fkc, rfl, hfk, hrow, k3⟩; have RW3 := Lib.hid hrow; have K3 := Lib.hid (KD.out.trans k3); have KX3 := Lib.hid (KXD.out.trans k3); have hz3 := k3.size; clear hrow k3)
          | ((with_reducible refine (HFV.out _ K3.out).mono ?_); rintro e w4 ⟨fv, fvc, rfl, hfv, hrow, k4⟩; have RV4 := Lib.hid hrow; have RW4 := Lib.hid (RW3.out.keeps k4 (by simp)); have K4 := Lib.hid (K3.out.trans k4); have KX4 := Lib.hid (KX3.out.trans k4); have WX4 := WX.out.keeps KX4.out (by simp); have q1 := (WX4.cell 1).trans rfl; have q2 := (WX4.cell 2).trans rfl; have fz1 := WX4.frozen 1; have fz2 := WX4.frozen 2; have hz4 := k4.size; clear hrow k4; have K5 := Lib.hid (K4.out.then (Keeps.setCell (S := [OB]) w4 (p := ⟨OB, 1, none⟩) (by simp) (.slice (some ⟨fk, 0, none⟩) kn1 fkc)) (fun x hx => .inr (by simp at hx; omega))); have K6 := Lib.hid (K5.out.then (Keeps.setCell (S := [OB]) _ (p := ⟨OB, 2, none⟩) (by simp) (.slice (some ⟨fv, 0, none⟩) vn1 fvc)) (fun x hx => .inr (by simp at hx; omega)))))
      go_upto_region 12 with (fail)
      have wY := (WX4.set 1 (.slice (some ⟨fk, 0, none⟩) kn1 fkc)).set 2 (.slice (some ⟨fv, 0, none⟩) vn1 fvc)
      have kY : Keeps [OB] w4 _ := (Keeps.setCell (S := [OB]) w4 (p := ⟨OB, 1, none⟩) (by simp) (.slice (some ⟨fk, 0, none⟩) kn1 fkc)).trans (Keeps.setCell (S := [OB]) _ (p := ⟨OB, 2, none⟩) (by simp) (.slice (some ⟨fv, 0, none⟩) vn1 fvc))
      have hfk1 := RW4.out.lt
      have hfv1 := RV4.out.lt
      have hfkv : fk ≠ fv := by have := RW3.out.lt; omega
      have hfk0 : X.heap.size ≤ fk := hfk
      have hz30 : X.heap.size ≤ w3.heap.size := hz3
      have hfv0 : w3.heap.size ≤ fv := hfv
      generalize hY : World.setCell (World.setCell w4 ⟨OB, 1, none⟩ (.slice (some ⟨fk, 0, none⟩) kn1 fkc)) ⟨OB, 2, none⟩ (.slice (some ⟨fv, 0, none⟩) vn1 fvc) = Y at *
      have KY := K6
      have RKY := Lib.hid (RW4.out.keeps kY (notMem1' (by omega)))
      have RVY := Lib.hid (RV4.out.keeps kY (notMem1' (by omega)))
      have WOY := Lib.hid wY
      have kRY : Keeps [OB] wr Y := (((KXR.out.trans KX4.out).mono (T := [OB]) (by simp))).trans kY
      have hYsz : w4.heap.size ≤ Y.heap.size := kY.size
      have HFY := Lib.hid (HF.out.keeps kRY (by simp; omega) (by simp; omega) (by simp; omega) (by have := HOB.out; simp; omega))
      have HEB := Lib.hid ((HE.out.mono (Q := PBut w.heap.size F B W fk fv) (fun g hp hg => ⟨hp, by have := HOB.out; omega, by have := HOB.out; omega⟩)).keeps kRY (fun x hx => .inr (by have := HOB.out; simp at hx; omega)))
      have WRY := Lib.hid (WR.out.keeps kRY (notMem1' (by omega)))
      clear wY kY kRY q1 q2 fz1 fz2 WX4 RW3 RW4 RV4 K3 K4 K5 K6 KD KX3 KX4 KXD KX hY hz3 hz4 hfk hfv HEX WRX HFX WX
      have hYF := HFY.out.lt
      have RKl := Lib.hid (RK.out Y KY.out)
      have RVl := Lib.hid (RV.out Y KY.out)
      have HMT := Lib.hid (meant6_any Y (P := PBut w.heap.size F B W fk fv) (fun M hM => ⟨.inr (by omega), by have := RKY.out.lt; omega, by have := RVY.out.lt; omega⟩) d ar hd1 (.slice ao2 m2 cp2) (.slice ka1 kn1 kc1) (.slice va1 vn1 vc1) (.slice ma1 mn1 mc1) es ky1 vl1 HEB.out (by have := HM.out; omega) HC.out.room.1 HC.out.good.ok ⟨Mk1, RKl.out, fun hne => ⟨⟨.inl (HBK.out hne), by have := HBK.out hne; omega, by have := HBK.out hne; omega⟩, by have := HBK.out hne; omega⟩⟩ ⟨Mv1, RVl.out, fun hne => ⟨⟨.inl (HBV.out hne), by have := HBV.out hne; omega, by have := HBV.out hne; omega⟩, by have := HBV.out hne; omega⟩⟩ (by rw [HKN.out]; exact hk1) (by rw [HVN.out]; exact hv1))
      obtain ⟨s', k', i', q1, q2, q3, q4⟩ := HC.out.op_whole HA.out (by omega) d ky1 vl1
      have hm' := HC.out.op_mask HMS.out d ky1 vl1
      rw [q1] at hm'
      have HMS' := Lib.hid (show s'.mask = [] from hm')
      have HC2 := Lib.hid q3
      have HA2 := Lib.hid q2
      have HQ1 := Lib.hid q1
      have HCHA := Lib.hid (fun U (hU : FlashE U F B W s) (hK : Row U fk 5 (ky1.map bv) fkc) (hV : Row U fv 5 (vl1.map bv) fvc) => show Calls Tryz.prog 9 #[.agg #[.int .u8 d, .slice (some ⟨fk, 0, none⟩) kn1 fkc, .slice (some ⟨fv, 0, none⟩) vn1 fvc, .int .u8 ar, .slice ma1 mn1 mc1], .pointer (some ⟨F, 0, none⟩), .agg #[.int .i64 first, .int .i64 n]] U (fun e w' => e = .returned (.int .i64 (opE es d ky1 vl1).2) ∧ FlashE w' F B W s' ∧ Keeps [F, B, W] U w') from by
        have h1 := BytesAt.ofRow hK
        have h2 := BytesAt.ofRow hV
        rw [HKN.out] at h1
        rw [HVN.out] at h2
        have := changed6_any U hU HC.out (by omega) (by omega) d ar hd1 _ _ (.slice ma1 mn1 mc1) ky1 vl1 h1 h2
        rw [HQ1.out] at this
        exact this)
      generalize (opE es d ky1 vl1).2 = er at *
      generalize (opE es d ky1 vl1).1 = es' at *
      obtain ⟨m', hm2⟩ : ∃ m', es'.length = m' := ⟨_, rfl⟩
      rw [hm2] at HMT
      have HM' := Lib.hid hm2
      have hm100' : m' ≤ 100 := by have := wtL_length es'; have := HC2.out.room.1; omega
      clear hm' q1 q2 q3 hm2
      have g0 := (OPC.out Y KY.out)
      obtain ⟨g0, g1, g2, g3, g4⟩ := g0
      go_upto_region 13 with (go_at_call 8; refine HMT.out.mono ?_; rintro e w5 ⟨ao3, cp3, rfl, he5, k5⟩; have HE5 := Lib.hid he5; have K5 := Lib.hid (KY.out.trans k5); have RK5 := Lib.hid (RKY.out.keeps k5 (by simp)); have RV5 := Lib.hid (RVY.out.keeps k5 (by simp)); have WO5 := Lib.hid (WOY.out.keeps k5 (by simp)); have HF5 := Lib.hid (HFY.out.keeps k5 (by simp) (by simp) (by simp) (by simp)); have WR5 := Lib.hid (WRY.out.keeps k5 (by simp)); have hz5 := k5.size; clear he5 k5)
      clear g0 g1 g2 g3 g4
      have RDK := Lib.hid (fun U (hK : Row U fk 5 (ky1.map bv) fkc) => show Reads U (.slice (some ⟨fk, 0, none⟩) kn1 fkc) ky1 fk from by have := hK.reads; rw [HKN.out] at this; exact this)
      have RDV := Lib.hid (fun U (hV : Row U fv 5 (vl1.map bv) fvc) => show Reads U (.slice (some ⟨fv, 0, none⟩) vn1 fvc) vl1 fv from by have := hV.reads; rw [HVN.out] at this; exact this)
      have HIK := Lib.hid (fun U (hU : Keeps [] w U) (hK : Row U fk 5 (ky1.map bv) fkc) => show Calls Tryz.prog 10 #[.slice (some ⟨fk, 0, none⟩) kn1 fkc, .slice ka1 kn1 kc1] U (fun e w' => e = .returned (.bool true) ∧ U = w') from by
        have := Is_any U _ _ ky1 ky1 fk Mk1 (RDK.out U hK) (RK.out U hU)
        rw [beq_self_eq_true] at this; exact this)
      have HIV := Lib.hid (fun U (hU : Keeps [] w U) (hV : Row U fv 5 (vl1.map bv) fvc) => show Calls Tryz.prog 10 #[.slice (some ⟨fv, 0, none⟩) vn1 fvc, .slice va1 vn1 vc1] U (fun e w' => e = .returned (.bool true) ∧ U = w') from by
        have := Is_any U _ _ vl1 vl1 fv Mv1 (RDV.out U hV) (RV.out U hU)
        rw [beq_self_eq_true] at this; exact this)
      obtain ⟨wtl, hwtl⟩ : ∃ wtl : Nat, weightL ky1 vl1 = wtl := ⟨_, rfl⟩
      have HWT := Lib.hid (fun U (hK : Row U fk 5 (ky1.map bv) fkc) (hV : Row U fv 5 (vl1.map bv) fvc) => show Calls Tryz.prog 11 #[.slice (some ⟨fk, 0, none⟩) kn1 fkc, .slice (some ⟨fv, 0, none⟩) vn1 fvc] U (fun e w' => e = .returned (.int .i64 (wtl : Int)) ∧ Keeps [] U w') from by
        have := Weight_any U _ _ ky1 vl1 0 0 ⟨fk, RDK.out U hK, fun _ => ⟨Nat.zero_le _, hK.lt⟩⟩ ⟨fv, RDV.out U hV, fun _ => ⟨Nat.zero_le _, hV.lt⟩⟩ (by have := hK.lt; omega)
        rw [hwtl] at this; exact this)
      have HRW := Lib.hid (fun U (hK : Row U fk 5 (ky1.map bv) fkc) (hV : Row U fv 5 (vl1.map bv) fvc) => show Calls Tryz.prog 12 #[.slice (some ⟨fk, 0, none⟩) kn1 fkc, .slice (some ⟨fv, 0, none⟩) vn1 fvc] U (fun e w' => e = .returned (.int .i64 (wtl : Int)) ∧ U = w') from by
        have := r6Weight_same U _ _ ky1 vl1 ⟨fk, RDK.out U hK, fun _ => ⟨Nat.zero_le _, hK.lt⟩⟩ ⟨fv, RDV.out U hV, fun _ => ⟨Nat.zero_le _, hV.lt⟩⟩ (by rw [HKN.out]; exact hk1) (by rw [HVN.out]; exact hv1)
        rw [hwtl] at this; exact this)
      clear hwtl
      have SS := Lib.hid (fun U (hU : Keeps [] w U) (hO : Whole U OB 33 [.int .u8 d, .slice (some ⟨fk, 0, none⟩) kn1 fkc, .slice (some ⟨fv, 0, none⟩) vn1 fvc, .int .u8 ar, .slice ma1 mn1 mc1]) (hR : Whole U w.heap.size 25 [.int .i64 first, .int .i64 n]) =>
        show U.cell? ⟨b, off + j * 5 + 1, none⟩ = some (.slice ka1 kn1 kc1) ∧ U.cell? ⟨b, off + j * 5 + 2, none⟩ = some (.slice va1 vn1 vc1) ∧ U.cell? ⟨OB, 0, none⟩ = some (.int .u8 d) ∧ U.cell? ⟨OB, 1, none⟩ = some (.slice (some ⟨fk, 0, none⟩) kn1 fkc) ∧ U.cell? ⟨OB, 2, none⟩ = some (.slice (some ⟨fv, 0, none⟩) vn1 fvc) ∧ U.cell? ⟨OB, 3, none⟩ = some (.int .u8 ar) ∧ U.cell? ⟨OB, 4, none⟩ = some (.slice ma1 mn1 mc1) ∧ U.cell? ⟨w.heap.size, 0, none⟩ = some (.int .i64 first) ∧ U.cell? ⟨w.heap.size, 1, none⟩ = some (.int .i64 n)
        from ⟨(OPC.out U hU).2.1, (OPC.out U hU).2.2.1, (hO.cell 0).trans rfl, (hO.cell 1).trans rfl, (hO.cell 2).trans rfl, (hO.cell 3).trans rfl, (hO.cell 4).trans rfl, (hR.cell 0).trans rfl, (hR.cell 1).trans rfl⟩)
      have KD5 := Lib.hid (Keeps.drew [] w5)
      have K5D := Lib.hid (K5.out.trans KD5.out)
      have RK5D := Lib.hid (RK5.out.keeps KD5.out (by simp))
      have RV5D := Lib.hid (RV5.out.keeps KD5.out (by simp))
      have WO5D := Lib.hid (WO5.out.keeps KD5.out (by simp))
      have WR5D := Lib.hid (WR5.out.keeps KD5.out (by simp))
      have HF5D := Lib.hid (HF5.out.keeps KD5.out (by simp) (by simp) (by simp) (by simp))
      have HE5D := Lib.hid (HE5.out.keeps KD5.out (by simp))
      clear HE5 K5 RK5 RV5 WO5 WR5 HF5 KD5 HEB HFY WRY RKY RVY WOY KY HMT HFK HFV RKl RVl
      have HCH := Lib.hid (HCHA.out w5.drew HF5D.out RK5D.out RV5D.out)
      go_region_held3 (fun w' => w'.cell? ⟨b, off + j * 5 + 1, none⟩ = some (.slice ka1 kn1 kc1) ∧ w'.cell? ⟨b, off + j * 5 + 2, none⟩ = some (.slice va1 vn1 vc1) ∧ w'.cell? ⟨OB, 0, none⟩ = some (.int .u8 d) ∧ w'.cell? ⟨OB, 1, none⟩ = some (.slice (some ⟨fk, 0, none⟩) kn1 fkc) ∧ w'.cell? ⟨OB, 2, none⟩ = some (.slice (some ⟨fv, 0, none⟩) vn1 fvc) ∧ w'.cell? ⟨OB, 3, none⟩ = some (.int .u8 ar) ∧ w'.cell? ⟨OB, 4, none⟩ = some (.slice ma1 mn1 mc1) ∧ w'.cell? ⟨w.heap.size, 0, none⟩ = some (.int .i64 first) ∧ w'.cell? ⟨w.heap.size, 1, none⟩ = some (.int .i64 n))
        (first
          | exact SS.out _ K5D.out WO5D.out WR5D.out
          | exact SS.out _ K6.out WO6.out WR6.out
          | exact SS.out _ K7.out WO7.out WR7.out)
        (first
          | ((with_reducible refine HCH.out.mono ?_); rintro e w6 ⟨rfl, hf6, k6⟩; have HF6 := Lib.hid hf6; have K6 := Lib.hid (K5D.out.then k6 (S := []) (T := [F, B, W]) (fun x hx => by simp at hx; right; rcases hx with rfl | rfl | rfl <;> omega)); have RK6 := Lib.hid (RK5D.out.keeps k6 (by simp; omega)); have RV6 := Lib.hid (RV5D.out.keeps k6 (by simp; omega)); have WO6 := Lib.hid (WO5D.out.keeps k6 (by simp; omega)); have WR6 := Lib.hid (WR5D.out.keeps k6 (by simp; omega)); have HE6 := Lib.hid (HE5D.out.keeps k6 (fun x hx => .inl (fun hp => by have hp1 := hp.1; simp at hx; rcases hx with rfl | rfl | rfl <;> omega))); have hz6 := k6.size; clear hf6 k6)
          | ((with_reducible refine (HIK.out w6 K6.out RK6.out).mono ?_); rintro e w' ⟨rfl, rfl⟩)
          | ((with_reducible refine (HIV.out w6 K6.out RV6.out).mono ?_); rintro e w' ⟨rfl, rfl⟩)
          | ((with_reducible refine (HWT.out w6 RK6.out RV6.out).mono ?_); rintro e w7 ⟨rfl, k7⟩; have K7 := Lib.hid (K6.out.trans k7); have RK7 := Lib.hid (RK6.out.keeps k7 (by simp)); have RV7 := Lib.hid (RV6.out.keeps k7 (by simp)); have WO7 := Lib.hid (WO6.out.keeps k7 (by simp)); have WR7 := Lib.hid (WR6.out.keeps k7 (by simp)); have HF7 := Lib.hid (HF6.out.keeps k7 (by simp) (by simp) (by simp) (by simp)); have HE7 := Lib.hid (HE6.out.keeps k7 (by simp)); have hz7 := k7.size; clear k7)
          | ((with_reducible refine (HRW.out w7 RK7.out RV7.out).mono ?_); rintro e w' ⟨rfl, rfl⟩))
      have hflt7 := HF7.out.lt
      have l1' := (WO7.out.cell 1).trans (show _ = some (Value.slice (some ⟨fk, 0, none⟩) kn1 fkc) from rfl)
      have hkn47 : kn1 ≤ 140737488351232 := by omega
      clear HF6 RK6 RV6 WO6 WR6 HE6 HIK HIV HWT HRW HCH HCHA SS K5D RK5D RV5D WO5D WR5D HF5D HE5D K6
      obtain ⟨wo, rfl⟩ : ∃ wo : World, wo = wr := ⟨_, rfl⟩
      go_wp2
      clear l1'
      go_loopw [17, 131] (fun _ ix wq => ∃ (q : Nat) (lq : List UInt8), q ≤ kn1 ∧ ix = .int .i64 q ∧ Hid (lq.length = kn1) ∧ Hid (Row wq fk 5 (lq.map bv) fkc) ∧ Hid (Keeps [fk] w7 wq)) (fun _ ix _ => kn1 - (intOf ix).toNat)
      case atStart => exact ⟨0, ky1, by omega, rfl, HKN, RK7, Lib.hid (Keeps.refl _ _)⟩
      case round =>
        obtain ⟨q, lq, hq, rfl, HLQ, HRQ, HKQ⟩ := hrel
        by_cases hqk : q < kn1
        · have hqi : (q : Int) < (kn1 : Int) := by omega
          obtain ⟨c, hc⟩ : ∃ c, lq[q]? = some c := ⟨lq[q]'(by have := HLQ.out; omega), List.getElem?_eq_getElem _⟩
          have c0 := HRQ.out.cell q (v := bv c) (by rw [List.getElem?_map, hc]; rfl)
          have f0 := HRQ.out.frozen q
          have a1 := ((WO7.out.keeps HKQ.out (notMem1' (by omega))).cell 1).trans (show _ = some (Value.slice (some ⟨fk, 0, none⟩) kn1 fkc) from rfl)
          have hbs := Lib.hid (byteUp c)
          have RS := Lib.hid (HRQ.out.set q (bv (c + 1)))
          have HC0 := Lib.hid hc
          have hcl := c.toNat_lt
          unfold bv at c0
          clear hc
          go_wp2
          go_roundw
          case rel =>
            refine ⟨q + 1, lq.set q (c + 1), by omega, by go_num, Lib.hid (by have := HLQ.out; simpa using this), ?_, ?_⟩
            · have e : ((c.toNat : Int) + 1) % 256 = ((c + 1).toNat : Int) := hbs.out
              rw [e, List.map_set]
              exact RS
            · exact Lib.hid (HKQ.out.trans (Keeps.setCell (S := [fk]) _ (by simp) _))
          case measure => simp [intOf]; omega
        · obtain rfl : q = kn1 := by omega
          have K8 := Lib.hid (K7.out.then HKQ.out (T := [fk]) (S := []) (fun x hx => by simp at hx; right; omega))
          have HF8 := Lib.hid (HF7.out.keepsNil HMS'.out HKQ.out (notMem1' (by omega)) (notMem1' (by omega)) (notMem1' (by omega)))
          have WR8 := Lib.hid (WR7.out.keeps HKQ.out (notMem1' (by omega)))
          have HE8 := Lib.hid (HE7.out.keeps HKQ.out (fun x hx => .inl (fun hp => by have hp2 := hp.2.1; simp at hx; exact hp2 hx)))
          have r0 := (WR8.out.cell 0).trans (show _ = some (Value.int .i64 (first : Int)) from rfl)
          have r1 := (WR8.out.cell 1).trans (show _ = some (Value.int .i64 (n : Int)) from rfl)
          clear HF7 WR7 HE7 HRQ HKQ
          go_upto_region 22 with (go_at_call 13; refine (All_base wr HF8.out HC2.out HM'.out.symm).mono ?_; rintro e w9 ⟨ao4, cp4, rfl, hen, hcp4, k9⟩; have EN9 := Lib.hid hen; have HE9 := Lib.hid (HE8.out.keeps k9 (by simp)); have HF9 := Lib.hid (HF8.out.keeps k9 (by simp) (by simp) (by simp) (by simp)); have K9 := Lib.hid (K8.out.trans k9); have WR9 := Lib.hid (WR8.out.keeps k9 (by simp)); clear hen k9 r0 r1)
          have HAX := Lib.hid (AreEntries_any w9 _ _ es' es' (EN9.out.mono (Nat.zero_le _)) HE9.out.at0 (by have := HM'.out; omega) (by have := HM'.out; omega))
          rw [decide_eq_true rfl] at HAX
          go_wp2_with (go_at_call 14; refine HAX.out.mono ?_; rintro e w10 ⟨rfl, k10⟩; have HE10 := Lib.hid ((HE9.out.keeps k10 (by simp)).mono (Q := PArg w.heap.size F B W) (fun g hp _ => hp.1)); have HF10 := Lib.hid (HF9.out.keeps k10 (by simp) (by simp) (by simp) (by simp)); have K10 := Lib.hid (K9.out.trans k10); have WR10 := Lib.hid (WR9.out.keeps k10 (by simp)); clear k10)
          go_roundw
          case rel => exact ⟨j + 1, s', k', i', es', m', ao3, cp3, by omega, by omega, rfl, by go_num, by omega, Lib.hid HM'.out.symm, HF10, HC2, HA2, HMS', HE10, WR10, K10⟩
          case measure => simp [intOf]; omega
    · have HK0 := HKW
      have hex : (n0 ≤ j) ∨ (j < n0 ∧ ¬ j < 40) := by omega
      clear hlt
      have hgx : (j < n0 → (j : Int) < n0) := by omega
      have v0 := (WR.out.cell 0).trans (show _ = some (Value.int .i64 (first : Int)) from rfl)
      have v1 := (WR.out.cell 1).trans (show _ = some (Value.int .i64 (n : Int)) from rfl)
      have RKEY := Lib.hid (HKEY.out.keepsIf HKW.out (fun _ hm => by simp at hm))
      have HGT := Lib.hid (Get_ok wr HF.out HC.out (.slice ka kn kcap) key Mk RKEY.out (by rw [HKNE.out]; exact hkl))
      obtain ⟨vl, hvl⟩ : ∃ vl, (getK key es).getD [] = vl := ⟨_, rfl⟩
      obtain ⟨bb, hbb⟩ : ∃ bb, (getK key es).isSome = bb := ⟨_, rfl⟩
      have HRG := Lib.hid (fun U (hU : Keeps [] wr U) => r6Get_any U (.slice ao2 m2 cp2) (.slice ka kn kcap) es key Mk ((HE.out.keeps hU (by simp)).at0) (by have := HC.out.room.1; have := wtL_length es; omega) (RKEY.out.keepsIf hU (fun _ hm => by simp at hm)))
      rw [hvl, hbb] at HGT HRG
      clear hvl hbb
      rcases hex with hx | ⟨hx, hx'⟩
      · have dd1 : decide ((j : Int) < (n0 : Int)) = false := by simp; omega
        have dd2 : decide (j < n0) = false := by simp; omega
        clear hgx
        go_wp2_with (first
          | (go_at_call 15; refine HGT.out.mono ?_; rintro e w13 ⟨va, vn, vc, rfl, hb1, k13⟩; have HB1 := Lib.hid hb1; have KK13 := Lib.hid k13; clear hb1 k13)
          | (go_at_call 16; refine (HRG.out _ KK13.out).mono ?_; rintro e w14 ⟨va', vn', vc', rfl, hb2, k14⟩; have HB2 := Lib.hid hb2; have HB3 := Lib.hid (HB1.out.keeps k14 (by simp)); have KK14 := Lib.hid (KK13.out.trans k14); obtain ⟨M1, rd1, _⟩ := HB3.out; obtain ⟨M2, rd2, _⟩ := HB2.out; have HIS := Lib.hid (Is_any w14 _ _ vl vl M1 M2 rd1 rd2); rw [beq_self_eq_true] at HIS; clear hb2 k14 rd1 rd2)
          | (go_at_call 10; refine HIS.out.mono ?_; rintro e w' ⟨rfl, rfl⟩)
          | (go_at_call 17; refine (awake6_any _).mono ?_; rintro e w15 ⟨rfl, k15⟩; have K16 := Lib.hid (HK0.out.trans (KK14.out.trans k15)); clear k15))
        go_ret
        exact ⟨rfl, K16.out⟩
      · have hji := hgx hx
        have dd1 : decide ((j : Int) < (40 : Int)) = false := by simp; omega
        have dd2 : decide (j < 40) = false := by simp; omega
        clear hgx
        go_wp2_with (first
          | (go_at_call 15; refine HGT.out.mono ?_; rintro e w13 ⟨va, vn, vc, rfl, hb1, k13⟩; have HB1 := Lib.hid hb1; have KK13 := Lib.hid k13; clear hb1 k13)
          | (go_at_call 16; refine (HRG.out _ KK13.out).mono ?_; rintro e w14 ⟨va', vn', vc', rfl, hb2, k14⟩; have HB2 := Lib.hid hb2; have HB3 := Lib.hid (HB1.out.keeps k14 (by simp)); have KK14 := Lib.hid (KK13.out.trans k14); obtain ⟨M1, rd1, _⟩ := HB3.out; obtain ⟨M2, rd2, _⟩ := HB2.out; have HIS := Lib.hid (Is_any w14 _ _ vl vl M1 M2 rd1 rd2); rw [beq_self_eq_true] at HIS; clear hb2 k14 rd1 rd2)
          | (go_at_call 10; refine HIS.out.mono ?_; rintro e w' ⟨rfl, rfl⟩)
          | (go_at_call 17; refine (awake6_any _).mono ?_; rintro e w15 ⟨rfl, k15⟩; have K16 := Lib.hid (HK0.out.trans (KK14.out.trans k15)); clear k15))
        go_ret
        exact ⟨rfl, K16.out⟩
end Go.Proofs.YtlnmbfddhdjioaaGreat
