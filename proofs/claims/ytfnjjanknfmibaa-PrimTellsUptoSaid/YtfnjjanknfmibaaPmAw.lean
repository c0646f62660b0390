/-
  The primitives: lists of ints compared; the chapter's examples.
-/
import Derived.Test.YtfnjjanknfmibaaPmCheck
import Derived.Test.YtfnjjanknfmibaaPmNamed
import Derived.Test.YtfnjjanknfmibaaPmRows
namespace Go.Proofs.Ytfnjjanknfmibaa
open Go.RowKit Go.Deep
set_option linter.unusedVariables false

/-- The ints that a slice reads as. -/
def IReads (w : World) (v : Value) (l : List Nat) (M : Nat) : Prop :=
  ∃ a cap, v = .slice a l.length cap ∧ l.length ≤ cap ∧ (l ≠ [] → a = some ⟨M, 0, none⟩) ∧ ∀ (i k : Nat), l[i]? = some k → w.cell? ⟨M, i, none⟩ = some (.int .i64 (k : Int))

set_option maxRecDepth 100000 in
theorem Ints.reads {w : World} {base : Nat} {v : Value} {l : List Nat} (h : Ints w base v l) : ∃ M, IReads w v l M ∧ (l ≠ [] → base ≤ M ∧ M < w.heap.size) := by
  obtain ⟨a, cap, rfl, hc, hx⟩ := h.shape
  by_cases hl : l = []
  · subst hl
    exact ⟨0, ⟨a, cap, rfl, hc, fun h => absurd rfl h, fun i k hi => by simp at hi⟩, fun h => absurd rfl h⟩
  · obtain ⟨M, rfl, h1, h2, h3⟩ := hx hl
    exact ⟨M, ⟨_, cap, rfl, hc, fun _ => rfl, h3⟩, fun _ => ⟨h1, h2⟩⟩
set_option maxRecDepth 100000 in
theorem IReads.keeps {S : List Nat} {w w' : World} {v : Value} {l : List Nat} {M : Nat} (h : IReads w v l M) (hk : Keeps S w w') (hM : l ≠ [] → M ∉ S) : IReads w' v l M := by
  obtain ⟨a, cap, hv, hc, ha, hx⟩ := h
  exact ⟨a, cap, hv, hc, ha, fun i k hi => hk.cell (hx i k hi) (hM (by intro e; simp [e] at hi))⟩
set_option maxRecDepth 100000 in
theorem IReads.lit (W : World) (l : List Nat) : IReads (W.alloc (.cells (l.map iv).toArray 3)) (.slice (some ⟨W.heap.size, 0, none⟩) l.length l.length) l W.heap.size :=
  ⟨_, _, rfl, Nat.le_refl _, fun _ => rfl, fun i k hi => by rw [cell_alloc_new, List.getElem?_toArray, List.getElem?_map, hi]; rfl⟩

set_option maxRecDepth 100000 in
set_option maxHeartbeats 1000000 in
theorem ints_any (w : World) (va vb : Value) (a b : List Nat) (Ma Mb : Nat) (ha : IReads w va a Ma) (hb : IReads w vb b Mb) (hl : a.length ≤ 4000000) :
    Calls Try.prog 22 #[va, vb] w fun e w' => e = .returned (.bool (decide (a = b))) ∧ Keeps [] w w' := by
  obtain ⟨aa, ca, rfl, _, haa, hxa⟩ := ha
  obtain ⟨ab, cb, rfl, _, hab, hxb⟩ := hb
  obtain ⟨n, hn⟩ : ∃ n, n = a.length := ⟨_, rfl⟩
  obtain ⟨m, hm⟩ : ∃ m, m = b.length := ⟨_, rfl⟩
  have HN := Lib.hid hn
  have HM := Lib.hid hm
  rw [← hn] at hl ⊢
  rw [← hm]
  have HXA := Lib.hid hxa
  have HXB := Lib.hid hxb
  have HAA := Lib.hid haa
  have HAB := Lib.hid hab
  clear hn hm hxa hxb haa hab
  by_cases hnm : n = m
  · subst hnm
    generalize hq : decide (a = b) = q
    have HQ := Lib.hid hq
    clear hq
    go_enter Try.func22, Try.ntmps22
    go_wp2
    go_loopw [13] (fun x wr => ∃ k : Nat, k ≤ n ∧ x = .int .i64 (k : Int) ∧ (∀ j, j < k → a[j]? = b[j]?) ∧ Keeps [] w wr) (fun x _ => n - (intOf x).toNat)
    case atStart => exact ⟨0, by omega, rfl, fun j hj => by omega, Keeps.refl _ _⟩
    case round =>
      obtain ⟨k, hk, rfl, hall, hkr⟩ := hrel
      have HALL := Lib.hid hall
      have HK := Lib.hid hkr
      by_cases hlt : k < n
      · have hlt' : (k : Int) < (n : Int) := by omega
        obtain ⟨x, hx⟩ : ∃ x, a[k]? = some x := ⟨_, List.getElem?_eq_getElem (by rw [← HN.out]; exact hlt)⟩
        obtain ⟨y, hy⟩ : ∃ y, b[k]? = some y := ⟨_, List.getElem?_eq_getElem (by rw [← HM.out]; exact hlt)⟩
        obtain rfl := HAA.out (by intro e; simp [e] at hx)
        obtain rfl := HAB.out (by intro e; simp [e] at hy)
        have c0 := hkr.cell (HXA.out k x hx) (by simp)
        have c1 := hkr.cell (HXB.out k y hy) (by simp)
        have HX := Lib.hid hx
        have HY := Lib.hid hy
        clear hx hy hall hkr
        by_cases hxy : x = y
        · subst hxy
          have hb : ((x : Int) != (x : Int)) = false := by simp
          go_wp2_with (go_quiet (fail))
          go_roundw
          case rel => exact ⟨k + 1, by omega, by go_num, fun j hj => by
            by_cases he : j = k
            · subst he; rw [HX.out, HY.out]
            · exact HALL.out j (by omega), HK.out.trans (Keeps.drewN _ _ _)⟩
          case measure => simp [intOf]; omega
        · have hb : ((x : Int) != (y : Int)) = true := by simp; omega
          have HE := Lib.hid (show q = false by
            rw [← HQ.out, decide_eq_false_iff_not]
            intro e
            subst e
            have h1 := HX.out; rw [HY.out] at h1; injection h1 with h1; exact hxy h1.symm)
          go_wp2_with (go_quiet (fail))
          go_ret
          exact ⟨by rw [HE.out]; rfl, HK.out.trans (Keeps.drewN _ _ _)⟩
      · obtain rfl : k = n := by omega
        have hlt' : ¬ (k : Int) < (k : Int) := by omega
        have HE := Lib.hid (show q = true by
          rw [← HQ.out, decide_eq_true_eq]
          apply List.ext_getElem?
          intro j
          by_cases hj : j < k
          · exact hall j hj
          · rw [List.getElem?_eq_none (by have := HN.out; omega), List.getElem?_eq_none (by have := HM.out; omega)])
        clear hall hkr
        go_wp2
        go_ret
        exact ⟨by rw [HE.out]; rfl, HK.out⟩
  · have hb : ((n : Int) != (m : Int)) = true := by simp; omega
    have HE := Lib.hid (show decide (a = b) = false by
      rw [decide_eq_false_iff_not]
      intro e; subst e
      exact hnm (by rw [HN.out, HM.out]))
    go_enter Try.func22, Try.ntmps22
    go_wp2
    go_ret
    exact ⟨by rw [HE.out]; rfl, Keeps.refl _ _⟩

set_option maxRecDepth 100000 in
theorem prim_neq_self (W : World) (n t g o : Int) (s : ByteArray) (x j : Bool) : (binOp .neq 27 (.agg #[.int .u32 n, .string s, .int .i64 t, .int .i64 g, .int .i64 o, .bool x, .bool j]) (.agg #[.int .u32 n, .string s, .int .i64 t, .int .i64 g, .int .i64 o, .bool x, .bool j])).run Try.prog W = .ok (.bool false) W := by
  simp only [binOp]
  simp [Op.equal, Op.maxDepth, go_sem]

set_option maxRecDepth 100000 in
theorem UReads.new_at (W : World) (l : List (BitVec 32)) (b : Nat) (hb : W.heap.size = b) : UReads (W.alloc (.cells (l.map uv).toArray 22)) (.slice (some ⟨b, 0, none⟩) l.length l.length) l b 0 := by
  subst hb
  exact .inr ⟨_, _, rfl, Nat.le_refl _, fun _ => rfl, fun i c hi => by rw [Nat.zero_add, cell_alloc_new, List.getElem?_toArray, List.getElem?_map, hi]; rfl⟩

set_option maxRecDepth 100000 in
theorem get_one : getP 1 = some ⟨1, [68, 85, 80], 1, 2, 0, false, false⟩ := rfl
set_option maxRecDepth 100000 in
theorem get_74 : getP 74 = none := by
  have : (getP 74).isNone = true := by kernel_rfl
  simpa using this
set_option maxRecDepth 100000 in
theorem named_dup : namedP [100, 117, 112] = some ⟨1, [68, 85, 80], 1, 2, 0, false, false⟩ := rfl
set_option maxRecDepth 100000 in
theorem starts_ex : startsC [102#32, 7#32, 1#32, 18#32, 101#32] = some [0, 2, 3, 4] := by kernel_rfl
set_option maxRecDepth 100000 in
theorem long_ex : longAt [1#32, 102#32] 1 = 0 := by kernel_rfl

def tL (i : Nat) : List (BitVec 32) × Int := [([103#32, 2#32, 101#32], -1), ([103#32, 1#32, 101#32], 0), ([256#32, 101#32], -1), ([257#32, 101#32], 0), ([], 0), ([1#32], 0)].getD i ([], 0)
set_option maxRecDepth 100000 in
theorem check_ex (i : Nat) (h : i < 6) : checkL [⟨[120], 0, (tL i).1⟩] = (tL i).2 := by
  have h0 : (List.range 6).all (fun i => decide (checkL [⟨[120], 0, (tL i).1⟩] = (tL i).2)) = true := by kernel_rfl
  exact of_decide_eq_true (List.all_eq_true.1 h0 i (List.mem_range.2 h))

abbrev dupC : List Value := [.int .u32 1, .string ⟨#[68, 85, 80]⟩, .int .i64 1, .int .i64 2, .int .i64 0, .bool false, .bool false]

set_option maxRecDepth 100000 in
set_option maxHeartbeats 4000000 in
theorem awake11_any (w : World) : Calls Try.prog 9 #[] w fun e w' => e = .returned (.bool true) ∧ Keeps [] w w' := by
  have HG1 := Lib.hid fun W => (show Calls Try.prog 10 #[.int .u32 1] W fun e w' => e = .returned (.tuple #[.agg dupC.toArray, .bool true]) ∧ Keeps [] W w' from by
    have := Get_any W 1; rw [get_one] at this; exact this)
  have HG2 := Lib.hid fun W => (show Calls Try.prog 10 #[.int .u32 74] W fun e w' => e = .returned (.tuple #[.agg #[.int .u32 0, .string ⟨#[]⟩, .int .i64 0, .int .i64 0, .int .i64 0, .bool false, .bool false], .bool false]) ∧ Keeps [] W w' from by
    have := Get_any W 74; rw [get_74] at this; exact this)
  have HND := Lib.hid fun W => (show Calls Try.prog 12 #[.string ⟨#[100, 117, 112]⟩] W fun e w' => e = .returned (.tuple #[.agg dupC.toArray, .bool true]) ∧ Keeps [] W w' from by
    have := Named_any W [100, 117, 112]; rw [named_dup] at this; exact this)
  go_enter Try.func9, Try.ntmps9
  go_upto_region 2 with (go_at_call 10; refine (HG1.out _).mono ?_; rintro e w1 ⟨rfl, hk1⟩; have K1 := Lib.hid hk1; clear hk1)
  generalize hV : World.alloc w1 _ = V1
  have W1 := Lib.hid (show Whole V1 w1.heap.size 27 dupC by rw [← hV]; exact Whole.new w1 27 dupC)
  have KV1 := Lib.hid (show Keeps [] w V1 by rw [← hV]; exact K1.out.trans (Keeps.alloc [] _ _))
  clear hV
  generalize w1.heap.size = B1 at *
  go_upto_region 3 with (go_at_call 12; refine (HND.out _).mono ?_; rintro e w2 ⟨rfl, hk2⟩; have K2 := Lib.hid hk2; clear hk2)
  generalize hV : World.alloc w2 _ = V2
  have W2 := Lib.hid (show Whole V2 w2.heap.size 27 dupC by rw [← hV]; exact Whole.new w2 27 dupC)
  have KV2 := Lib.hid (show Keeps [] V1 V2 by rw [← hV]; exact K2.out.trans (Keeps.alloc [] _ _))
  clear hV
  generalize w2.heap.size = B2 at *
  go_upto_region 4 with (go_at_call 10; refine (HG2.out _).mono ?_; rintro e w3 ⟨rfl, hk3⟩; have K3 := Lib.hid hk3; clear hk3)
  generalize hV : World.alloc w3 _ = V3
  have KV3 := Lib.hid (show Keeps [] V2 V3 by rw [← hV]; exact K3.out.trans (Keeps.alloc [] _ _))
  clear hV
  generalize w3.heap.size = B3 at *
  have HST := Lib.hid (show Calls Try.prog 18 #[.slice (some ⟨V3.heap.size, 0, none⟩) 5 5] (V3.alloc (.cells #[.int .u32 102, .int .u32 7, .int .u32 1, .int .u32 18, .int .u32 101] 22)) fun e w' => StartsPost (V3.alloc (.cells #[.int .u32 102, .int .u32 7, .int .u32 1, .int .u32 18, .int .u32 101] 22)) [102#32, 7#32, 1#32, 18#32, 101#32] e w' from
    Starts_any _ _ [102#32, 7#32, 1#32, 18#32, 101#32] _ _ (UReads.new_at V3 [102#32, 7#32, 1#32, 18#32, 101#32] _ rfl) (by decide))
  go_upto_region 6 with (go_at_call 18; refine HST.out.mono ?_; rintro e w4 ⟨v4, q4, rfl, hs4, hk4⟩; have HS4 := Lib.hid hs4; have K4 := Lib.hid ((Keeps.alloc [] V3 _).trans hk4); clear hs4 hk4)
  obtain ⟨hi4, hq4⟩ := startsV_ints HS4.out
  rw [show startsD [102#32, 7#32, 1#32, 18#32, 101#32] = [0, 2, 3, 4] by unfold startsD; rw [starts_ex]; rfl] at hi4
  rw [starts_ex] at hq4
  dsimp only [Option.isSome_some] at hq4
  subst hq4
  obtain ⟨M4, hr4, _⟩ := hi4.reads
  have hr4' := hr4
  obtain ⟨a4, c4, rfl, _, ha4, _⟩ := hr4'
  obtain rfl := ha4 (by simp)
  have HR4 := Lib.hid hr4
  have HW1 := Lib.hid (W1.out.keeps ((KV2.out.trans KV3.out).trans K4.out) (by simp))
  have HW2 := Lib.hid (W2.out.keeps (KV3.out.trans K4.out) (by simp))
  have KW4 := Lib.hid (((KV1.out.trans KV2.out).trans KV3.out).trans K4.out)
  clear hi4 hr4 HST HS4 W1 W2 KV1 KV2 KV3 K4 K1 K2 K3
  obtain ⟨c0, c1, c2, c3, c4', c5, c6⟩ := HW1.out.prim
  obtain ⟨d0, d1, d2, d3, d4, d5, d6⟩ := HW2.out.prim
  have hneq := fun W => prim_neq_self W 1 1 2 0 ⟨#[68, 85, 80]⟩ false false
  have HIN := Lib.hid (show Calls Try.prog 22 #[.slice (some ⟨M4, 0, none⟩) 4 c4, .slice (some ⟨w4.heap.size, 0, none⟩) 4 4] (w4.alloc (.cells #[.int .i64 0, .int .i64 2, .int .i64 3, .int .i64 4] 3)) fun e w' => e = .returned (.bool true) ∧ Keeps [] (w4.alloc (.cells #[.int .i64 0, .int .i64 2, .int .i64 3, .int .i64 4] 3)) w' from
    ints_any _ _ _ [0, 2, 3, 4] [0, 2, 3, 4] _ _ (HR4.out.keeps (Keeps.alloc [] _ _) (by simp)) (IReads.lit w4 [0, 2, 3, 4]) (by decide))
  have HLG := Lib.hid fun W => (show Calls Try.prog 14 #[.slice (some ⟨W.heap.size, 0, none⟩) 2 2, .int .i64 1] (World.alloc W (.cells #[.int .u32 1, .int .u32 102] 22)) fun e w' => e = .returned (.int .i64 0) ∧ Keeps [] (World.alloc W (.cells #[.int .u32 1, .int .u32 102] 22)) w' from by
    have := Long_any (W.alloc (.cells #[.int .u32 1, .int .u32 102] 22)) _ [1#32, 102#32] _ _ (UReads.new_at W [1#32, 102#32] _ rfl) (by decide) 1
    rw [long_ex] at this
    exact this)
  go_upto_region 8 with (first
    | (go_at_call 22; refine HIN.out.mono ?_; rintro e w5 ⟨rfl, hk5⟩; have K5 := Lib.hid ((Keeps.alloc [] w4 _).trans hk5); clear hk5)
    | (go_at_call 14; refine (HLG.out _).mono ?_; rintro e w6 ⟨rfl, hk6⟩; have K6 := Lib.hid ((KW4.out.trans K5.out).trans ((Keeps.alloc [] w5 _).trans hk6)); clear hk6))
  have HK6 := Lib.hid K6.out
  clear c0 c1 c2 c3 c4' c5 c6 d0 d1 d2 d3 d4 d5 d6 HG1 HG2 HND HIN HLG
  go_wp2
  generalize hV : World.alloc (World.alloc (World.alloc (World.alloc (World.alloc (World.alloc w6 _) _) _) _) _) _ = V8
  have u0 : UReads V8 (.slice (some ⟨w6.heap.size, 0, none⟩) 3 3) [103#32, 2#32, 101#32] (w6.heap.size) 0 := by
    rw [← hV]; exact UReads.keeps (UReads.new_at _ [103#32, 2#32, 101#32] _ (by simp)) (((((Keeps.alloc [] _ _).trans (Keeps.alloc [] _ _)).trans (Keeps.alloc [] _ _)).trans (Keeps.alloc [] _ _)).trans (Keeps.alloc [] _ _)) (by simp)
  have u1 : UReads V8 (.slice (some ⟨w6.heap.size + 1, 0, none⟩) 3 3) [103#32, 1#32, 101#32] (w6.heap.size + 1) 0 := by
    rw [← hV]; exact UReads.keeps (UReads.new_at _ [103#32, 1#32, 101#32] _ (by simp)) ((((Keeps.alloc [] _ _).trans (Keeps.alloc [] _ _)).trans (Keeps.alloc [] _ _)).trans (Keeps.alloc [] _ _)) (by simp)
  have u2 : UReads V8 (.slice (some ⟨w6.heap.size + 1 + 1, 0, none⟩) 2 2) [256#32, 101#32] (w6.heap.size + 1 + 1) 0 := by
    rw [← hV]; exact UReads.keeps (UReads.new_at _ [256#32, 101#32] _ (by simp)) (((Keeps.alloc [] _ _).trans (Keeps.alloc [] _ _)).trans (Keeps.alloc [] _ _)) (by simp)
  have u3 : UReads V8 (.slice (some ⟨w6.heap.size + 1 + 1 + 1, 0, none⟩) 2 2) [257#32, 101#32] (w6.heap.size + 1 + 1 + 1) 0 := by
    rw [← hV]; exact UReads.keeps (UReads.new_at _ [257#32, 101#32] _ (by simp)) ((Keeps.alloc [] _ _).trans (Keeps.alloc [] _ _)) (by simp)
  have u4 : UReads V8 (.slice (some ⟨w6.heap.size + 1 + 1 + 1 + 1, 0, none⟩) 1 1) [1#32] (w6.heap.size + 1 + 1 + 1 + 1) 0 := by
    rw [← hV]; exact UReads.keeps (UReads.new_at _ [1#32] _ (by simp)) (Keeps.alloc [] _ _) (by simp)
  have hS : ∃ T, Whole V8 (w6.heap.size + 1 + 1 + 1 + 1 + 1) T [.slice (some ⟨w6.heap.size, 0, none⟩) 3 3, .int .i64 (-1), .slice (some ⟨w6.heap.size + 1, 0, none⟩) 3 3, .int .i64 0, .slice (some ⟨w6.heap.size + 1 + 1, 0, none⟩) 2 2, .int .i64 (-1), .slice (some ⟨w6.heap.size + 1 + 1 + 1, 0, none⟩) 2 2, .int .i64 0, .slice none 0 0, .int .i64 0, .slice (some ⟨w6.heap.size + 1 + 1 + 1 + 1, 0, none⟩) 1 1, .int .i64 0] :=
    ⟨_, by rw [← hV]; exact Whole.new_at _ _ _ _ (by simp)⟩
  obtain ⟨T8, hS⟩ := hS
  have K8 := Lib.hid (show Keeps [] w V8 by rw [← hV]; exact HK6.out.trans ((((((Keeps.alloc [] _ _).trans (Keeps.alloc [] _ _)).trans (Keeps.alloc [] _ _)).trans (Keeps.alloc [] _ _)).trans (Keeps.alloc [] _ _)).trans (Keeps.alloc [] _ _)))
  clear hV
  have HI : ∀ i, i < 6 → ∃ a n c M, n = (tL i).1.length ∧ V8.cell? ⟨w6.heap.size + 1 + 1 + 1 + 1 + 1, i * 2, none⟩ = some (.slice a n c) ∧ V8.cell? ⟨w6.heap.size + 1 + 1 + 1 + 1 + 1, i * 2 + 1, none⟩ = some (.int .i64 (tL i).2) ∧ UReads V8 (.slice a n c) (tL i).1 M 0 := fun i hi => by
    match i, hi with
    | 0, _ => exact ⟨_, _, _, _, rfl, hS.cell 0, hS.cell 1, u0⟩
    | 1, _ => exact ⟨_, _, _, _, rfl, hS.cell 2, hS.cell 3, u1⟩
    | 2, _ => exact ⟨_, _, _, _, rfl, hS.cell 4, hS.cell 5, u2⟩
    | 3, _ => exact ⟨_, _, _, _, rfl, hS.cell 6, hS.cell 7, u3⟩
    | 4, _ => exact ⟨_, _, _, 0, rfl, hS.cell 8, hS.cell 9, UReads.nil _ _ _⟩
    | 5, _ => exact ⟨_, _, _, _, rfl, hS.cell 10, hS.cell 11, u4⟩
    | i + 6, h => omega
  have HH := Lib.hid HI
  have hlen : ∀ i, (tL i).1.length ≤ 3 := fun i => by
    match i with
    | 0 => decide
    | 1 => decide
    | 2 => decide
    | 3 => decide
    | 4 => decide
    | 5 => decide
    | i + 6 => simp [tL]
  have HL := Lib.hid hlen
  clear HI hS u0 u1 u2 u3 u4 hlen
  generalize w6.heap.size + 1 + 1 + 1 + 1 + 1 = S8 at *
  go_loopw [87] (fun x wr => ∃ k : Nat, k ≤ 6 ∧ x = .int .i64 (k : Int) ∧ Keeps [] V8 wr) (fun x _ => 6 - (intOf x).toNat)
  case atStart => exact ⟨0, by omega, rfl, Keeps.refl _ _⟩
  case round =>
    obtain ⟨k, hk, rfl, hkr⟩ := hrel
    have HK := Lib.hid hkr
    by_cases hlt : k < 6
    · have hlt' : (k : Int) < 6 := by omega
      obtain ⟨a, n, c, M, hn, h0, h1, hu⟩ := HH.out k hlt
      have h0 := hkr.cell h0 (by simp)
      have h1 := hkr.cell h1 (by simp)
      have HU := Lib.hid (hu.keeps hkr (by simp))
      have HCE := Lib.hid (check_ex k hlt)
      have HLK := Lib.hid (HL.out k)
      have HNN := Lib.hid hn
      clear hkr hu hn
      generalize hz : (tL k).2 = z at *
      generalize hcd : (tL k).1 = cd at *
      clear hz hcd
      go_upto_region 11 with fail
      generalize hV : World.alloc wr _ = Vr
      have WR := Lib.hid (show ∃ T, Whole Vr wr.heap.size T [.slice a n c, .int .i64 z] from ⟨_, by rw [← hV]; exact Whole.new_at _ _ _ _ rfl⟩)
      have KR := Lib.hid (show Keeps [] wr Vr by rw [← hV]; exact Keeps.alloc [] _ _)
      clear hV h0 h1
      generalize wr.heap.size = Br at *
      obtain ⟨TR, hWR⟩ := WR.out
      have hf0 : ∀ W, Keeps [] Vr W → W.cell? ⟨Br, 0, none⟩ = some (.slice a n c) := fun W hk => hk.cell (hWR.cell 0) (by simp)
      have hf1 : ∀ W, Keeps [] Vr W → W.cell? ⟨Br, 1, none⟩ = some (.int .i64 z) := fun W hk => hk.cell (hWR.cell 1) (by simp)
      have hzz : (z != z) = false := by simp
      have HCK := Lib.hid fun (X : World) (hk : Keeps [] Vr X) => (show Calls Try.prog 16 #[.slice (some ⟨X.heap.size, 0, none⟩) 1 1] (X.alloc (.cells #[.string ⟨#[120]⟩, .int .u8 0, .slice a n c] 59)) fun e w' => e = .returned (.int .i64 z) ∧ Keeps [] (X.alloc (.cells #[.string ⟨#[120]⟩, .int .u8 0, .slice a n c] 59)) w' from
        Check_any _ _ [⟨[120], 0, cd⟩] (words_lit [(⟨[120], 0, cd⟩, .slice a n c)] (Whole.new X 59 [.string ⟨#[120]⟩, .int .u8 0, .slice a n c]) rfl (by simp) (by simp) (fun p hp => by
          simp at hp; subst hp
          have hu := HU.out.keeps ((KR.out.trans hk).trans (Keeps.alloc [] X (.cells #[.string ⟨#[120]⟩, .int .u8 0, .slice a n c] 59))) (by simp)
          exact ⟨a, c, M, 0, by rw [HNN.out], hu, fun hne => hu.lt hne, (show [120].length ≤ maxLen by decide), (show cd.length ≤ maxLen by have := HLK.out; unfold maxLen; omega)⟩)) (by simp) z HCE.out)
      have HCD := Lib.hid (show Calls Try.prog 16 #[.slice (some ⟨Vr.heap.size, 0, none⟩) 1 1] (Vr.drew.alloc (.cells #[.string ⟨#[120]⟩, .int .u8 0, .slice a n c] 59)) fun e w' => e = .returned (.int .i64 z) ∧ Keeps [] (Vr.drew.alloc (.cells #[.string ⟨#[120]⟩, .int .u8 0, .slice a n c] 59)) w' from HCK.out Vr.drew (Keeps.drew _ _))
      clear hWR HCK
      go_region_held3 (fun W' => Keeps [] Vr W') (first | assumption | exact Keeps.refl [] _ | exact Keeps.drew [] _ | exact Keeps.trans (by assumption) (Keeps.alloc [] _ _) | exact (Keeps.drew [] _).trans (Keeps.alloc [] _ _) | exact ((Keeps.drew [] _).trans (Keeps.alloc [] _ _)).trans (by assumption) | exact Keeps.trans (by assumption) (by assumption) | exact (Keeps.drew [] _).trans (by assumption)) (first
        | (go_at_call 16; refine HCD.out.mono ?_; rintro e wC ⟨rfl, hkC⟩))
      have HFIN := Lib.hid (show Keeps [] V8 wC from (HK.out.trans KR.out).trans (((Keeps.drew _ _).trans (Keeps.alloc [] _ _)).trans hkC))
      clear hkC hf0 hf1
      go_wp2
      go_roundw
      case rel => first | exact ⟨k + 1, by omega, by go_num, HFIN.out⟩ | ((repeat apply Exists.intro); exact ⟨⟨k + 1, by omega, by go_num, HFIN.out⟩, rfl⟩)
      case measure => simp [intOf]; omega
    · obtain rfl : k = 6 := by omega
      clear hkr
      go_wp2
      go_ret
      exact ⟨rfl, K8.out.trans HK.out⟩
end Go.Proofs.Ytfnjjanknfmibaa
