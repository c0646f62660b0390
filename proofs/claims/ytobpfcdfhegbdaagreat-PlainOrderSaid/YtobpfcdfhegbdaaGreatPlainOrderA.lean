/-
  PlainOrder, walked. Written by draft/genpl12.py.
-/
import Derived.Test.YtobpfcdfhegbdaaGreatPlOrdM
namespace Go.Proofs.YtobpfcdfhegbdaaGreat
open Go.RowKit
set_option linter.unusedVariables false

theorem wpList_append_g {ops : Array Oper} {rest : List Oper} {o : Oper} {a : Act} {w : World} {Q : Exit → Act → World → Prop} (hgd : Region.wanted o (yielded ops a.tmps) = true) (s x : Operand)
    (ho : o.op = .call { callee := .builtin .append, args := #[s, x], argTypes := #[22, 22] }) (base : Nat) (v : Value) (l : List (BitVec 32)) (hs : a.eval s = v) (hown : w.ownsRow base 24 1 v l.length (l.map uv))
    (u : Value) (m : List (BitVec 32)) (M off : Nat) (hx : a.eval x = u) (hr : UReads w u m M off) (hlen : l.length + m.length ≤ 1000000) (hbase : base ≤ w.heap.size)
    (h : ∀ v' w', w'.ownsRow base 24 1 v' (l ++ m).length ((l ++ m).map uv) → Keeps v.ownBlock.toList w w' → (v'.ownBlock = v.ownBlock ∨ ∀ k, v'.ownBlock = some k → w.heap.size ≤ k) → wpList Tryz.prog ops Q rest (a.put o.dst v') w') : wpList Tryz.prog ops Q (o :: rest) a w := by
  obtain ⟨v', w', hrun, h1, h2, h3⟩ := run_append_u w base o.type v l hown u m M off hr hlen hbase
  unfold wpList
  rw [if_pos hgd]
  left
  unfold Oper.wp
  simp [execOp, ho, resolve, invoke, builtin, hs, hx, hrun, Result.andThen]
  exact h v' w' h1 h2 h3
theorem names_get2 (is : List Nat) (j i : Nat) (h : is[j]? = some i) : ((is.map fun i => str (primI i).name).toArray)[j]? = some (str (primI i).name) := by simp [h]
theorem becomes_ord {V : World} (inV outV : Value) (inL outL r : List (BitVec 32)) (ram : List UInt8) (Mi oi Mo oo bn n : Nat) (is : List Nat) (hU : UReads V inV inL Mi oi) (hO : UReads V outV outL Mo oo)
    (hN : ∀ (j i : Nat), is[j]? = some i → V.cell? ⟨bn, j, none⟩ = some (str (primI i).name)) (hb : bn < V.heap.size) (hn : is.length = n) (l1 : inL.length ≤ 20) (l2 : n ≤ 100) (h73 : is.all (fun i => decide (i < 73)) = true)
    (hM : namedM 20 [] is ⟨inL, [], List.replicate 32 0⟩ = (0, ⟨outL, r, ram⟩)) :
    ∀ W, Keeps [] V W → Calls Tryz.prog 16 #[inV, .slice (some ⟨bn, 0, none⟩) n n, outV, .int .i32 0] W fun e w' => e = .returned (.bool true) ∧ Keeps [] W w' := by
  intro W hk
  have ht : inL.take (min inL.length 20) = inL := List.take_of_length_le (by omega)
  exact becomes_ok W inV outV inL outL Mi oi Mo oo bn n n is 0 ⟨outL, r, ram⟩ (hU.keeps hk (by simp)) (hO.keeps hk (by simp)) (by unfold maxLen; omega) hn l2 (fun j i hj => of_decide_eq_true (List.all_eq_true.1 h73 i (List.mem_of_getElem? hj))) (fun j i hj => hk.cell (hN j i hj) (by simp)) (Nat.lt_of_lt_of_le hb hk.size) (by rw [ht]; exact hM) rfl

set_option maxRecDepth 100000 in
set_option maxHeartbeats 8000000 in
theorem PlainOrder_any (w : World) (v : Value) (l : List (BitVec 32)) (M o : Nat) (h : UReads w v l M o) (hl : l.length ≤ maxLen) (a b c d : BitVec 32) : Calls Tryz.prog 4 #[v, .int .u32 (a.toNat : Int), .int .u32 (b.toNat : Int), .int .u32 (c.toNat : Int), .int .u32 (d.toNat : Int)] w fun e w' => e = .returned (.bool true) ∧ Keeps [] w w' := by
  obtain ⟨va, vc, rfl, hvc⟩ := h.shape
  obtain ⟨k, hk⟩ : ∃ k, k = min l.length 10 := ⟨_, rfl⟩
  have hmn := fun w ts t => run_min2 w ts t (l.length : Int) 10 k (by omega)
  have hcut := fun w => run_cutU_h w va l.length vc k (by omega)
  have hhd := h.head k (by omega)
  have hlk : (l.take k).length = k := by simp; omega
  rw [hhd.1, hlk] at hcut
  have HR := Lib.hid hhd.2
  rw [hlk] at HR
  have hk10 : k ≤ 10 := by omega
  obtain ⟨L, hL⟩ : ∃ L, L = l.take k := ⟨_, rfl⟩
  rw [← hL] at HR hlk
  have HLK := Lib.hid hlk
  have hml : maxLen = 9223372036854775807 := rfl
  clear hL hhd h hk hlk
  generalize l.length = ln at *
  obtain ⟨A, hA⟩ : ∃ x : Int, x = (a.toNat : Int) := ⟨_, rfl⟩
  obtain ⟨Bb, hB⟩ : ∃ x : Int, x = (b.toNat : Int) := ⟨_, rfl⟩
  obtain ⟨Cc, hC⟩ : ∃ x : Int, x = (c.toNat : Int) := ⟨_, rfl⟩
  obtain ⟨Dd, hD⟩ : ∃ x : Int, x = (d.toNat : Int) := ⟨_, rfl⟩
  rw [← hA, ← hB, ← hC, ← hD]
  have HX4 := Lib.hid (fun U : World => (show UReads (U.alloc (.cells #[.int .u32 A, .int .u32 Bb, .int .u32 Cc, .int .u32 Dd] 24)) (.slice (some ⟨U.heap.size, 0, none⟩) 4 4) [a, b, c, d] U.heap.size 0 from UReads.lit12 U [a, b, c, d] _ 24 4 (by simp only [List.map_cons, List.map_nil, uv, hA, hB, hC, hD]) rfl))
  have HXDC := Lib.hid (fun U : World => (show UReads (U.alloc (.cells #[.int .u32 Dd, .int .u32 Cc] 24)) (.slice (some ⟨U.heap.size, 0, none⟩) 2 2) [d, c] U.heap.size 0 from UReads.lit12 U [d, c] _ 24 2 (by simp only [List.map_cons, List.map_nil, uv, hC, hD]) rfl))
  have HXCD := Lib.hid (fun U : World => (show UReads (U.alloc (.cells #[.int .u32 Cc, .int .u32 Dd] 24)) (.slice (some ⟨U.heap.size, 0, none⟩) 2 2) [c, d] U.heap.size 0 from UReads.lit12 U [c, d] _ 24 2 (by simp only [List.map_cons, List.map_nil, uv, hC, hD]) rfl))
  clear hA hB hC hD
  have HOE := Lib.hid (fun U : World => (show (U.alloc (.cells #[] 24)).ownsRow U.heap.size 24 1 (.slice (some ⟨U.heap.size, 0, none⟩) 0 0) ([] : List (BitVec 32)).length (([] : List (BitVec 32)).map uv) from Whole.owns (xs := []) (ys := []) (Whole.new U 24 []) (Nat.le_refl _) rfl rfl (by simp)))
  have HRE := Lib.hid (HR.out.keeps (Keeps.alloc [] w (.cells #[] 24)) (by simp))
  have HL1 := Lib.hid (show ([] : List (BitVec 32)).length + L.length ≤ 1000000 by have := HLK.out; simp; omega)
  have HL2 := Lib.hid (show ([] ++ L : List (BitVec 32)).length + [a, b, c, d].length ≤ 1000000 by have := HLK.out; simp; omega)
  have HAL := Lib.hid (fun (U : World) (o : Obj) => (show U.heap.size ≤ (U.alloc o).heap.size by simp))
  go_enter Tryz.func4, Tryz.ntmps4
  go_upto_region 2 with (first
    | (at_builtin; refine wpList_append_u rfl _ _ rfl w.heap.size v5 ([] ++ L) rfl HO6.out (.slice (some ⟨w5.heap.size, 0, none⟩) 4 4) [a, b, c, d] w5.heap.size 0 rfl (HX4.out w5) HL2.out HZ6.out ?_; intro v7 w7 ho7 hk7 hn7; have HO7 := Lib.hid ho7; have HK7 := Lib.hid (show Keeps [] w w7 from HK6.out.then hk7 (fun x hx => .inr (HO6.out.lt x (by simpa using hx)).1)); clear ho7 hk7 hn7)
    | (at_builtin; refine wpList_append_u rfl _ _ rfl w.heap.size (.slice (some ⟨w.heap.size, 0, none⟩) 0 0) [] rfl (HOE.out w) (.slice va k vc) L M o rfl HRE.out HL1.out (HAL.out w _) ?_; intro v5 w5 ho5 hk5 hn5; have HK5 := Lib.hid (show Keeps [] w w5 from (Keeps.alloc [] w (.cells #[] 24)).then hk5 (fun x hx => .inr (by simp [Value.ownBlock] at hx; omega))); have HK6 := Lib.hid (show Keeps [] w (w5.alloc (.cells #[.int .u32 A, .int .u32 Bb, .int .u32 Cc, .int .u32 Dd] 24)) from HK5.out.trans (Keeps.alloc [] _ _)); have HO6 := Lib.hid (World.ownsRow.keeps ho5 (Keeps.alloc [] w5 (.cells #[.int .u32 A, .int .u32 Bb, .int .u32 Cc, .int .u32 Dd] 24)) (by simp)); have HZ6 := Lib.hid HK6.out.size; clear ho5 hk5 hn5))
  obtain ⟨M7, hr7, _⟩ := UReads.owns HO7.out
  have e7 : ([] ++ L ++ [a, b, c, d] : List (BitVec 32)) = L ++ [a, b, c, d] := by simp
  rw [e7] at hr7
  obtain ⟨a7, c7, rfl, _⟩ := hr7.shape
  have HN4 := Lib.hid (show (L ++ [a, b, c, d]).length = k + 4 by rw [List.length_append, HLK.out]; rfl)
  rw [HN4.out] at hr7 ⊢
  have H7 := Lib.hid hr7
  have HL10 := Lib.hid (show L.length ≤ 10 by rw [HLK.out]; exact hk10)
  clear hr7 e7 HO7 HO6 HK6 HK5 HZ6 HL1 HL2 HRE HR hcut hmn
  have ss : ∀ (V : World) (o : Obj), (V.alloc o).heap.size = V.heap.size + 1 := fun V o => by simp
  obtain ⟨V1, hV1⟩ : ∃ V : World, V = w7.alloc (.cells #[.string ⟨#[83, 87, 65, 80]⟩, .string ⟨#[83, 87, 65, 80]⟩] 9) := ⟨_, rfl⟩
  have z1 : V1.heap.size = w7.heap.size + 1 := by rw [hV1, ss]
  obtain ⟨V2, hV2⟩ : ∃ V : World, V = V1.alloc (.cells #[.string ⟨#[82, 79, 84]⟩, .string ⟨#[82, 79, 84]⟩, .string ⟨#[82, 79, 84]⟩] 9) := ⟨_, rfl⟩
  have z2 : V2.heap.size = w7.heap.size + 1 + 1 := by rw [hV2, ss, z1]
  obtain ⟨V3, hV3⟩ : ∃ V : World, V = V2.alloc (.cells #[.string ⟨#[84, 85, 67, 75]⟩, .string ⟨#[82, 79, 84]⟩, .string ⟨#[68, 82, 79, 80]⟩] 9) := ⟨_, rfl⟩
  have z3 : V3.heap.size = w7.heap.size + 1 + 1 + 1 := by rw [hV3, ss, z2]
  obtain ⟨V4, hV4⟩ : ∃ V : World, V = V3.alloc (.cells #[.string ⟨#[79, 86, 69, 82]⟩, .string ⟨#[68, 82, 79, 80]⟩] 9) := ⟨_, rfl⟩
  have z4 : V4.heap.size = w7.heap.size + 1 + 1 + 1 + 1 := by rw [hV4, ss, z3]
  obtain ⟨V5, hV5⟩ : ∃ V : World, V = V4.alloc (.cells #[.string ⟨#[50, 83, 87, 65, 80]⟩, .string ⟨#[50, 83, 87, 65, 80]⟩] 9) := ⟨_, rfl⟩
  have z5 : V5.heap.size = w7.heap.size + 1 + 1 + 1 + 1 + 1 := by rw [hV5, ss, z4]
  obtain ⟨V6, hV6⟩ : ∃ V : World, V = V5.alloc (.cells #[.string ⟨#[62, 82]⟩, .string ⟨#[82, 62]⟩] 9) := ⟨_, rfl⟩
  have z6 : V6.heap.size = w7.heap.size + 1 + 1 + 1 + 1 + 1 + 1 := by rw [hV6, ss, z5]
  obtain ⟨V7, hV7⟩ : ∃ V : World, V = V6.alloc (.cells #[.string ⟨#[62, 82]⟩, .string ⟨#[82, 64]⟩, .string ⟨#[82, 62]⟩, .string ⟨#[68, 82, 79, 80]⟩] 9) := ⟨_, rfl⟩
  have z7 : V7.heap.size = w7.heap.size + 1 + 1 + 1 + 1 + 1 + 1 + 1 := by rw [hV7, ss, z6]
  obtain ⟨V8, hV8⟩ : ∃ V : World, V = V7.alloc (.cells #[.string ⟨#[50, 68, 85, 80]⟩, .string ⟨#[50, 68, 82, 79, 80]⟩] 9) := ⟨_, rfl⟩
  have z8 : V8.heap.size = w7.heap.size + 1 + 1 + 1 + 1 + 1 + 1 + 1 + 1 := by rw [hV8, ss, z7]
  obtain ⟨V9, hV9⟩ : ∃ V : World, V = V8.alloc (.cells #[.string ⟨#[50, 79, 86, 69, 82]⟩, .string ⟨#[50, 68, 82, 79, 80]⟩] 9) := ⟨_, rfl⟩
  have z9 : V9.heap.size = w7.heap.size + 1 + 1 + 1 + 1 + 1 + 1 + 1 + 1 + 1 := by rw [hV9, ss, z8]
  obtain ⟨V10, hV10⟩ : ∃ V : World, V = V9.alloc (.cells #[.string ⟨#[68, 85, 80]⟩, .string ⟨#[78, 73, 80]⟩] 9) := ⟨_, rfl⟩
  have z10 : V10.heap.size = w7.heap.size + 1 + 1 + 1 + 1 + 1 + 1 + 1 + 1 + 1 + 1 := by rw [hV10, ss, z9]
  obtain ⟨V11, hV11⟩ : ∃ V : World, V = V10.alloc (.cells #[.string ⟨#[68, 69, 80, 84, 72]⟩, .string ⟨#[68, 82, 79, 80]⟩] 9) := ⟨_, rfl⟩
  have z11 : V11.heap.size = w7.heap.size + 1 + 1 + 1 + 1 + 1 + 1 + 1 + 1 + 1 + 1 + 1 := by rw [hV11, ss, z10]
  obtain ⟨V12, hV12⟩ : ∃ V : World, V = V11.alloc (.cells #[.string ⟨#[67, 72, 65, 82, 83]⟩] 9) := ⟨_, rfl⟩
  have z12 : V12.heap.size = w7.heap.size + 1 + 1 + 1 + 1 + 1 + 1 + 1 + 1 + 1 + 1 + 1 + 1 := by rw [hV12, ss, z11]
  obtain ⟨V13, hV13⟩ : ∃ V : World, V = V12.alloc (.cells #[.string ⟨#[50, 68, 85, 80]⟩, .string ⟨#[50, 83, 87, 65, 80]⟩, .string ⟨#[50, 68, 82, 79, 80]⟩] 9) := ⟨_, rfl⟩
  have z13 : V13.heap.size = w7.heap.size + 1 + 1 + 1 + 1 + 1 + 1 + 1 + 1 + 1 + 1 + 1 + 1 + 1 := by rw [hV13, ss, z12]
  obtain ⟨V14, hV14⟩ : ∃ V : World, V = V13.alloc (.cells #[.slice (some ⟨w7.heap.size, 0, none⟩) 2 2, .slice (some ⟨w7.heap.size + 1, 0, none⟩) 3 3, .slice (some ⟨w7.heap.size + 1 + 1, 0, none⟩) 3 3, .slice (some ⟨w7.heap.size + 1 + 1 + 1, 0, none⟩) 2 2, .slice (some ⟨w7.heap.size + 1 + 1 + 1 + 1, 0, none⟩) 2 2, .slice (some ⟨w7.heap.size + 1 + 1 + 1 + 1 + 1, 0, none⟩) 2 2, .slice (some ⟨w7.heap.size + 1 + 1 + 1 + 1 + 1 + 1, 0, none⟩) 4 4, .slice (some ⟨w7.heap.size + 1 + 1 + 1 + 1 + 1 + 1 + 1, 0, none⟩) 2 2, .slice (some ⟨w7.heap.size + 1 + 1 + 1 + 1 + 1 + 1 + 1 + 1, 0, none⟩) 2 2, .slice (some ⟨w7.heap.size + 1 + 1 + 1 + 1 + 1 + 1 + 1 + 1 + 1, 0, none⟩) 2 2, .slice (some ⟨w7.heap.size + 1 + 1 + 1 + 1 + 1 + 1 + 1 + 1 + 1 + 1, 0, none⟩) 2 2, .slice (some ⟨w7.heap.size + 1 + 1 + 1 + 1 + 1 + 1 + 1 + 1 + 1 + 1 + 1, 0, none⟩) 1 1, .slice (some ⟨w7.heap.size + 1 + 1 + 1 + 1 + 1 + 1 + 1 + 1 + 1 + 1 + 1 + 1, 0, none⟩) 3 3] 44) := ⟨_, rfl⟩
  have z14 : V14.heap.size = w7.heap.size + 1 + 1 + 1 + 1 + 1 + 1 + 1 + 1 + 1 + 1 + 1 + 1 + 1 + 1 := by rw [hV14, ss, z13]
  have KK14 := Lib.hid (Keeps.refl [] V14)
  have KK13 := Lib.hid (show Keeps [] V13 V14 from Keeps.trans (by rw [hV14]; exact Keeps.alloc [] _ _) KK14.out)
  have KK12 := Lib.hid (show Keeps [] V12 V14 from Keeps.trans (by rw [hV13]; exact Keeps.alloc [] _ _) KK13.out)
  have KK11 := Lib.hid (show Keeps [] V11 V14 from Keeps.trans (by rw [hV12]; exact Keeps.alloc [] _ _) KK12.out)
  have KK10 := Lib.hid (show Keeps [] V10 V14 from Keeps.trans (by rw [hV11]; exact Keeps.alloc [] _ _) KK11.out)
  have KK9 := Lib.hid (show Keeps [] V9 V14 from Keeps.trans (by rw [hV10]; exact Keeps.alloc [] _ _) KK10.out)
  have KK8 := Lib.hid (show Keeps [] V8 V14 from Keeps.trans (by rw [hV9]; exact Keeps.alloc [] _ _) KK9.out)
  have KK7 := Lib.hid (show Keeps [] V7 V14 from Keeps.trans (by rw [hV8]; exact Keeps.alloc [] _ _) KK8.out)
  have KK6 := Lib.hid (show Keeps [] V6 V14 from Keeps.trans (by rw [hV7]; exact Keeps.alloc [] _ _) KK7.out)
  have KK5 := Lib.hid (show Keeps [] V5 V14 from Keeps.trans (by rw [hV6]; exact Keeps.alloc [] _ _) KK6.out)
  have KK4 := Lib.hid (show Keeps [] V4 V14 from Keeps.trans (by rw [hV5]; exact Keeps.alloc [] _ _) KK5.out)
  have KK3 := Lib.hid (show Keeps [] V3 V14 from Keeps.trans (by rw [hV4]; exact Keeps.alloc [] _ _) KK4.out)
  have KK2 := Lib.hid (show Keeps [] V2 V14 from Keeps.trans (by rw [hV3]; exact Keeps.alloc [] _ _) KK3.out)
  have KK1 := Lib.hid (show Keeps [] V1 V14 from Keeps.trans (by rw [hV2]; exact Keeps.alloc [] _ _) KK2.out)
  have KK0 := Lib.hid (show Keeps [] w7 V14 from Keeps.trans (by rw [hV1]; exact Keeps.alloc [] _ _) KK1.out)
  have U0 := Lib.hid (show ∀ (j i : Nat), ([2, 2] : List Nat)[j]? = some i → V14.cell? ⟨w7.heap.size, j, none⟩ = some (str (primI i).name) from by
    intro j i hj
    refine KK1.out.cell (p := ⟨w7.heap.size, j, none⟩) ?_ (by simp)
    rw [hV1, cell_alloc_new, show (#[.string ⟨#[83, 87, 65, 80]⟩, .string ⟨#[83, 87, 65, 80]⟩] : Array Value) = (([2, 2] : List Nat).map fun i => str (primI i).name).toArray from by kernel_rfl]
    exact names_get2 _ j i hj)
  have U1 := Lib.hid (show ∀ (j i : Nat), ([4, 4, 4] : List Nat)[j]? = some i → V14.cell? ⟨w7.heap.size + 1, j, none⟩ = some (str (primI i).name) from by
    intro j i hj
    refine KK2.out.cell (p := ⟨w7.heap.size + 1, j, none⟩) ?_ (by simp)
    rw [hV2, ← z1, cell_alloc_new, show (#[.string ⟨#[82, 79, 84]⟩, .string ⟨#[82, 79, 84]⟩, .string ⟨#[82, 79, 84]⟩] : Array Value) = (([4, 4, 4] : List Nat).map fun i => str (primI i).name).toArray from by kernel_rfl]
    exact names_get2 _ j i hj)
  have U2 := Lib.hid (show ∀ (j i : Nat), ([7, 4, 1] : List Nat)[j]? = some i → V14.cell? ⟨w7.heap.size + 1 + 1, j, none⟩ = some (str (primI i).name) from by
    intro j i hj
    refine KK3.out.cell (p := ⟨w7.heap.size + 1 + 1, j, none⟩) ?_ (by simp)
    rw [hV3, ← z2, cell_alloc_new, show (#[.string ⟨#[84, 85, 67, 75]⟩, .string ⟨#[82, 79, 84]⟩, .string ⟨#[68, 82, 79, 80]⟩] : Array Value) = (([7, 4, 1] : List Nat).map fun i => str (primI i).name).toArray from by kernel_rfl]
    exact names_get2 _ j i hj)
  have U3 := Lib.hid (show ∀ (j i : Nat), ([3, 1] : List Nat)[j]? = some i → V14.cell? ⟨w7.heap.size + 1 + 1 + 1, j, none⟩ = some (str (primI i).name) from by
    intro j i hj
    refine KK4.out.cell (p := ⟨w7.heap.size + 1 + 1 + 1, j, none⟩) ?_ (by simp)
    rw [hV4, ← z3, cell_alloc_new, show (#[.string ⟨#[79, 86, 69, 82]⟩, .string ⟨#[68, 82, 79, 80]⟩] : Array Value) = (([3, 1] : List Nat).map fun i => str (primI i).name).toArray from by kernel_rfl]
    exact names_get2 _ j i hj)
  have U4 := Lib.hid (show ∀ (j i : Nat), ([10, 10] : List Nat)[j]? = some i → V14.cell? ⟨w7.heap.size + 1 + 1 + 1 + 1, j, none⟩ = some (str (primI i).name) from by
    intro j i hj
    refine KK5.out.cell (p := ⟨w7.heap.size + 1 + 1 + 1 + 1, j, none⟩) ?_ (by simp)
    rw [hV5, ← z4, cell_alloc_new, show (#[.string ⟨#[50, 83, 87, 65, 80]⟩, .string ⟨#[50, 83, 87, 65, 80]⟩] : Array Value) = (([10, 10] : List Nat).map fun i => str (primI i).name).toArray from by kernel_rfl]
    exact names_get2 _ j i hj)
  have U5 := Lib.hid (show ∀ (j i : Nat), ([70, 71] : List Nat)[j]? = some i → V14.cell? ⟨w7.heap.size + 1 + 1 + 1 + 1 + 1, j, none⟩ = some (str (primI i).name) from by
    intro j i hj
    refine KK6.out.cell (p := ⟨w7.heap.size + 1 + 1 + 1 + 1 + 1, j, none⟩) ?_ (by simp)
    rw [hV6, ← z5, cell_alloc_new, show (#[.string ⟨#[62, 82]⟩, .string ⟨#[82, 62]⟩] : Array Value) = (([70, 71] : List Nat).map fun i => str (primI i).name).toArray from by kernel_rfl]
    exact names_get2 _ j i hj)
  have U6 := Lib.hid (show ∀ (j i : Nat), ([70, 72, 71, 1] : List Nat)[j]? = some i → V14.cell? ⟨w7.heap.size + 1 + 1 + 1 + 1 + 1 + 1, j, none⟩ = some (str (primI i).name) from by
    intro j i hj
    refine KK7.out.cell (p := ⟨w7.heap.size + 1 + 1 + 1 + 1 + 1 + 1, j, none⟩) ?_ (by simp)
    rw [hV7, ← z6, cell_alloc_new, show (#[.string ⟨#[62, 82]⟩, .string ⟨#[82, 64]⟩, .string ⟨#[82, 62]⟩, .string ⟨#[68, 82, 79, 80]⟩] : Array Value) = (([70, 72, 71, 1] : List Nat).map fun i => str (primI i).name).toArray from by kernel_rfl]
    exact names_get2 _ j i hj)
  have U7 := Lib.hid (show ∀ (j i : Nat), ([8, 9] : List Nat)[j]? = some i → V14.cell? ⟨w7.heap.size + 1 + 1 + 1 + 1 + 1 + 1 + 1, j, none⟩ = some (str (primI i).name) from by
    intro j i hj
    refine KK8.out.cell (p := ⟨w7.heap.size + 1 + 1 + 1 + 1 + 1 + 1 + 1, j, none⟩) ?_ (by simp)
    rw [hV8, ← z7, cell_alloc_new, show (#[.string ⟨#[50, 68, 85, 80]⟩, .string ⟨#[50, 68, 82, 79, 80]⟩] : Array Value) = (([8, 9] : List Nat).map fun i => str (primI i).name).toArray from by kernel_rfl]
    exact names_get2 _ j i hj)
  have U8 := Lib.hid (show ∀ (j i : Nat), ([11, 9] : List Nat)[j]? = some i → V14.cell? ⟨w7.heap.size + 1 + 1 + 1 + 1 + 1 + 1 + 1 + 1, j, none⟩ = some (str (primI i).name) from by
    intro j i hj
    refine KK9.out.cell (p := ⟨w7.heap.size + 1 + 1 + 1 + 1 + 1 + 1 + 1 + 1, j, none⟩) ?_ (by simp)
    rw [hV9, ← z8, cell_alloc_new, show (#[.string ⟨#[50, 79, 86, 69, 82]⟩, .string ⟨#[50, 68, 82, 79, 80]⟩] : Array Value) = (([11, 9] : List Nat).map fun i => str (primI i).name).toArray from by kernel_rfl]
    exact names_get2 _ j i hj)
  have U9 := Lib.hid (show ∀ (j i : Nat), ([0, 6] : List Nat)[j]? = some i → V14.cell? ⟨w7.heap.size + 1 + 1 + 1 + 1 + 1 + 1 + 1 + 1 + 1, j, none⟩ = some (str (primI i).name) from by
    intro j i hj
    refine KK10.out.cell (p := ⟨w7.heap.size + 1 + 1 + 1 + 1 + 1 + 1 + 1 + 1 + 1, j, none⟩) ?_ (by simp)
    rw [hV10, ← z9, cell_alloc_new, show (#[.string ⟨#[68, 85, 80]⟩, .string ⟨#[78, 73, 80]⟩] : Array Value) = (([0, 6] : List Nat).map fun i => str (primI i).name).toArray from by kernel_rfl]
    exact names_get2 _ j i hj)
  have U10 := Lib.hid (show ∀ (j i : Nat), ([12, 1] : List Nat)[j]? = some i → V14.cell? ⟨w7.heap.size + 1 + 1 + 1 + 1 + 1 + 1 + 1 + 1 + 1 + 1, j, none⟩ = some (str (primI i).name) from by
    intro j i hj
    refine KK11.out.cell (p := ⟨w7.heap.size + 1 + 1 + 1 + 1 + 1 + 1 + 1 + 1 + 1 + 1, j, none⟩) ?_ (by simp)
    rw [hV11, ← z10, cell_alloc_new, show (#[.string ⟨#[68, 69, 80, 84, 72]⟩, .string ⟨#[68, 82, 79, 80]⟩] : Array Value) = (([12, 1] : List Nat).map fun i => str (primI i).name).toArray from by kernel_rfl]
    exact names_get2 _ j i hj)
  have U11 := Lib.hid (show ∀ (j i : Nat), ([67] : List Nat)[j]? = some i → V14.cell? ⟨w7.heap.size + 1 + 1 + 1 + 1 + 1 + 1 + 1 + 1 + 1 + 1 + 1, j, none⟩ = some (str (primI i).name) from by
    intro j i hj
    refine KK12.out.cell (p := ⟨w7.heap.size + 1 + 1 + 1 + 1 + 1 + 1 + 1 + 1 + 1 + 1 + 1, j, none⟩) ?_ (by simp)
    rw [hV12, ← z11, cell_alloc_new, show (#[.string ⟨#[67, 72, 65, 82, 83]⟩] : Array Value) = (([67] : List Nat).map fun i => str (primI i).name).toArray from by kernel_rfl]
    exact names_get2 _ j i hj)
  have U12 := Lib.hid (show ∀ (j i : Nat), ([8, 10, 9] : List Nat)[j]? = some i → V14.cell? ⟨w7.heap.size + 1 + 1 + 1 + 1 + 1 + 1 + 1 + 1 + 1 + 1 + 1 + 1, j, none⟩ = some (str (primI i).name) from by
    intro j i hj
    refine KK13.out.cell (p := ⟨w7.heap.size + 1 + 1 + 1 + 1 + 1 + 1 + 1 + 1 + 1 + 1 + 1 + 1, j, none⟩) ?_ (by simp)
    rw [hV13, ← z12, cell_alloc_new, show (#[.string ⟨#[50, 68, 85, 80]⟩, .string ⟨#[50, 83, 87, 65, 80]⟩, .string ⟨#[50, 68, 82, 79, 80]⟩] : Array Value) = (([8, 10, 9] : List Nat).map fun i => str (primI i).name).toArray from by kernel_rfl]
    exact names_get2 _ j i hj)
  have HBIG := Lib.hid (show ∀ i v, (#[.slice (some ⟨w7.heap.size, 0, none⟩) 2 2, .slice (some ⟨w7.heap.size + 1, 0, none⟩) 3 3, .slice (some ⟨w7.heap.size + 1 + 1, 0, none⟩) 3 3, .slice (some ⟨w7.heap.size + 1 + 1 + 1, 0, none⟩) 2 2, .slice (some ⟨w7.heap.size + 1 + 1 + 1 + 1, 0, none⟩) 2 2, .slice (some ⟨w7.heap.size + 1 + 1 + 1 + 1 + 1, 0, none⟩) 2 2, .slice (some ⟨w7.heap.size + 1 + 1 + 1 + 1 + 1 + 1, 0, none⟩) 4 4, .slice (some ⟨w7.heap.size + 1 + 1 + 1 + 1 + 1 + 1 + 1, 0, none⟩) 2 2, .slice (some ⟨w7.heap.size + 1 + 1 + 1 + 1 + 1 + 1 + 1 + 1, 0, none⟩) 2 2, .slice (some ⟨w7.heap.size + 1 + 1 + 1 + 1 + 1 + 1 + 1 + 1 + 1, 0, none⟩) 2 2, .slice (some ⟨w7.heap.size + 1 + 1 + 1 + 1 + 1 + 1 + 1 + 1 + 1 + 1, 0, none⟩) 2 2, .slice (some ⟨w7.heap.size + 1 + 1 + 1 + 1 + 1 + 1 + 1 + 1 + 1 + 1 + 1, 0, none⟩) 1 1, .slice (some ⟨w7.heap.size + 1 + 1 + 1 + 1 + 1 + 1 + 1 + 1 + 1 + 1 + 1 + 1, 0, none⟩) 3 3] : Array Value)[i]? = some v → V14.cell? ⟨w7.heap.size + 1 + 1 + 1 + 1 + 1 + 1 + 1 + 1 + 1 + 1 + 1 + 1 + 1, i, none⟩ = some v from by
    intro i v hv
    rw [hV14, ← z13, cell_alloc_new]
    exact hv)
  have R7 := Lib.hid (H7.out.keeps KK0.out (by simp))
  have HB0 := Lib.hid (becomes_ord _ _ (L ++ [a, b, c, d]) (L ++ [a, b, c, d]) [] (List.replicate 32 0) M7 0 M7 0 (w7.heap.size) 2 [2, 2] R7.out R7.out U0.out (by rw [z14]; omega) rfl (by rw [HN4.out]; omega) (by decide) (by decide) (ord_0 L HL10.out a b c d _))
  have HB1 := Lib.hid (becomes_ord _ _ (L ++ [a, b, c, d]) (L ++ [a, b, c, d]) [] (List.replicate 32 0) M7 0 M7 0 (w7.heap.size + 1) 3 [4, 4, 4] R7.out R7.out U1.out (by rw [z14]; omega) rfl (by rw [HN4.out]; omega) (by decide) (by decide) (ord_1 L HL10.out a b c d _))
  have HB2 := Lib.hid (becomes_ord _ _ (L ++ [a, b, c, d]) (L ++ [a, b, c, d]) [] (List.replicate 32 0) M7 0 M7 0 (w7.heap.size + 1 + 1) 3 [7, 4, 1] R7.out R7.out U2.out (by rw [z14]; omega) rfl (by rw [HN4.out]; omega) (by decide) (by decide) (ord_2 L HL10.out a b c d _))
  have HB3 := Lib.hid (becomes_ord _ _ (L ++ [a, b, c, d]) (L ++ [a, b, c, d]) [] (List.replicate 32 0) M7 0 M7 0 (w7.heap.size + 1 + 1 + 1) 2 [3, 1] R7.out R7.out U3.out (by rw [z14]; omega) rfl (by rw [HN4.out]; omega) (by decide) (by decide) (ord_3 L HL10.out a b c d _))
  have HB4 := Lib.hid (becomes_ord _ _ (L ++ [a, b, c, d]) (L ++ [a, b, c, d]) [] (List.replicate 32 0) M7 0 M7 0 (w7.heap.size + 1 + 1 + 1 + 1) 2 [10, 10] R7.out R7.out U4.out (by rw [z14]; omega) rfl (by rw [HN4.out]; omega) (by decide) (by decide) (ord_4 L HL10.out a b c d _))
  have HB5 := Lib.hid (becomes_ord _ _ (L ++ [a, b, c, d]) (L ++ [a, b, c, d]) [] (List.replicate 32 0) M7 0 M7 0 (w7.heap.size + 1 + 1 + 1 + 1 + 1) 2 [70, 71] R7.out R7.out U5.out (by rw [z14]; omega) rfl (by rw [HN4.out]; omega) (by decide) (by decide) (ord_5 L HL10.out a b c d _))
  have HB6 := Lib.hid (becomes_ord _ _ (L ++ [a, b, c, d]) (L ++ [a, b, c, d]) [] (List.replicate 32 0) M7 0 M7 0 (w7.heap.size + 1 + 1 + 1 + 1 + 1 + 1) 4 [70, 72, 71, 1] R7.out R7.out U6.out (by rw [z14]; omega) rfl (by rw [HN4.out]; omega) (by decide) (by decide) (ord_6 L HL10.out a b c d _))
  have HB7 := Lib.hid (becomes_ord _ _ (L ++ [a, b, c, d]) (L ++ [a, b, c, d]) [] (List.replicate 32 0) M7 0 M7 0 (w7.heap.size + 1 + 1 + 1 + 1 + 1 + 1 + 1) 2 [8, 9] R7.out R7.out U7.out (by rw [z14]; omega) rfl (by rw [HN4.out]; omega) (by decide) (by decide) (ord_7 L HL10.out a b c d _))
  have HB8 := Lib.hid (becomes_ord _ _ (L ++ [a, b, c, d]) (L ++ [a, b, c, d]) [] (List.replicate 32 0) M7 0 M7 0 (w7.heap.size + 1 + 1 + 1 + 1 + 1 + 1 + 1 + 1) 2 [11, 9] R7.out R7.out U8.out (by rw [z14]; omega) rfl (by rw [HN4.out]; omega) (by decide) (by decide) (ord_8 L HL10.out a b c d _))
  have HB9 := Lib.hid (becomes_ord _ _ (L ++ [a, b, c, d]) (L ++ [a, b, c, d]) [] (List.replicate 32 0) M7 0 M7 0 (w7.heap.size + 1 + 1 + 1 + 1 + 1 + 1 + 1 + 1 + 1) 2 [0, 6] R7.out R7.out U9.out (by rw [z14]; omega) rfl (by rw [HN4.out]; omega) (by decide) (by decide) (ord_9 L HL10.out a b c d _))
  have HB10 := Lib.hid (becomes_ord _ _ (L ++ [a, b, c, d]) (L ++ [a, b, c, d]) [] (List.replicate 32 0) M7 0 M7 0 (w7.heap.size + 1 + 1 + 1 + 1 + 1 + 1 + 1 + 1 + 1 + 1) 2 [12, 1] R7.out R7.out U10.out (by rw [z14]; omega) rfl (by rw [HN4.out]; omega) (by decide) (by decide) (ord_10 L HL10.out a b c d _))
  have HB11 := Lib.hid (becomes_ord _ _ (L ++ [a, b, c, d]) (L ++ [a, b, c, d]) [] (List.replicate 32 0) M7 0 M7 0 (w7.heap.size + 1 + 1 + 1 + 1 + 1 + 1 + 1 + 1 + 1 + 1 + 1) 1 [67] R7.out R7.out U11.out (by rw [z14]; omega) rfl (by rw [HN4.out]; omega) (by decide) (by decide) (ord_11 L HL10.out a b c d _))
  have HB12 := Lib.hid (becomes_ord _ _ (L ++ [a, b, c, d]) (L ++ [a, b, c, d]) [] (List.replicate 32 0) M7 0 M7 0 (w7.heap.size + 1 + 1 + 1 + 1 + 1 + 1 + 1 + 1 + 1 + 1 + 1 + 1) 3 [8, 10, 9] R7.out R7.out U12.out (by rw [z14]; omega) rfl (by rw [HN4.out]; omega) (by decide) (by decide) (ord_12 L HL10.out a b c d _))
  have HV := Lib.hid (And.intro hV1 (And.intro hV2 (And.intro hV3 (And.intro hV4 (And.intro hV5 (And.intro hV6 (And.intro hV7 (And.intro hV8 (And.intro hV9 (And.intro hV10 (And.intro hV11 (And.intro hV12 (And.intro hV13 (hV14))))))))))))))
  clear hV1 hV2 hV3 hV4 hV5 hV6 hV7 hV8 hV9 hV10 hV11 hV12 hV13 hV14 z1 z2 z3 z4 z5 z6 z7 z8 z9 z10 z11 z12 z13 z14 U0 U1 U2 U3 U4 U5 U6 U7 U8 U9 U10 U11 U12
  go_wp2
  obtain ⟨hV1, hV2, hV3, hV4, hV5, hV6, hV7, hV8, hV9, hV10, hV11, hV12, hV13, hV14⟩ := HV.out
  rw [← hV1, ← hV2, ← hV3, ← hV4, ← hV5, ← hV6, ← hV7, ← hV8, ← hV9, ← hV10, ← hV11, ← hV12, ← hV13, ← hV14]
  clear HV hV1 hV2 hV3 hV4 hV5 hV6 hV7 hV8 hV9 hV10 hV11 hV12 hV13 hV14
  go_loopw [42] (fun i wr => ∃ j : Nat, j ≤ 13 ∧ i = .int .i64 (j : Int) ∧ Keeps [] V14 wr) (fun i _ => 13 - (intOf i).toNat)
  case atStart => exact ⟨0, by omega, rfl, Keeps.refl _ _⟩
  case round =>
    obtain ⟨j, hj, rfl, hk⟩ := hrel
    have HK := Lib.hid hk
    have hcase : j = 0 ∨ j = 1 ∨ j = 2 ∨ j = 3 ∨ j = 4 ∨ j = 5 ∨ j = 6 ∨ j = 7 ∨ j = 8 ∨ j = 9 ∨ j = 10 ∨ j = 11 ∨ j = 12 ∨ j = 13 := by omega
    rcases hcase with rfl | rfl | rfl | rfl | rfl | rfl | rfl | rfl | rfl | rfl | rfl | rfl | rfl | rfl
    · have c0 := hk.cell (HBIG.out 0 _ rfl) (by simp)
      have HBJ := Lib.hid (HB0.out _ hk)
      clear hk HBIG HB0 HB1 HB2 HB3 HB4 HB5 HB6 HB7 HB8 HB9 HB10 HB11 HB12
      go_wp2_with (go_at_call 16; refine HBJ.out.mono ?_; rintro e w1 ⟨rfl, hk1⟩; have HK1 := Lib.hid hk1; clear hk1)
      go_roundw
      case rel => exact ⟨1, by omega, by go_num, HK.out.trans HK1.out⟩
      case measure => simp [intOf]
    · have c0 := hk.cell (HBIG.out 1 _ rfl) (by simp)
      have HBJ := Lib.hid (HB1.out _ hk)
      clear hk HBIG HB0 HB1 HB2 HB3 HB4 HB5 HB6 HB7 HB8 HB9 HB10 HB11 HB12
      go_wp2_with (go_at_call 16; refine HBJ.out.mono ?_; rintro e w1 ⟨rfl, hk1⟩; have HK1 := Lib.hid hk1; clear hk1)
      go_roundw
      case rel => exact ⟨2, by omega, by go_num, HK.out.trans HK1.out⟩
      case measure => simp [intOf]
    · have c0 := hk.cell (HBIG.out 2 _ rfl) (by simp)
      have HBJ := Lib.hid (HB2.out _ hk)
      clear hk HBIG HB0 HB1 HB2 HB3 HB4 HB5 HB6 HB7 HB8 HB9 HB10 HB11 HB12
      go_wp2_with (go_at_call 16; refine HBJ.out.mono ?_; rintro e w1 ⟨rfl, hk1⟩; have HK1 := Lib.hid hk1; clear hk1)
      go_roundw
      case rel => exact ⟨3, by omega, by go_num, HK.out.trans HK1.out⟩
      case measure => simp [intOf]
    · have c0 := hk.cell (HBIG.out 3 _ rfl) (by simp)
      have HBJ := Lib.hid (HB3.out _ hk)
      clear hk HBIG HB0 HB1 HB2 HB3 HB4 HB5 HB6 HB7 HB8 HB9 HB10 HB11 HB12
      go_wp2_with (go_at_call 16; refine HBJ.out.mono ?_; rintro e w1 ⟨rfl, hk1⟩; have HK1 := Lib.hid hk1; clear hk1)
      go_roundw
      case rel => exact ⟨4, by omega, by go_num, HK.out.trans HK1.out⟩
      case measure => simp [intOf]
    · have c0 := hk.cell (HBIG.out 4 _ rfl) (by simp)
      have HBJ := Lib.hid (HB4.out _ hk)
      clear hk HBIG HB0 HB1 HB2 HB3 HB4 HB5 HB6 HB7 HB8 HB9 HB10 HB11 HB12
      go_wp2_with (go_at_call 16; refine HBJ.out.mono ?_; rintro e w1 ⟨rfl, hk1⟩; have HK1 := Lib.hid hk1; clear hk1)
      go_roundw
      case rel => exact ⟨5, by omega, by go_num, HK.out.trans HK1.out⟩
      case measure => simp [intOf]
    · have c0 := hk.cell (HBIG.out 5 _ rfl) (by simp)
      have HBJ := Lib.hid (HB5.out _ hk)
      clear hk HBIG HB0 HB1 HB2 HB3 HB4 HB5 HB6 HB7 HB8 HB9 HB10 HB11 HB12
      go_wp2_with (go_at_call 16; refine HBJ.out.mono ?_; rintro e w1 ⟨rfl, hk1⟩; have HK1 := Lib.hid hk1; clear hk1)
      go_roundw
      case rel => exact ⟨6, by omega, by go_num, HK.out.trans HK1.out⟩
      case measure => simp [intOf]
    · have c0 := hk.cell (HBIG.out 6 _ rfl) (by simp)
      have HBJ := Lib.hid (HB6.out _ hk)
      clear hk HBIG HB0 HB1 HB2 HB3 HB4 HB5 HB6 HB7 HB8 HB9 HB10 HB11 HB12
      go_wp2_with (go_at_call 16; refine HBJ.out.mono ?_; rintro e w1 ⟨rfl, hk1⟩; have HK1 := Lib.hid hk1; clear hk1)
      go_roundw
      case rel => exact ⟨7, by omega, by go_num, HK.out.trans HK1.out⟩
      case measure => simp [intOf]
    · have c0 := hk.cell (HBIG.out 7 _ rfl) (by simp)
      have HBJ := Lib.hid (HB7.out _ hk)
      clear hk HBIG HB0 HB1 HB2 HB3 HB4 HB5 HB6 HB7 HB8 HB9 HB10 HB11 HB12
      go_wp2_with (go_at_call 16; refine HBJ.out.mono ?_; rintro e w1 ⟨rfl, hk1⟩; have HK1 := Lib.hid hk1; clear hk1)
      go_roundw
      case rel => exact ⟨8, by omega, by go_num, HK.out.trans HK1.out⟩
      case measure => simp [intOf]
    · have c0 := hk.cell (HBIG.out 8 _ rfl) (by simp)
      have HBJ := Lib.hid (HB8.out _ hk)
      clear hk HBIG HB0 HB1 HB2 HB3 HB4 HB5 HB6 HB7 HB8 HB9 HB10 HB11 HB12
      go_wp2_with (go_at_call 16; refine HBJ.out.mono ?_; rintro e w1 ⟨rfl, hk1⟩; have HK1 := Lib.hid hk1; clear hk1)
      go_roundw
      case rel => exact ⟨9, by omega, by go_num, HK.out.trans HK1.out⟩
      case measure => simp [intOf]
    · have c0 := hk.cell (HBIG.out 9 _ rfl) (by simp)
      have HBJ := Lib.hid (HB9.out _ hk)
      clear hk HBIG HB0 HB1 HB2 HB3 HB4 HB5 HB6 HB7 HB8 HB9 HB10 HB11 HB12
      go_wp2_with (go_at_call 16; refine HBJ.out.mono ?_; rintro e w1 ⟨rfl, hk1⟩; have HK1 := Lib.hid hk1; clear hk1)
      go_roundw
      case rel => exact ⟨10, by omega, by go_num, HK.out.trans HK1.out⟩
      case measure => simp [intOf]
    · have c0 := hk.cell (HBIG.out 10 _ rfl) (by simp)
      have HBJ := Lib.hid (HB10.out _ hk)
      clear hk HBIG HB0 HB1 HB2 HB3 HB4 HB5 HB6 HB7 HB8 HB9 HB10 HB11 HB12
      go_wp2_with (go_at_call 16; refine HBJ.out.mono ?_; rintro e w1 ⟨rfl, hk1⟩; have HK1 := Lib.hid hk1; clear hk1)
      go_roundw
      case rel => exact ⟨11, by omega, by go_num, HK.out.trans HK1.out⟩
      case measure => simp [intOf]
    · have c0 := hk.cell (HBIG.out 11 _ rfl) (by simp)
      have HBJ := Lib.hid (HB11.out _ hk)
      clear hk HBIG HB0 HB1 HB2 HB3 HB4 HB5 HB6 HB7 HB8 HB9 HB10 HB11 HB12
      go_wp2_with (go_at_call 16; refine HBJ.out.mono ?_; rintro e w1 ⟨rfl, hk1⟩; have HK1 := Lib.hid hk1; clear hk1)
      go_roundw
      case rel => exact ⟨12, by omega, by go_num, HK.out.trans HK1.out⟩
      case measure => simp [intOf]
    · have c0 := hk.cell (HBIG.out 12 _ rfl) (by simp)
      have HBJ := Lib.hid (HB12.out _ hk)
      clear hk HBIG HB0 HB1 HB2 HB3 HB4 HB5 HB6 HB7 HB8 HB9 HB10 HB11 HB12
      go_wp2_with (go_at_call 16; refine HBJ.out.mono ?_; rintro e w1 ⟨rfl, hk1⟩; have HK1 := Lib.hid hk1; clear hk1)
      go_roundw
      case rel => exact ⟨13, by omega, by go_num, HK.out.trans HK1.out⟩
      case measure => simp [intOf]
    · have R8 := Lib.hid (R7.out.keeps hk (by simp))
      have RN := Lib.hid (fun (U X : World) (hkx : Keeps [] (U.alloc (.cells #[.string ⟨#[50, 68, 85, 80]⟩, .string ⟨#[83, 87, 65, 80]⟩] 9)) X) (j i : Nat) (hj : ([8, 2] : List Nat)[j]? = some i) => (show X.cell? ⟨U.heap.size, j, none⟩ = some (str (primI i).name) from hkx.cell (p := ⟨U.heap.size, j, none⟩) (by rw [cell_alloc_new, show (#[.string ⟨#[50, 68, 85, 80]⟩, .string ⟨#[83, 87, 65, 80]⟩] : Array Value) = (([8, 2] : List Nat).map fun i => str (primI i).name).toArray from by kernel_rfl]; exact names_get2 _ j i hj) (by simp)))
      have RM := Lib.hid (fun (U X : World) (hkx : Keeps [] (U.alloc (.cells #[.string ⟨#[79, 86, 69, 82]⟩, .string ⟨#[79, 86, 69, 82]⟩] 9)) X) (j i : Nat) (hj : ([3, 3] : List Nat)[j]? = some i) => (show X.cell? ⟨U.heap.size, j, none⟩ = some (str (primI i).name) from hkx.cell (p := ⟨U.heap.size, j, none⟩) (by rw [cell_alloc_new, show (#[.string ⟨#[79, 86, 69, 82]⟩, .string ⟨#[79, 86, 69, 82]⟩] : Array Value) = (([3, 3] : List Nat).map fun i => str (primI i).name).toArray from by kernel_rfl]; exact names_get2 _ j i hj) (by simp)))
      have HO1 := Lib.hid (fun (U : World) (x : Obj) => (show ((U.alloc x).alloc (.cells #[] 24)).ownsRow (U.heap.size + 1) 24 1 (.slice (some ⟨U.heap.size + 1, 0, none⟩) 0 0) ([] : List (BitVec 32)).length (([] : List (BitVec 32)).map uv) from by
        have h1 := HOE.out (U.alloc x)
        rw [show (U.alloc x).heap.size = U.heap.size + 1 by simp] at h1
        exact h1))
      have HK2 := Lib.hid (fun (U : World) (x y : Obj) => (Keeps.alloc [] U x).trans (Keeps.alloc [] (U.alloc x) y))
      have HSX := Lib.hid (fun (U : World) (x : Obj) => (show (U.alloc x).heap.size = U.heap.size + 1 by simp))
      have HSY := Lib.hid (fun (U : World) (x y : Obj) => (show U.heap.size + 1 ≤ ((U.alloc x).alloc y).heap.size by simp))
      have HP1 := Lib.hid (show ([] : List (BitVec 32)).length + (L ++ [a, b, c, d]).length ≤ 1000000 by rw [HN4.out]; simp; omega)
      have HP2 := Lib.hid (show ([] ++ (L ++ [a, b, c, d]) : List (BitVec 32)).length + [d, c].length ≤ 1000000 by rw [List.nil_append, HN4.out]; simp; omega)
      have HP3 := Lib.hid (show ([] ++ (L ++ [a, b, c, d]) : List (BitVec 32)).length + [c, d].length ≤ 1000000 by rw [List.nil_append, HN4.out]; simp; omega)
      have HA1 := Lib.hid (R8.out.keeps (HK2.out wr (.cells #[.string ⟨#[50, 68, 85, 80]⟩, .string ⟨#[83, 87, 65, 80]⟩] 9) (.cells #[] 24)) (by simp))
      have HBO := Lib.hid (fun (U V : World) (v5 : Value) (hk5 : Keeps [] wr V) (hn5 : Keeps [] (U.alloc (.cells #[.string ⟨#[50, 68, 85, 80]⟩, .string ⟨#[83, 87, 65, 80]⟩] 9)) V) (ho5 : V.ownsRow (U.heap.size + 1) 24 1 v5 ([] ++ (L ++ [a, b, c, d]) ++ [d, c]).length (([] ++ (L ++ [a, b, c, d]) ++ [d, c]).map uv)) => (show Calls Tryz.prog 16 #[.slice a7 (k + 4) c7, .slice (some ⟨U.heap.size, 0, none⟩) 2 2, v5, .int .i32 0] V fun e w' => e = .returned (.bool true) ∧ Keeps [] V w' from by
        obtain ⟨M5, hr5, _⟩ := UReads.owns ho5
        rw [show ([] ++ (L ++ [a, b, c, d]) ++ [d, c] : List (BitVec 32)) = L ++ [a, b, c, d, d, c] by simp] at hr5
        exact becomes_ord _ _ (L ++ [a, b, c, d]) (L ++ [a, b, c, d, d, c]) [] (List.replicate 32 0) M7 0 M5 0 U.heap.size 2 [8, 2] (R8.out.keeps hk5 (by simp)) hr5 (RN.out U V hn5) (by have := hn5.size; rw [HSX.out] at this; omega) rfl (by rw [HN4.out]; omega) (by decide) (by decide) (ord_13 L HL10.out a b c d _) V (Keeps.refl [] V)))
      have HBP := Lib.hid (fun (U V : World) (v5 : Value) (hk5 : Keeps [] wr V) (hn5 : Keeps [] (U.alloc (.cells #[.string ⟨#[79, 86, 69, 82]⟩, .string ⟨#[79, 86, 69, 82]⟩] 9)) V) (ho5 : V.ownsRow (U.heap.size + 1) 24 1 v5 ([] ++ (L ++ [a, b, c, d]) ++ [c, d]).length (([] ++ (L ++ [a, b, c, d]) ++ [c, d]).map uv)) => (show Calls Tryz.prog 16 #[.slice a7 (k + 4) c7, .slice (some ⟨U.heap.size, 0, none⟩) 2 2, v5, .int .i32 0] V fun e w' => e = .returned (.bool true) ∧ Keeps [] V w' from by
        obtain ⟨M5, hr5, _⟩ := UReads.owns ho5
        rw [show ([] ++ (L ++ [a, b, c, d]) ++ [c, d] : List (BitVec 32)) = L ++ [a, b, c, d, c, d] by simp] at hr5
        exact becomes_ord _ _ (L ++ [a, b, c, d]) (L ++ [a, b, c, d, c, d]) [] (List.replicate 32 0) M7 0 M5 0 U.heap.size 2 [3, 3] (R8.out.keeps hk5 (by simp)) hr5 (RM.out U V hn5) (by have := hn5.size; rw [HSX.out] at this; omega) rfl (by rw [HN4.out]; omega) (by decide) (by decide) (ord_14 L HL10.out a b c d _) V (Keeps.refl [] V)))
      have HLL := Lib.hid (rfl : L ++ [a, b, c, d] = L ++ [a, b, c, d])
      clear hk HBIG HB0 HB1 HB2 HB3 HB4 HB5 HB6 HB7 HB8 HB9 HB10 HB11 HB12
      go_wp2_with (first
        | (go_at_call 14; refine (awake12_any _).mono ?_; rintro e wz ⟨rfl, hkz⟩; have HZ := Lib.hid hkz; clear hkz)
        | (go_at_call 16; refine (HBP.out w6 w10 v10 K10.out N10.out O10.out).mono ?_; rintro e w11 ⟨rfl, hk11⟩; have K11 := Lib.hid (K10.out.trans hk11); clear hk11)
        | (go_at_call 16; refine (HBO.out wr w5 v5 K5.out N5.out O5.out).mono ?_; rintro e w6 ⟨rfl, hk6⟩; have K6 := Lib.hid (K5.out.trans hk6); have HA6 := Lib.hid (R8.out.keeps (K6.out.trans (HK2.out w6 (.cells #[.string ⟨#[79, 86, 69, 82]⟩, .string ⟨#[79, 86, 69, 82]⟩] 9) (.cells #[] 24))) (by simp)); clear hk6)
        | (at_builtin; refine wpList_append_g (by first | rfl | kernel_rfl | simp [Region.wanted, yielded]) _ _ rfl (w6.heap.size + 1) v8 ([] ++ (L ++ [a, b, c, d])) rfl O8.out (.slice (some ⟨w8.heap.size, 0, none⟩) 2 2) [c, d] w8.heap.size 0 rfl (HXCD.out w8) HP3.out Z8.out ?_; intro v10 w10 ho10 hk10' hn10; have O10 := Lib.hid ho10; have K10 := Lib.hid (show Keeps [] wr w10 from (K8.out.trans (Keeps.alloc [] w8 _)).then hk10' (fun x hx => .inr (by have := (O8.out.lt x (by simpa using hx)).1; have := K6.out.size; omega))); have N10 := Lib.hid (show Keeps [] (w6.alloc (.cells #[.string ⟨#[79, 86, 69, 82]⟩, .string ⟨#[79, 86, 69, 82]⟩] 9)) w10 from (N8.out.trans (Keeps.alloc [] w8 _)).then hk10' (fun x hx => .inr (by have := (O8.out.lt x (by simpa using hx)).1; rw [HSX.out]; omega))); clear ho10 hk10' hn10)
        | (at_builtin; refine wpList_append_g (by first | rfl | kernel_rfl | simp [Region.wanted, yielded]) _ _ rfl (w6.heap.size + 1) (.slice (some ⟨w6.heap.size + 1, 0, none⟩) 0 0) [] rfl (HO1.out w6 _) (.slice a7 (k + 4) c7) (L ++ [a, b, c, d]) M7 0 rfl HA6.out HP1.out (HSY.out w6 _ _) ?_; intro v8 w8 ho8 hk8 hn8; have K8 := Lib.hid (show Keeps [] wr w8 from (K6.out.trans (HK2.out w6 (.cells #[.string ⟨#[79, 86, 69, 82]⟩, .string ⟨#[79, 86, 69, 82]⟩] 9) (.cells #[] 24))).then hk8 (fun x hx => .inr (by simp [Value.ownBlock] at hx; have := K6.out.size; omega))); have N8 := Lib.hid (show Keeps [] (w6.alloc (.cells #[.string ⟨#[79, 86, 69, 82]⟩, .string ⟨#[79, 86, 69, 82]⟩] 9)) w8 from (Keeps.alloc [] _ (.cells #[] 24)).then hk8 (fun x hx => .inr (by simp [Value.ownBlock] at hx; rw [HSX.out]; omega))); have O8 := Lib.hid (World.ownsRow.keeps ho8 (Keeps.alloc [] w8 (.cells #[.int .u32 Cc, .int .u32 Dd] 24)) (by simp)); have Z8 := Lib.hid (show w6.heap.size + 1 ≤ (w8.alloc (.cells #[.int .u32 Cc, .int .u32 Dd] 24)).heap.size by have h1 := N8.out.size; rw [HSX.out] at h1; rw [HSX.out]; omega); clear ho8 hk8 hn8)
        | (at_builtin; refine wpList_append_u rfl _ _ rfl (wr.heap.size + 1) v3 ([] ++ (L ++ [a, b, c, d])) rfl O3.out (.slice (some ⟨w3.heap.size, 0, none⟩) 2 2) [d, c] w3.heap.size 0 rfl (HXDC.out w3) HP2.out Z3.out ?_; intro v5 w5 ho5 hk5 hn5; have O5 := Lib.hid ho5; have K5 := Lib.hid (show Keeps [] wr w5 from (K3.out.trans (Keeps.alloc [] w3 _)).then hk5 (fun x hx => .inr (by have := (O3.out.lt x (by simpa using hx)).1; omega))); have N5 := Lib.hid (show Keeps [] (wr.alloc (.cells #[.string ⟨#[50, 68, 85, 80]⟩, .string ⟨#[83, 87, 65, 80]⟩] 9)) w5 from (N3.out.trans (Keeps.alloc [] w3 _)).then hk5 (fun x hx => .inr (by have := (O3.out.lt x (by simpa using hx)).1; rw [HSX.out]; omega))); clear ho5 hk5 hn5)
        | (at_builtin; refine wpList_append_u rfl _ _ rfl (wr.heap.size + 1) (.slice (some ⟨wr.heap.size + 1, 0, none⟩) 0 0) [] rfl (HO1.out wr _) (.slice a7 (k + 4) c7) (L ++ [a, b, c, d]) M7 0 rfl HA1.out HP1.out (HSY.out wr _ _) ?_; intro v3 w3 ho3 hk3 hn3; have K3 := Lib.hid (show Keeps [] wr w3 from (HK2.out wr (.cells #[.string ⟨#[50, 68, 85, 80]⟩, .string ⟨#[83, 87, 65, 80]⟩] 9) (.cells #[] 24)).then hk3 (fun x hx => .inr (by simp [Value.ownBlock] at hx; omega))); have N3 := Lib.hid (show Keeps [] (wr.alloc (.cells #[.string ⟨#[50, 68, 85, 80]⟩, .string ⟨#[83, 87, 65, 80]⟩] 9)) w3 from (Keeps.alloc [] _ (.cells #[] 24)).then hk3 (fun x hx => .inr (by simp [Value.ownBlock] at hx; rw [HSX.out]; omega))); have O3 := Lib.hid (World.ownsRow.keeps ho3 (Keeps.alloc [] w3 (.cells #[.int .u32 Dd, .int .u32 Cc] 24)) (by simp)); have Z3 := Lib.hid (show wr.heap.size + 1 ≤ (w3.alloc (.cells #[.int .u32 Dd, .int .u32 Cc] 24)).heap.size by have h1 := N3.out.size; rw [HSX.out] at h1; rw [HSX.out]; omega); clear ho3 hk3 hn3))
      go_ret
      exact ⟨rfl, (((HK7.out.trans KK0.out).trans HK.out).trans K11.out).trans HZ.out⟩
end Go.Proofs.YtobpfcdfhegbdaaGreat
