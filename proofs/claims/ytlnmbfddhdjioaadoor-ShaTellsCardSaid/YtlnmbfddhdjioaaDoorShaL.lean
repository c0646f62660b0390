/-
  Contracts of sha: noBytes, New, made, Write, Len, Sum, Of.
-/
import Derived.Test.YtlnmbfddhdjioaaDoorShaK
namespace Go.Proofs.YtlnmbfddhdjioaaDoor
open Go.RowKit

/-- A text of no bytes. -/
def empty : List Value := tcells h0 (List.replicate 64 0) 0

theorem empty_length : empty.length = 73 := tcells_length _ _ _ (by simp)

theorem built_text (f : Nat → BitVec 32) : Tryd.prog.built 48 [(0, .agg (tab 8 f).toArray)] = some (tab 8 f ++ ((List.replicate 64 (0 : UInt8)).map bv ++ [Value.int .i64 (((0 : Nat) : Int))])).toArray := by kernel_rfl

theorem built_empty : Tryd.prog.built 48 [(0, .agg (tab 8 h0.get).toArray)] = some empty.toArray := built_text h0.get

theorem built_hash : Tryd.prog.built 51 [(1, .agg empty.toArray)] = some (Value.pointer none :: empty).toArray := by kernel_rfl

theorem wpList_build_j {P : Program} {ops : Array Oper} {rest : List Oper} {o : Oper} {a : Act} {w : World} {Q : Exit → Act → World → Prop} (hg : o.guard = none) (t : TypeId) (j : Nat) (x : Operand) (ho : o.op = .build t #[(j, x)])
    (v : Value) (hx : a.eval x = v) (cs : Array Value) (hc : P.built t [(j, v)] = some cs) (h : wpList P ops Q rest (a.put o.dst (.agg cs)) w) : wpList P ops Q (o :: rest) a w :=
  wpList_build_at hg t _ ho cs (by simp only [List.map_toArray, List.map_cons, List.map_nil, hx]; exact hc) h

theorem run_eql_nil_hash (w : World) (a : Addr) : (binOp .eql 29 (.pointer none) (.pointer (some a))).run Tryd.prog w = .ok (.bool false) w := by
  have h : ∀ d : Nat, (Op.equalIn (d + 1) 29 (.pointer none) (.pointer (some a))).run Tryd.prog w = .ok false w := fun d => by
    simp [Op.equalIn, run_underlying Tryd.underlying29]
  simp only [binOp]
  simp [Op.equal, Op.maxDepth, h 9999]

/-- The zero text's cells. -/
def zeroT : List Value := tab 8 (fun _ => 0#32) ++ ((List.replicate 64 (0 : UInt8)).map bv ++ [Value.int .i64 0])

theorem zeroT_length : zeroT.length = 73 := by simp [zeroT, tab_length]

theorem zeroText (w : World) : (zeroValue 48).run Tryd.prog w = .ok (.agg zeroT.toArray) w := by kernel_rfl

theorem infoHash : ∃ j, Tryd.prog.info? 51 = some j := ⟨_, rfl⟩

theorem empty_one : empty.toArray.all (·.oneCell') = true := by
  rw [List.all_toArray, List.all_eq_true]
  intro u hu
  exact txt_one [] (by simp) h0 (List.replicate 64 0) 0 u (by simpa [empty] using hu)

set_option maxRecDepth 100000 in
set_option maxHeartbeats 1000000 in
theorem noBytes_any (w : World) (hR : Roots w) :
    Calls Tryd.prog 20 #[] w fun e w' => e = .returned (.agg empty.toArray) ∧ Keeps [] w w' := by
  have HR := Lib.hid hR
  clear hR
  have hzt := zeroText
  go_enter Tryd.func20, Tryd.ntmps20
  go_upto_region 1 with (fail)
  generalize hV : World.alloc w _ = V
  have w0 : Whole V w.heap.size 48 zeroT := by
    rw [← hV]; exact Whole.new w 48 zeroT
  have kV : Keeps [] w V := by rw [← hV]; exact Keeps.alloc [] _ _
  have W0 := Lib.hid w0
  have KV := Lib.hid kV
  have RV := Lib.hid (HR.out.keeps kV (by simp) (by simp))
  clear hV w0 kV
  go_wp2_with (first | (refine wpList_load_mid rfl 45 _ rfl 0 0 rfl (tab 8 h0.get) _ RV.out.sq Tryd.underlying45 rfl (by rw [szArr8]; simp [tab_length]) ?_) | (refine wpList_build_one rfl 48 _ rfl (.agg (tab 8 h0.get).toArray) rfl empty.toArray built_empty ?_) | (refine wpList_store_row rfl 48 _ _ rfl w.heap.size empty.toArray rfl rfl 48 zeroT.toArray W0.out (by rw [szText]; simp [empty_length]) (by simp [empty_length, zeroT_length]) empty_one ?_))
  exact bodyPost_ret (results_cell_row Tryd.results20 _ _ w.heap.size 48 empty.toArray (0, 0) _ rfl (W0.out.setRow _) Tryd.underlying48 rfl (by rw [szText]; simp [empty_length])) rfl ⟨rfl, KV.out.then (Keeps.setRow (S := [w.heap.size]) _ (by simp) _) (fun x hx => .inr (by simp at hx; omega))⟩

/-- A hash of a text, where New has put it. -/
def HashAt (w : World) (b : Nat) (l : List UInt8) : Prop := Txt w b 51 [.pointer (some ⟨b, 0, none⟩)] l

theorem HashAt.keeps {S : List Nat} {w w' : World} {b : Nat} {l : List UInt8} (h : HashAt w b l) (hk : Keeps S w w') (hb : b ∉ S) : HashAt w' b l := Txt.keeps h hk hb

theorem HashAt.self {w : World} {b : Nat} {l : List UInt8} (h : HashAt w b l) : w.cell? ⟨b, 0, none⟩ = some (.pointer (some ⟨b, 0, none⟩)) := by
  obtain ⟨xs, hx, hw⟩ := h
  rw [hw.cell]; rfl

theorem HashAt.len {w : World} {b : Nat} {l : List UInt8} (h : HashAt w b l) : w.cell? ⟨b, 73, none⟩ = some (.int .i64 l.length) := by
  obtain ⟨xs, hx, hw⟩ := h
  exact wholeLen hw hx.1 1 rfl

theorem HashAt.lt {w : World} {b : Nat} {l : List UInt8} (h : HashAt w b l) : b < w.heap.size := by
  obtain ⟨xs, hx, hw⟩ := h
  exact hw.lt

set_option maxRecDepth 100000 in
set_option maxHeartbeats 1000000 in
theorem New_any (w : World) (hR : Roots w) :
    Calls Tryd.prog 8 #[] w fun e w' => ∃ b, e = .returned (.pointer (some ⟨b, 0, none⟩)) ∧ w.heap.size ≤ b ∧ HashAt w' b [] ∧ Keeps [] w w' := by
  have HR := Lib.hid hR
  clear hR
  go_enter Tryd.func8, Tryd.ntmps8
  go_upto_region 2 with (first | (go_at_call 20; refine (noBytes_any _ HR.out).mono ?_; rintro e w1 ⟨rfl, k1⟩; have K1 := Lib.hid k1; clear k1) | (refine wpList_build_j rfl 51 1 _ rfl (.agg empty.toArray) rfl (Value.pointer none :: empty).toArray built_hash ?_))
  generalize hV : World.alloc w1 _ = V
  have w0 : Whole V w1.heap.size 51 (.pointer none :: empty) := by rw [← hV]; exact Whole.new w1 51 (.pointer none :: empty)
  have kV : Keeps [] w1 V := by rw [← hV]; exact Keeps.alloc [] _ _
  have c0 : V.cell? ⟨w1.heap.size, 0, none⟩ = some (.pointer none) := (w0.cell 0).trans rfl
  have f0 := w0.frozen 0
  have hs := w0.set 0 (.pointer (some ⟨w1.heap.size, 0, none⟩))
  rw [List.set_cons_zero] at hs
  have HS := Lib.hid (show HashAt (V.setCell ⟨w1.heap.size, 0, none⟩ (.pointer (some ⟨w1.heap.size, 0, none⟩))) w1.heap.size [] from ⟨List.replicate 64 0, Heads.nil _ (by simp), hs⟩)
  have hle := K1.out.size
  have KS := Lib.hid ((K1.out.trans kV).then (Keeps.setCell (S := [w1.heap.size]) V (p := ⟨w1.heap.size, 0, none⟩) (by simp) (.pointer (some ⟨w1.heap.size, 0, none⟩))) (fun x hx => .inr (by simp at hx; omega)))
  clear hV w0 kV hs
  go_wp2
  go_ret
  exact ⟨_, rfl, hle, HS.out, KS.out⟩

set_option maxHeartbeats 400000 in
theorem made_any (w : World) (b : Nat) (hc : w.cell? ⟨b, 0, none⟩ = some (.pointer (some ⟨b, 0, none⟩))) :
    Calls Tryd.prog 21 #[.pointer (some ⟨b, 0, none⟩)] w fun e w' => e = .returned (.bool true) ∧ w = w' := by
  obtain ⟨j, hj⟩ := infoHash
  have he := fun w => run_eql_ptr_same (P := Tryd.prog) w (tp := 29) (te := 51) ⟨b, 0, none⟩ Tryd.underlying29 hj
  go_enter Tryd.func21, Tryd.ntmps21
  go_wp2
  go_ret
  exact ⟨rfl, rfl⟩

set_option maxHeartbeats 400000 in
theorem made_not (w : World) (b : Nat) (hc : w.cell? ⟨b, 0, none⟩ = some (.pointer none)) :
    Calls Tryd.prog 21 #[.pointer (some ⟨b, 0, none⟩)] w fun e w' => e = .returned (.bool false) ∧ w = w' := by
  have he := run_eql_nil_hash
  go_enter Tryd.func21, Tryd.ntmps21
  go_wp2
  go_ret
  exact ⟨rfl, rfl⟩

set_option maxHeartbeats 400000 in
theorem made_nil (w : World) :
    Calls Tryd.prog 21 #[.pointer none] w fun e w' => e = .returned (.bool false) ∧ w = w' := by
  go_enter Tryd.func21, Tryd.ntmps21
  go_wp2
  go_ret
  exact ⟨rfl, rfl⟩

set_option maxHeartbeats 400000 in
theorem Write_any (w : World) (b M : Nat) (l bs : List UInt8) (v : Value) (h : HashAt w b l) (hr : Reads w v bs M) (hM : M ≠ b) (hR : Roots w) (hb0 : 0 ≠ b) (hb1 : 1 ≠ b) (hn : l.length + bs.length ≤ 1000000000) :
    Calls Tryd.prog 9 #[.pointer (some ⟨b, 0, none⟩), v] w fun e w' => e = .returned (.int .i64 0) ∧ HashAt w' b (l ++ bs) ∧ Keeps [b] w w' := by
  have hs := h.self
  have HA := Lib.hid (add_any w b 1 M 51 [.pointer (some ⟨b, 0, none⟩)] l bs v h rfl hr hM hR hb0 hb1 hn)
  clear h hr hR
  go_enter Tryd.func9, Tryd.ntmps9
  go_wp2_with (first | (go_at_call 21; refine (made_any _ b hs).mono ?_; rintro e w' ⟨rfl, rfl⟩) | (go_at_call 22; refine HA.out.mono ?_; rintro e w1 ⟨⟨u, rfl⟩, t1, k1⟩; have T1 := Lib.hid t1; have K1 := Lib.hid k1; clear t1 k1))
  go_ret
  exact ⟨rfl, T1.out, K1.out⟩

set_option maxHeartbeats 400000 in
theorem Len_any (w : World) (b : Nat) (l : List UInt8) (h : HashAt w b l) :
    Calls Tryd.prog 10 #[.pointer (some ⟨b, 0, none⟩)] w fun e w' => e = .returned (.int .i64 l.length) ∧ w = w' := by
  have hs := h.self
  have hl := h.len
  clear h
  generalize l.length = n at *
  go_enter Tryd.func10, Tryd.ntmps10
  go_wp2_with (go_at_call 21; refine (made_any _ b hs).mono ?_; rintro e w' ⟨rfl, rfl⟩)
  go_ret
  exact ⟨rfl, rfl⟩

set_option maxRecDepth 100000 in
set_option maxHeartbeats 1000000 in
theorem Sum_any (w : World) (b : Nat) (l : List UInt8) (h : HashAt w b l) (hR : Roots w) (hn : l.length ≤ 100000000) :
    Calls Tryd.prog 11 #[.pointer (some ⟨b, 0, none⟩)] w fun e w' => e = .returned (.agg ((sumOf kk h0 l).map bv).toArray) ∧ Keeps [] w w' := by
  have H := Lib.hid h
  have HR := Lib.hid hR
  clear h hR
  go_enter Tryd.func11, Tryd.ntmps11
  go_upto_region 1 with (fail)
  generalize hV : World.alloc w _ = V
  have w1 : Whole V w.heap.size 27 ((List.replicate 32 (0 : UInt8)).map bv) := by
    rw [← hV]; exact Whole.new w 27 ((List.replicate 32 (0 : UInt8)).map bv)
  have kV : Keeps [] w V := by rw [← hV]; exact Keeps.alloc [] _ _
  have hV2 := H.out.keeps kV (by simp)
  have hs := hV2.self
  obtain ⟨xs, hx, hw⟩ := hV2
  have hw' : Whole V b 51 ([.pointer (some ⟨b, 0, none⟩)] ++ (tcells (stOf kk h0 l) xs l.length ++ [])) := by rw [List.append_nil]; exact hw
  have LD := Lib.hid (hw'.range 1 rfl)
  have HX := Lib.hid hx
  have W1 := Lib.hid w1
  have KV := Lib.hid kV
  have RV := Lib.hid (HR.out.keeps kV (by simp) (by simp))
  clear hV w1 kV hx hw hw'
  go_wp2_with (first | (go_at_call 21; refine (made_any _ b hs).mono ?_; rintro e w' ⟨rfl, rfl⟩) | (refine wpList_load_mid rfl 48 _ rfl b 1 rfl (tcells (stOf kk h0 l) xs l.length) _ LD.out Tryd.underlying48 rfl (by rw [szText, tcells_length _ _ _ HX.out.1]) ?_) | (go_at_call 23; refine (sum_any _ l xs HX.out RV.out hn).mono ?_; rintro e w2 ⟨rfl, k2⟩; have K2 := Lib.hid k2; have W2 := Lib.hid (W1.out.keeps k2 (by simp)); clear k2) | (refine wpList_store_row rfl 27 _ _ rfl w.heap.size ((sumOf kk h0 l).map bv).toArray rfl rfl 27 ((List.replicate 32 (0 : UInt8)).map bv).toArray W2.out (by rw [szBytes32]; simp [sumOf_length]) (by simp [sumOf_length]) (bytes_one _) ?_))
  exact bodyPost_ret (results_cell_row Tryd.results11 _ _ w.heap.size 27 ((sumOf kk h0 l).map bv).toArray (0, 0) _ rfl (W2.out.setRow _) Tryd.underlying27 rfl (by rw [szBytes32]; simp [sumOf_length])) rfl ⟨rfl, (KV.out.trans K2.out).then (Keeps.setRow (S := [w.heap.size]) _ (by simp) _) (fun x hx => .inr (by simp at hx; omega))⟩

set_option maxRecDepth 100000 in
set_option maxHeartbeats 1000000 in
theorem Of_any (w : World) (v : Value) (l : List UInt8) (M : Nat) (hr : Reads w v l M) (hMw : M < w.heap.size) (hR : Roots w) (hn : l.length ≤ 100000000) :
    Calls Tryd.prog 12 #[v] w fun e w' => e = .returned (.agg ((sumOf kk h0 l).map bv).toArray) ∧ Keeps [] w w' := by
  have HRD := Lib.hid hr
  have HR := Lib.hid hR
  have hlt := hR.lt
  clear hr hR
  have hzt := zeroText
  go_enter Tryd.func12, Tryd.ntmps12
  go_upto_region 1 with (fail)
  generalize hV : World.alloc w _ = V
  have w1 : Whole V w.heap.size 27 ((List.replicate 32 (0 : UInt8)).map bv) := by
    rw [← hV]; exact Whole.new w 27 ((List.replicate 32 (0 : UInt8)).map bv)
  have kV : Keeps [] w V := by rw [← hV]; exact Keeps.alloc [] _ _
  have sV := w1.lt
  have W1 := Lib.hid w1
  have KV := Lib.hid kV
  have RV := Lib.hid (HR.out.keeps kV (by simp) (by simp))
  clear hV w1 kV
  go_upto_region 2 with (first | (go_at_call 20; refine (noBytes_any _ RV.out).mono ?_; rintro e w2 ⟨rfl, k2⟩; have K2 := Lib.hid k2; clear k2) | (refine wpList_store_row rfl 48 _ _ rfl w2.heap.size empty.toArray rfl rfl 48 zeroT.toArray (Whole.new w2 48 zeroT) (by rw [szText]; simp [empty_length]) (by simp [empty_length, zeroT_length]) empty_one ?_))
  generalize hU : World.setRow _ _ _ = U
  have u0 : Txt U w2.heap.size 48 [] [] := by
    rw [← hU]
    exact ⟨List.replicate 64 0, Heads.nil _ (by simp), (Whole.new w2 48 zeroT).setRow _⟩
  have kU : Keeps [] w2 U := by
    rw [← hU]; exact (Keeps.alloc [] _ _).then (Keeps.setRow (S := [w2.heap.size]) _ (by simp) _) (fun x hx => .inr (by simp at hx; omega))
  have sz2 := K2.out.size
  have KU := Lib.hid ((KV.out.trans K2.out).trans kU)
  have WU := Lib.hid ((W1.out.keeps K2.out (by simp)).keeps kU (by simp))
  have HA := Lib.hid (add_any U w2.heap.size 0 M 48 [] [] l v u0 rfl (HRD.out.keeps KU.out (by simp)) (by omega) (HR.out.keeps KU.out (by simp) (by simp)) (by omega) (by omega) (by simp; omega))
  have RU := Lib.hid (HR.out.keeps KU.out (by simp) (by simp))
  clear hU u0 kU K2
  generalize w2.heap.size = b2 at *
  go_upto_region 3 with (go_at_call 22; refine HA.out.mono ?_; rintro e w3 ⟨⟨u, rfl⟩, t3, k3⟩; have T3 := Lib.hid t3; have K3 := Lib.hid k3; clear t3 k3)
  obtain ⟨xs, hx, hw⟩ := T3.out
  rw [List.nil_append, List.nil_append] at hw
  rw [List.nil_append] at hx
  have HX := Lib.hid hx
  have HW := Lib.hid hw
  have W3 := Lib.hid (WU.out.keeps K3.out (notMem1 (by omega)))
  have R3 := Lib.hid (RU.out.keeps K3.out (notMem1 (by omega)) (notMem1 (by omega)))
  have KK := Lib.hid (KU.out.then K3.out (fun x hx => .inr (by simp at hx; omega)))
  clear hx hw T3
  go_wp2_with (first | (refine wpList_load_row rfl 48 _ rfl b2 rfl 48 (tcells (stOf kk h0 l) xs l.length).toArray (0, 0) _ HW.out Tryd.underlying48 rfl (by rw [szText]; simp [tcells_length _ _ _ HX.out.1]) ?_) | (go_at_call 23; refine (sum_any _ l xs HX.out R3.out hn).mono ?_; rintro e w4 ⟨rfl, k4⟩; have K4 := Lib.hid k4; have W4 := Lib.hid (W3.out.keeps k4 (by simp)); clear k4) | (refine wpList_store_row rfl 27 _ _ rfl w.heap.size ((sumOf kk h0 l).map bv).toArray rfl rfl 27 ((List.replicate 32 (0 : UInt8)).map bv).toArray W4.out (by rw [szBytes32]; simp [sumOf_length]) (by simp [sumOf_length]) (bytes_one _) ?_))
  exact bodyPost_ret (results_cell_row Tryd.results12 _ _ w.heap.size 27 ((sumOf kk h0 l).map bv).toArray (0, 0) _ rfl (W4.out.setRow _) Tryd.underlying27 rfl (by rw [szBytes32]; simp [sumOf_length])) rfl ⟨rfl, (KK.out.trans K4.out).then (Keeps.setRow (S := [w.heap.size]) _ (by simp) _) (fun x hx => .inr (by simp at hx; omega))⟩
end Go.Proofs.YtlnmbfddhdjioaaDoor
