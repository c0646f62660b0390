/-
  Contracts of ring: headerOf.
-/
import Derived.Test.YtlnmbfddhdjioaaGreatRingBase
namespace Go.Proofs.YtlnmbfddhdjioaaGreat
open Go.RowKit

/-- A header's cells. -/
def hdrCells (h : Hdr) : List Value := [.int .i64 h.sector, .int .u8 (h.kind.toNat : Int), uv h.num]

theorem built_hdr2 (s k : Int) : Tryz.prog.built 60 [(0, .int .i64 s), (1, .int .u8 k)] = some #[.int .i64 s, .int .u8 k, .int .u32 0] := by kernel_rfl
theorem built_hdr3 (s k x : Int) : Tryz.prog.built 60 [(0, .int .i64 s), (1, .int .u8 k), (2, .int .u32 x)] = some #[.int .i64 s, .int .u8 k, .int .u32 x] := by kernel_rfl
theorem szHeader : (Tryz.prog.info? 60).map (·.size) = some 3 := by kernel_rfl
theorem hdr_one (s k x : Int) : (#[Value.int .i64 s, Value.int .u8 k, Value.int .u32 x].all fun x => x.oneCell') = true := by kernel_rfl

theorem hdr_start (w : World) : Keeps [] w (w.alloc (.cells #[.int .i64 0, .int .u8 0, .int .u32 0] 60)) ∧
    Whole (w.alloc (.cells #[.int .i64 0, .int .u8 0, .int .u32 0] 60)) w.heap.size 60 [.int .i64 0, .int .u8 0, .int .u32 0] :=
  ⟨Keeps.alloc [] _ _, Whole.new w _ [_, _, _]⟩

set_option maxRecDepth 100000 in
set_option maxHeartbeats 1000000 in
/-- headerOf, as far as it doesn't ask for the number. -/
theorem headerOf_plain (w : World) (k : Int) (v : Value) (b : List UInt8) (M : Nat) (h : Reads w v b M) (hl : b.length ≤ 100000) (kd : UInt8) (hk : (atL b).kind = kd) (hc : kd = 0 ∨ kd = 2 ∨ kd = 3) (r : Int) (hr : r = if kd = 0 then 0 else 2) :
    Calls Tryz.prog 42 #[.int .i64 k, v] w fun e w' => e = .returned (.agg #[.int .i64 k, .int .u8 r, .int .u32 0]) ∧ Keeps [] w w' := by
  obtain ⟨a, cap, rfl, hcap⟩ := h.shape
  have HA := Lib.hid (fun U (hk : Keeps [] w U) => At_any U _ b M (h.keeps hk (by simp)) hl)
  obtain ⟨kV, w0⟩ := hdr_start w
  generalize atL b = R at *
  obtain ⟨z, kd', py⟩ := R
  dsimp only at hk
  subst hk
  generalize b.length = n at *
  clear h
  go_enter Tryz.func42, Tryz.ntmps42
  go_wp2_with fail
  generalize World.alloc w _ = V at *
  refine (HA.out V kV).mono ?_
  rintro e w1 ⟨pa, pn, pc, rfl, _, k1⟩
  have sV := w0.lt
  have w1' := w0.keeps k1 (by simp)
  have k1' := kV.trans k1
  dsimp only [recCells]
  clear HA w0 kV k1
  go_upto_region 2 with (fail)
  generalize hU : World.alloc w1 _ = U
  have wU : Whole U w1.heap.size 122 [.int .i64 0, .int .i64 z, .int .u8 (kd'.toNat : Int), .slice pa pn pc] := by rw [← hU]; exact Whole.new w1 _ [_, _, _, _]
  have q2 := (wU.cell 2).trans (show _ = some (Value.int .u8 (kd'.toNat : Int)) from rfl)
  have kU : Keeps [] w1 U := by rw [← hU]; exact Keeps.alloc [] _ _
  have W1 := Lib.hid (w1'.keeps kU (by simp))
  have K1 := Lib.hid (k1'.trans kU)
  clear hU wU kU w1' k1'
  have fin : ∀ (U' : World) (e : Ending), U' = U.setRow w.heap.size #[Value.int .i64 k, .int .u8 r, .int .u32 0] → Keeps [] w U' := fun U' _ h => by
    rw [h]; exact K1.out.then (Keeps.setRow (S := [w.heap.size]) _ (by simp) _) (fun x hx => .inr (by simp at hx; omega))
  have FIN := Lib.hid fin
  have W2 := W1.out.setRow [.int .i64 k, .int .u8 r, .int .u32 0]
  clear fin
  rcases hc with rfl | rfl | rfl
  · obtain rfl : r = 0 := hr
    go_wp2_with (first | (refine wpList_build_at rfl 60 _ rfl _ (built_hdr2 _ _) ?_) | (refine wpList_store_row rfl 60 _ _ rfl w.heap.size #[.int .i64 k, .int .u8 0, .int .u32 0] rfl rfl 60 #[.int .i64 0, .int .u8 0, .int .u32 0] W1.out (by rw [szHeader]; rfl) rfl (hdr_one _ _ _) ?_))
    refine bodyPost_ret (results_cell_row Tryz.results42 _ _ w.heap.size 60 #[.int .i64 k, .int .u8 0, .int .u32 0] (0, 0) _ rfl W2 Tryz.underlying60 rfl (by rw [szHeader]; rfl)) rfl ?_
    exact ⟨rfl, FIN.out _ (.returned (.bool true)) rfl⟩
  all_goals
    obtain rfl : r = 2 := hr
    go_wp2_with (first | (refine wpList_build_at rfl 60 _ rfl _ (built_hdr2 _ _) ?_) | (refine wpList_store_row rfl 60 _ _ rfl w.heap.size #[.int .i64 k, .int .u8 2, .int .u32 0] rfl rfl 60 #[.int .i64 0, .int .u8 0, .int .u32 0] W1.out (by rw [szHeader]; rfl) rfl (hdr_one _ _ _) ?_))
    refine bodyPost_ret (results_cell_row Tryz.results42 _ _ w.heap.size 60 #[.int .i64 k, .int .u8 2, .int .u32 0] (0, 0) _ rfl W2 Tryz.underlying60 rfl (by rw [szHeader]; rfl)) rfl ?_
    exact ⟨rfl, FIN.out _ (.returned (.bool true)) rfl⟩

set_option maxRecDepth 100000 in
set_option maxHeartbeats 1000000 in
/-- headerOf, of a record. -/
theorem headerOf_rec (w : World) (k : Int) (v : Value) (b : List UInt8) (M : Nat) (h : Reads w v b M) (hl : b.length ≤ 100000) (hk : (atL b).kind = 1) (hw : 0 < w.heap.size) (r : Int) (x : BitVec 32)
    (hr : (r, x) = match numL (atL b).pay with | some x => (1, x) | none => (2, 0#32)) :
    Calls Tryz.prog 42 #[.int .i64 k, v] w fun e w' => e = .returned (.agg #[.int .i64 k, .int .u8 r, uv x]) ∧ Keeps [] w w' := by
  obtain ⟨a, cap, rfl, hcap⟩ := h.shape
  have HA := Lib.hid (fun U (hk : Keeps [] w U) => At_any U _ b M (h.keeps hk (by simp)) hl)
  obtain ⟨kV, w0⟩ := hdr_start w
  generalize atL b = R at *
  obtain ⟨z, kd', py⟩ := R
  dsimp only at hk hr
  subst hk
  generalize b.length = n at *
  clear h
  have HR := Lib.hid hr
  clear hr
  go_enter Tryz.func42, Tryz.ntmps42
  go_wp2_with fail
  generalize World.alloc w _ = V at *
  refine (HA.out V kV).mono ?_
  rintro e w1 ⟨pa, pn, pc, rfl, ho, k1⟩
  have sV := w0.lt
  have w1' := w0.keeps k1 (by simp)
  have k1' := kV.trans k1
  obtain ⟨Mp, hrp, hMp⟩ := owns_reads ho (by have := k1.size; omega)
  obtain ⟨ao, cc, hv6⟩ := owns_shape2 ho
  obtain ⟨rfl, rfl, rfl⟩ : pa = ao ∧ pn = py.length ∧ pc = cc := by simpa using hv6
  dsimp only [recCells]
  clear HA w0 kV k1 ho hv6
  go_upto_region 2 with (fail)
  generalize hU : World.alloc w1 _ = U
  have wU : Whole U w1.heap.size 122 [.int .i64 0, .int .i64 z, .int .u8 1, .slice pa py.length pc] := by rw [← hU]; exact Whole.new w1 _ [_, _, _, _]
  have q2 := (wU.cell 2).trans (show _ = some (Value.int .u8 1) from rfl)
  have q3 := (wU.cell 3).trans (show _ = some (Value.slice pa py.length pc) from rfl)
  have kU : Keeps [] w1 U := by rw [← hU]; exact Keeps.alloc [] _ _
  have HN := Lib.hid (numberOf_any U _ py Mp (hrp.keeps kU (by simp)))
  have W1 := Lib.hid (w1'.keeps kU (by simp))
  have K1 := Lib.hid (k1'.trans kU)
  clear hU wU kU w1' k1' hrp
  generalize py.length = pn at *
  cases hn : numL py with
  | none =>
    rw [hn] at HN
    have hrx := HR.out
    rw [hn] at hrx
    obtain ⟨rfl, rfl⟩ : r = 2 ∧ x = 0#32 := by simpa using hrx
    clear hrx HR hn
    dsimp only [Option.getD, Option.isSome] at HN
    go_wp2_with fail
    refine HN.out.mono ?_
    rintro e w2 ⟨rfl, k2⟩
    have W2 := Lib.hid (W1.out.keeps k2 (by simp))
    have K2 := Lib.hid (K1.out.trans k2)
    have W3 := W2.out.setRow [.int .i64 k, .int .u8 2, .int .u32 0]
    clear k2 q2 q3
    go_wp2_with (first | (refine wpList_build_at rfl 60 _ rfl _ (built_hdr2 _ _) ?_) | (refine wpList_store_row rfl 60 _ _ rfl w.heap.size #[.int .i64 k, .int .u8 2, .int .u32 0] rfl rfl 60 #[.int .i64 0, .int .u8 0, .int .u32 0] W2.out (by rw [szHeader]; rfl) rfl (hdr_one _ _ _) ?_))
    refine bodyPost_ret (results_cell_row Tryz.results42 _ _ w.heap.size 60 #[.int .i64 k, .int .u8 2, .int .u32 0] (0, 0) _ rfl W3 Tryz.underlying60 rfl (by rw [szHeader]; rfl)) rfl ?_
    exact ⟨rfl, K2.out.then (Keeps.setRow (S := [w.heap.size]) _ (by simp) _) (fun x hx => .inr (by simp at hx; omega))⟩
  | some y =>
    rw [hn] at HN
    have hrx := HR.out
    rw [hn] at hrx
    obtain ⟨rfl, rfl⟩ : r = 1 ∧ x = y := by simpa using hrx
    clear hrx HR hn
    dsimp only [Option.getD, Option.isSome] at HN
    go_wp2_with fail
    refine HN.out.mono ?_
    rintro e w2 ⟨rfl, k2⟩
    have W2 := Lib.hid (W1.out.keeps k2 (by simp))
    have K2 := Lib.hid (K1.out.trans k2)
    have W3 := W2.out.setRow [.int .i64 k, .int .u8 1, uv x]
    clear k2 q2 q3
    go_wp2_with (first | (refine wpList_build_at rfl 60 _ rfl _ (built_hdr3 _ _ _) ?_) | (refine wpList_store_row rfl 60 _ _ rfl w.heap.size #[.int .i64 k, .int .u8 1, uv x] rfl rfl 60 #[.int .i64 0, .int .u8 0, .int .u32 0] W2.out (by rw [szHeader]; rfl) rfl (hdr_one _ _ _) ?_))
    refine bodyPost_ret (results_cell_row Tryz.results42 _ _ w.heap.size 60 #[.int .i64 k, .int .u8 1, uv x] (0, 0) _ rfl W3 Tryz.underlying60 rfl (by rw [szHeader]; rfl)) rfl ?_
    exact ⟨rfl, K2.out.then (Keeps.setRow (S := [w.heap.size]) _ (by simp) _) (fun x hx => .inr (by simp at hx; omega))⟩

theorem firstL_payLen (b : List UInt8) : (firstL b).pay.length ≤ b.length := by
  unfold firstL
  split
  · simp
  · split
    · simp
    · split
      · simp; omega
      · simp

theorem atL_payLen (b : List UInt8) : (atL b).pay.length ≤ b.length := by
  unfold atL
  split
  · simp
  · exact firstL_payLen b

theorem atL_kinds (b : List UInt8) : (atL b).kind = 0 ∨ (atL b).kind = 1 ∨ (atL b).kind = 2 ∨ (atL b).kind = 3 := by
  unfold atL
  split
  · exact .inl rfl
  · exact .inr (firstL_kind b)

/-- headerOf, of whatever bytes. -/
theorem headerOf_any (w : World) (k : Int) (v : Value) (b : List UInt8) (M : Nat) (h : Reads w v b M) (hl : b.length ≤ 100000) (hw : 0 < w.heap.size) :
    Calls Tryz.prog 42 #[.int .i64 k, v] w fun e w' => e = .returned (.agg (hdrCells (hdrOf k b)).toArray) ∧ Keeps [] w w' := by
  rcases atL_kinds b with hk | hk | hk | hk
  · have e : hdrOf k b = ⟨k, 0, 0#32⟩ := by unfold hdrOf hdrL; rw [if_pos hk]
    rw [e]
    exact headerOf_plain w k v b M h hl 0 hk (.inl rfl) 0 rfl
  · cases hn : numL (atL b).pay with
    | none =>
      have e : hdrOf k b = ⟨k, 2, 0#32⟩ := by unfold hdrOf hdrL; rw [if_neg (by rw [hk]; decide), if_pos hk, hn]
      rw [e]
      exact headerOf_rec w k v b M h hl hk hw 2 0#32 (by rw [hn])
    | some x =>
      have e : hdrOf k b = ⟨k, 1, x⟩ := by unfold hdrOf hdrL; rw [if_neg (by rw [hk]; decide), if_pos hk, hn]
      rw [e]
      exact headerOf_rec w k v b M h hl hk hw 1 x (by rw [hn])
  · have e : hdrOf k b = ⟨k, 2, 0#32⟩ := by unfold hdrOf hdrL; rw [if_neg (by rw [hk]; decide), if_neg (by rw [hk]; decide)]
    rw [e]
    exact headerOf_plain w k v b M h hl 2 hk (.inr (.inl rfl)) 2 rfl
  · have e : hdrOf k b = ⟨k, 2, 0#32⟩ := by unfold hdrOf hdrL; rw [if_neg (by rw [hk]; decide), if_neg (by rw [hk]; decide)]
    rw [e]
    exact headerOf_plain w k v b M h hl 3 hk (.inr (.inr rfl)) 2 rfl
end Go.Proofs.YtlnmbfddhdjioaaGreat
