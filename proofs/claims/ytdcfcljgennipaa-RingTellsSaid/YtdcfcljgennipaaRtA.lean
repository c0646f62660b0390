/-
  Contracts of the document's own ring (lightshipref05): Header.
-/
import Derived.Test.YtdcfcljgennipaaRfD
import Derived.Test.YtdcfcljgennipaaRingC
namespace Go.Proofs.Ytdcfcljgennipaa
open Go.RowKit

/-- A header, by what stands at a sector's begin. -/
def hdrK (k : Int) (kd : UInt8) (o : Option (BitVec 32)) : Hdr :=
  if kd = 0 then ⟨k, 0, 0#32⟩ else if kd = 1 then (match o with | some x => ⟨k, 1, x⟩ | none => ⟨k, 2, 0#32⟩) else ⟨k, 2, 0#32⟩

theorem hdrOf_K (k : Int) (b : List UInt8) : hdrOf k b = hdrK k (atL b).kind (numL (atL b).pay) := by
  unfold hdrOf hdrL hdrK
  by_cases h0 : (atL b).kind = 0
  · rw [if_pos h0, if_pos h0]
  · rw [if_neg h0, if_neg h0]
    by_cases h1 : (atL b).kind = 1
    · rw [if_pos h1, if_pos h1]
      cases numL (atL b).pay <;> rfl
    · rw [if_neg h1, if_neg h1]

theorem numL_len {p : List UInt8} (h : p.length ≠ 5) : numL p = none := by
  match p, h with
  | [], _ => rfl
  | [_], _ => rfl
  | [_, _], _ => rfl
  | [_, _, _], _ => rfl
  | [_, _, _, _], _ => rfl
  | [_, _, _, _, _], h => exact absurd rfl h
  | _ :: _ :: _ :: _ :: _ :: _ :: _, _ => rfl

theorem five_of {p : List UInt8} (h : p.length = 5) : ∃ x a b c d, p = [x, a, b, c, d] := by
  match p, h with
  | [x, a, b, c, d], _ => exact ⟨x, a, b, c, d, rfl⟩

set_option maxRecDepth 100000 in
set_option maxHeartbeats 2000000 in
/-- What the document's Header answers, of whatever bytes. -/
theorem R5Header_any (w : World) (k : Int) (v : Value) (b : List UInt8) (M : Nat) (h : Reads w v b M) (hl : b.length ≤ 100000) (hw : 0 < w.heap.size) :
    Calls Try.prog 30 #[.int .i64 k, v] w fun e w' => e = .returned (.agg (hdrCells (hdrOf k b)).toArray) ∧ Keeps [] w w' := by
  obtain ⟨a, cap, rfl, hcap⟩ := h.shape
  have HA := Lib.hid (fun U (hk : Keeps [] w U) => R4At_any U _ b M (h.keeps hk (by simp)) hl)
  have HPY := Lib.hid (atL_payLen b)
  have HKD := Lib.hid (atL_kinds b)
  have HDEF := Lib.hid (hdrOf_K k b)
  obtain ⟨kV, w0⟩ := hdr_start w
  generalize hdrOf k b = H at *
  generalize atL b = R at *
  obtain ⟨z, kd, py⟩ := R
  dsimp only at HPY HKD HDEF
  generalize b.length = n at *
  clear h
  go_enter Try.func30, Try.ntmps30
  go_wp2_with fail
  generalize World.alloc w _ = V at *
  refine (HA.out V kV).mono ?_
  rintro e w1 ⟨pa, pn, pc, rfl, ho, k1⟩
  have sV := w0.lt
  have w1' := w0.keeps k1 (by simp)
  have k1' := kV.trans k1
  obtain ⟨Mp, hrp, hMp⟩ := owns_reads ho (by have := k1.size; omega)
  obtain ⟨ao, cc, hv6⟩ := owns_shape2 ho
  obtain ⟨rfl, rfl, rfl⟩ : pa = ao ∧ pn = py.length ∧ pc = cc := by simpa using hv6
  dsimp only [recCells]
  clear HA w0 kV k1 ho hv6
  go_upto_region 2 with (fail)
  generalize hU : World.alloc w1 _ = U
  have wU : Whole U w1.heap.size 29 [.int .i64 0, .int .i64 z, .int .u8 (kd.toNat : Int), .slice pa py.length pc] := by rw [← hU]; exact Whole.new w1 _ [_, _, _, _]
  have q2 := (wU.cell 2).trans (show _ = some (Value.int .u8 (kd.toNat : Int)) from rfl)
  have q3 := (wU.cell 3).trans (show _ = some (Value.slice pa py.length pc) from rfl)
  have kU : Keeps [] w1 U := by rw [← hU]; exact Keeps.alloc [] _ _
  have W1 := Lib.hid (w1'.keeps kU (by simp))
  have K1 := Lib.hid (k1'.trans kU)
  have HRP := Lib.hid (hrp.keeps kU (by simp))
  have WU := Lib.hid wU
  clear hU wU kU w1' k1' hrp
  have lenE := HPY.out
  have hpl : py.length ≤ 9223372036854775807 := by omega
  by_cases h0 : kd = 0
  · subst h0
    obtain rfl : H = ⟨k, 0, 0#32⟩ := by rw [HDEF.out]; rfl
    have W2 := W1.out.setRow [.int .i64 k, .int .u8 0, .int .u32 0]
    go_wp2_with (first | (refine wpList_build_at rfl 56 _ rfl #[.int .i64 k, .int .u8 0, .int .u32 0] (by kernel_rfl) ?_) | (refine wpList_store_row rfl 56 _ _ rfl w.heap.size #[.int .i64 k, .int .u8 0, .int .u32 0] rfl rfl 56 #[.int .i64 0, .int .u8 0, .int .u32 0] W1.out (by rw [szHeader]; rfl) rfl (hdr_one _ _ _) ?_))
    refine bodyPost_ret (results_cell_row Try.results30 _ _ w.heap.size 56 #[.int .i64 k, .int .u8 0, .int .u32 0] (0, 0) _ rfl W2 Try.underlying56 rfl (by rw [szHeader]; rfl)) rfl ?_
    exact ⟨rfl, K1.out.then (Keeps.setRow (S := [w.heap.size]) _ (by simp) _) (fun x hx => .inr (by simp at hx; omega))⟩
  · have e0 : (((kd.toNat : Int) == 0) : Bool) = false := by
      have : kd.toNat ≠ 0 := fun e => h0 (UInt8.toNat_inj.1 e)
      simp; omega
    have e0' : ¬ (kd.toNat : Int) = 0 := by
      have : kd.toNat ≠ 0 := fun e => h0 (UInt8.toNat_inj.1 e)
      omega
    by_cases h1 : kd = 1
    · subst h1
      have q2' := q2.trans (show some (Value.int .u8 (((1 : UInt8).toNat : Nat) : Int)) = some (.int .u8 1) from rfl)
      clear q2 e0 e0'
      by_cases h5 : py.length = 5
      · obtain ⟨x, b1, b2, b3, b4, rfl⟩ := five_of h5
        obtain ⟨off, cp', hv', _, hcell⟩ := HRP.out.at (by simp)
        simp only [List.length_cons, List.length_nil, Nat.zero_add, Nat.reduceAdd, Value.slice.injEq, true_and] at hv' q3
        obtain ⟨rfl, rfl⟩ := hv'
        have d0 := hcell 0 x rfl
        have d1 := hcell 1 b1 rfl
        have d2 := hcell 2 b2 rfl
        have d3 := hcell 3 b3 rfl
        have d4 := hcell 4 b4 rfl
        rw [Nat.add_zero] at d0
        unfold bv at d0 d1 d2 d3 d4
        clear hcell h5 hpl lenE
        by_cases h82 : x = 82
        · subst h82
          obtain rfl : H = ⟨k, 1, num4 b1 b2 b3 b4⟩ := by rw [HDEF.out]; rfl
          have d0' := d0.trans (show some (Value.int .u8 (((82 : UInt8).toNat : Nat) : Int)) = some (.int .u8 82) from rfl)
          clear d0
          have hn4 := num4_toNat b1 b2 b3 b4
          obtain ⟨X, hX⟩ : ∃ X, X = num4 b1 b2 b3 b4 := ⟨_, rfl⟩
          have HX := Lib.hid hX
          rw [← hX] at hn4
          have l1 := b1.toNat_lt
          have l2 := b2.toNat_lt
          have l3 := b3.toNat_lt
          have l4 := b4.toNat_lt
          generalize b1.toNat = A at *
          generalize b2.toNat = B at *
          generalize b3.toNat = C at *
          generalize b4.toNat = D at *
          obtain ⟨v1, hv1⟩ : ∃ v, v = A * 256 := ⟨_, rfl⟩
          obtain ⟨v2, hv2⟩ : ∃ v, v = v1 + B := ⟨_, rfl⟩
          obtain ⟨v3, hv3⟩ : ∃ v, v = v2 * 256 := ⟨_, rfl⟩
          obtain ⟨v4, hv4⟩ : ∃ v, v = v3 + C := ⟨_, rfl⟩
          obtain ⟨v5, hv5⟩ : ∃ v, v = v4 * 256 := ⟨_, rfl⟩
          have i1 : (A : Int) * 256 = (v1 : Int) := by omega
          have i2 : (v1 : Int) + (B : Int) = (v2 : Int) := by omega
          have i3 : (v2 : Int) * 256 = (v3 : Int) := by omega
          have i4 : (v3 : Int) + (C : Int) = (v4 : Int) := by omega
          have i5 : (v4 : Int) * 256 = (v5 : Int) := by omega
          have i6 : (v5 : Int) + (D : Int) = (X.toNat : Int) := by omega
          have x1 : IntKind.u32.wrap (A : Int) = (A : Int) := IntWalk.u32_in _ (by omega)
          have x2 : IntKind.u32.wrap (B : Int) = (B : Int) := IntWalk.u32_in _ (by omega)
          have x3 : IntKind.u32.wrap (C : Int) = (C : Int) := IntWalk.u32_in _ (by omega)
          have x4 : IntKind.u32.wrap (D : Int) = (D : Int) := IntWalk.u32_in _ (by omega)
          have y1 : IntKind.u32.wrap (v1 : Int) = (v1 : Int) := IntWalk.u32_in _ (by omega)
          have y2 : IntKind.u32.wrap (v2 : Int) = (v2 : Int) := IntWalk.u32_in _ (by omega)
          have y3 : IntKind.u32.wrap (v3 : Int) = (v3 : Int) := IntWalk.u32_in _ (by omega)
          have y4 : IntKind.u32.wrap (v4 : Int) = (v4 : Int) := IntWalk.u32_in _ (by omega)
          have y5 : IntKind.u32.wrap (v5 : Int) = (v5 : Int) := IntWalk.u32_in _ (by omega)
          have y6 : IntKind.u32.wrap (X.toNat : Int) = (X.toNat : Int) := wrap_nat32 X
          have z1 : (A : Int) % 4294967296 = (A : Int) := by omega
          have z2 : (B : Int) % 4294967296 = (B : Int) := by omega
          have z3 : (C : Int) % 4294967296 = (C : Int) := by omega
          have z4 : (D : Int) % 4294967296 = (D : Int) := by omega
          have u1 : (v1 : Int) % 4294967296 = (v1 : Int) := by omega
          have u2 : (v2 : Int) % 4294967296 = (v2 : Int) := by omega
          have u3 : (v3 : Int) % 4294967296 = (v3 : Int) := by omega
          have u4 : (v4 : Int) % 4294967296 = (v4 : Int) := by omega
          have u5 : (v5 : Int) % 4294967296 = (v5 : Int) := by omega
          have u6 : (X.toNat : Int) % 4294967296 = (X.toNat : Int) := by have := X.isLt; omega
          clear hv1 hv2 hv3 hv4 hv5 hn4 hX l1 l2 l3 l4 HPY HKD HDEF
          go_wp2
          refine wp_region_tail 23 (by kernel_rfl) (by kernel_rfl) ?_
          intro w2 hw2
          have k2 : Keeps [] U w2 := by rw [hw2]; exact Keeps.drew _ _
          have d1 := k2.cell d1 (by simp)
          have d2 := k2.cell d2 (by simp)
          have d3 := k2.cell d3 (by simp)
          have d4 := k2.cell d4 (by simp)
          have W3 := Lib.hid (W1.out.keeps k2 (by simp))
          have K2 := Lib.hid (K1.out.trans k2)
          clear k2 hw2
          simp only [List.take_succ_cons, List.take_zero, List.drop_succ_cons, List.drop_zero]
          repeat still_step
          refine wpStill_nil ?_
          have W4 := W3.out.setRow [.int .i64 k, .int .u8 1, uv X]
          go_wp2_with (first | (refine wpList_build_at rfl 56 _ rfl _ (built_hdr3 _ _ _) ?_) | (refine wpList_store_row rfl 56 _ _ rfl w.heap.size #[.int .i64 k, .int .u8 1, uv X] rfl rfl 56 #[.int .i64 0, .int .u8 0, .int .u32 0] W3.out (by rw [szHeader]; rfl) rfl (hdr_one _ _ _) ?_))
          refine bodyPost_ret (results_cell_row Try.results30 _ _ w.heap.size 56 #[.int .i64 k, .int .u8 1, uv X] (0, 0) _ rfl W4 Try.underlying56 rfl (by rw [szHeader]; rfl)) rfl ?_
          exact ⟨by rw [HX.out]; rfl, K2.out.then (Keeps.setRow (S := [w.heap.size]) _ (by simp) _) (fun x hx => .inr (by simp at hx; omega))⟩
        · have e82 := u8_ne x 82 h82
          have e82' : ¬ (x.toNat : Int) = 82 := by
            have : x.toNat ≠ 82 := fun e => h82 (UInt8.toNat_inj.1 e)
            omega
          obtain rfl : H = ⟨k, 2, 0#32⟩ := by rw [HDEF.out]; simp [hdrK, numL, h82]
          clear d1 d2 d3 d4
          have W2 := W1.out.setRow [.int .i64 k, .int .u8 2, .int .u32 0]
          go_wp2_with (first | (refine wpList_build_at rfl 56 _ rfl _ (built_hdr2 _ _) ?_) | (refine wpList_store_row rfl 56 _ _ rfl w.heap.size #[.int .i64 k, .int .u8 2, .int .u32 0] rfl rfl 56 #[.int .i64 0, .int .u8 0, .int .u32 0] W1.out (by rw [szHeader]; rfl) rfl (hdr_one _ _ _) ?_))
          refine bodyPost_ret (results_cell_row Try.results30 _ _ w.heap.size 56 #[.int .i64 k, .int .u8 2, .int .u32 0] (0, 0) _ rfl W2 Try.underlying56 rfl (by rw [szHeader]; rfl)) rfl ?_
          exact ⟨rfl, K1.out.then (Keeps.setRow (S := [w.heap.size]) _ (by simp) _) (fun x hx => .inr (by simp at hx; omega))⟩
      · obtain rfl : H = ⟨k, 2, 0#32⟩ := by rw [HDEF.out, numL_len h5]; rfl
        have e5 : (((py.length : Int) != 5) : Bool) = true := by simp; omega
        have e5' : ¬ (py.length : Int) = 5 := by omega
        generalize py.length = pn at *
        have W2 := W1.out.setRow [.int .i64 k, .int .u8 2, .int .u32 0]
        go_wp2_with (first | (refine wpList_build_at rfl 56 _ rfl _ (built_hdr2 _ _) ?_) | (refine wpList_store_row rfl 56 _ _ rfl w.heap.size #[.int .i64 k, .int .u8 2, .int .u32 0] rfl rfl 56 #[.int .i64 0, .int .u8 0, .int .u32 0] W1.out (by rw [szHeader]; rfl) rfl (hdr_one _ _ _) ?_))
        refine bodyPost_ret (results_cell_row Try.results30 _ _ w.heap.size 56 #[.int .i64 k, .int .u8 2, .int .u32 0] (0, 0) _ rfl W2 Try.underlying56 rfl (by rw [szHeader]; rfl)) rfl ?_
        exact ⟨rfl, K1.out.then (Keeps.setRow (S := [w.heap.size]) _ (by simp) _) (fun x hx => .inr (by simp at hx; omega))⟩
    · have e1 : (((kd.toNat : Int) != 1) : Bool) = true := u8_ne kd 1 h1
      have e1' : ¬ (kd.toNat : Int) = 1 := by
        have : kd.toNat ≠ 1 := fun e => h1 (UInt8.toNat_inj.1 e)
        omega
      obtain rfl : H = ⟨k, 2, 0#32⟩ := by rw [HDEF.out]; unfold hdrK; rw [if_neg h0, if_neg h1]
      have W2 := W1.out.setRow [.int .i64 k, .int .u8 2, .int .u32 0]
      go_wp2_with (first | (refine wpList_build_at rfl 56 _ rfl _ (built_hdr2 _ _) ?_) | (refine wpList_store_row rfl 56 _ _ rfl w.heap.size #[.int .i64 k, .int .u8 2, .int .u32 0] rfl rfl 56 #[.int .i64 0, .int .u8 0, .int .u32 0] W1.out (by rw [szHeader]; rfl) rfl (hdr_one _ _ _) ?_))
      refine bodyPost_ret (results_cell_row Try.results30 _ _ w.heap.size 56 #[.int .i64 k, .int .u8 2, .int .u32 0] (0, 0) _ rfl W2 Try.underlying56 rfl (by rw [szHeader]; rfl)) rfl ?_
      exact ⟨rfl, K1.out.then (Keeps.setRow (S := [w.heap.size]) _ (by simp) _) (fun x hx => .inr (by simp at hx; omega))⟩
end Go.Proofs.Ytdcfcljgennipaa
