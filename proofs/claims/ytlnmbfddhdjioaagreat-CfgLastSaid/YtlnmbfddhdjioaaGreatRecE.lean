/-
  Contracts of record: first, At.
-/
import Derived.Test.YtlnmbfddhdjioaaGreatRecBase
namespace Go.Proofs.YtlnmbfddhdjioaaGreat
open Go.RowKit

theorem headLen_lenOf (b : List UInt8) : headLen b = if (lenOf b).2 = true then some (lenOf b).1 else none := by
  match b with
  | [] => rfl
  | [_] => rfl
  | [_, _] => rfl
  | [_, _, _] => rfl
  | a :: b :: c :: d :: r =>
    have e : lenOf (a :: b :: c :: d :: r) = if a = ~~~c ∧ b = ~~~d then (a.toNat * 256 + b.toNat, decide (a.toNat * 256 + b.toNat ≤ 4080)) else (0, false) := rfl
    have e2 : headLen (a :: b :: c :: d :: r) = if a = ~~~c ∧ b = ~~~d ∧ a.toNat * 256 + b.toNat ≤ 4080 then some (a.toNat * 256 + b.toNat) else none := rfl
    rw [e2]
    by_cases h1 : a = ~~~c ∧ b = ~~~d
    · rw [if_pos h1] at e
      rw [e]
      by_cases h2 : a.toNat * 256 + b.toNat ≤ 4080
      · rw [if_pos ⟨h1.1, h1.2, h2⟩]; simp [h2]
      · rw [if_neg (fun h => h2 h.2.2)]; simp [h2]
    · rw [if_neg h1] at e
      rw [e, if_neg (fun h => h1 ⟨h.1, h.2.1⟩)]; rfl

theorem lengthOf_any (w : World) (v : Value) (b : List UInt8) (M : Nat) (h : Reads w v b M) (hl : b.length ≤ 100000) :
    Calls Tryz.prog 109 #[v] w fun e w' => e = .returned (.tuple #[.int .i64 (lenOf b).1, .bool (lenOf b).2]) ∧ Keeps [] w w' := by
  match b, h, hl with
  | [], h, _ => exact lengthOf_short w v _ M h (by simp)
  | [_], h, _ => exact lengthOf_short w v _ M h (by simp)
  | [_, _], h, _ => exact lengthOf_short w v _ M h (by simp)
  | [_, _, _], h, _ => exact lengthOf_short w v _ M h (by simp)
  | a :: b :: c :: d :: r, h, hl => exact lengthOf_four w v a b c d r M h (by simp at hl; omega)

/-- A record's cells. -/
def recCells (at' : Nat) (r : R4) (pv : Value) : List Value := [.int .i64 at', .int .i64 r.size, .int .u8 (r.kind.toNat : Int), pv]

theorem built_rec2 (s k : Int) : Tryz.prog.built 122 [(2, .int .u8 k), (1, .int .i64 s)] = some #[.int .i64 0, .int .i64 s, .int .u8 k, .slice none 0 0] := by kernel_rfl
theorem built_rec3 (s k : Int) (a : Option Addr) (n c : Nat) : Tryz.prog.built 122 [(2, .int .u8 k), (1, .int .i64 s), (3, .slice a n c)] = some #[.int .i64 0, .int .i64 s, .int .u8 k, .slice a n c] := by kernel_rfl
theorem szRecord : (Tryz.prog.info? 122).map (·.size) = some 4 := by kernel_rfl
theorem rec_one (t s k : Int) (a : Option Addr) (n c : Nat) : (#[Value.int .i64 t, Value.int .i64 s, Value.int .u8 k, Value.slice a n c].all fun x => x.oneCell') = true := by kernel_rfl

/-- What first and At answer. -/
def RecOut (w : World) (r : R4) (e : Ending) (w' : World) : Prop :=
  ∃ a n c, e = .returned (.agg (recCells 0 r (.slice a n c)).toArray) ∧ w'.ownsRow w.heap.size 5 1 (.slice a n c) r.pay.length (r.pay.map bv) ∧ Keeps [] w w'

theorem RecOut.none {w w' : World} (r : R4) (hp : r.pay = []) (hk : Keeps [] w w') : RecOut w r (.returned (.agg (recCells 0 r (.slice none 0 0)).toArray)) w' :=
  ⟨_, _, _, rfl, by rw [hp]; exact ⟨rfl, .inl ⟨rfl, rfl⟩⟩, hk⟩

set_option maxRecDepth 100000 in
set_option maxHeartbeats 2000000 in
theorem first_none (w : World) (v : Value) (b : List UInt8) (M : Nat) (h : Reads w v b M) (hl : b.length ≤ 100000) (hn : (lenOf b).2 = false) :
    Calls Tryz.prog 94 #[v] w (RecOut w ⟨min 4 b.length, 3, []⟩) := by
  obtain ⟨m, hm⟩ : ∃ m, m = min 4 b.length := ⟨_, rfl⟩
  rw [← hm]
  obtain ⟨a, cap, rfl, hcap⟩ := h.shape
  have hL := fun w' (hk : Keeps [] w w') => lengthOf_any w' _ b M (h.keeps hk (by simp)) hl
  rw [hn] at hL
  have hmin := fun w ts t => run_min2 w ts t 4 (b.length : Int) m (by omega)
  have HL := Lib.hid hL
  clear hL h hm hn
  generalize (lenOf b).1 = q at *
  generalize b.length = n at *
  go_enter Tryz.func94, Tryz.ntmps94
  go_wp2_with fail
  generalize hV : World.alloc w _ = V
  have kV : Keeps [] w V := by rw [← hV]; exact Keeps.alloc [] _ _
  have w0 : Whole V w.heap.size 122 [.int .i64 0, .int .i64 0, .int .u8 0, .slice none 0 0] := by rw [← hV]; exact Whole.new w _ [_, _, _, _]
  have KV := Lib.hid kV
  have W0 := Lib.hid w0
  clear hV w0 kV
  refine (HL.out _ KV.out).mono ?_
  rintro e w1 ⟨rfl, k1⟩
  have W1 := Lib.hid (W0.out.keeps k1 (by simp))
  have K1 := Lib.hid (KV.out.trans k1)
  clear k1 KV W0
  go_wp2_with (first | (refine wpList_build_at rfl 122 _ rfl _ (built_rec2 _ _) ?_) | (refine wpList_store_row rfl 122 _ _ rfl w.heap.size #[.int .i64 0, .int .i64 m, .int .u8 3, .slice none 0 0] rfl rfl 122 #[.int .i64 0, .int .i64 0, .int .u8 0, .slice none 0 0] W1.out (by rw [szRecord]; rfl) rfl (rec_one _ _ _ _ _ _) ?_))
  have W2 := W1.out.setRow [.int .i64 0, .int .i64 m, .int .u8 3, .slice none 0 0]
  refine bodyPost_ret (results_cell_row Tryz.results94 _ _ w.heap.size 122 #[.int .i64 0, .int .i64 m, .int .u8 3, .slice none 0 0] (0, 0) _ rfl W2 Tryz.underlying122 rfl (by rw [szRecord]; rfl)) rfl ?_
  exact RecOut.none ⟨m, 3, []⟩ rfl (K1.out.then (Keeps.setRow (S := [w.heap.size]) _ (by simp) _) (fun x hx => .inr (by simp at hx; omega)))

/-- Where first begins: the record's cells are new, the length is asked. -/
theorem rec_start (w : World) : Keeps [] w (w.alloc (.cells #[.int .i64 0, .int .i64 0, .int .u8 0, .slice none 0 0] 122)) ∧
    Whole (w.alloc (.cells #[.int .i64 0, .int .i64 0, .int .u8 0, .slice none 0 0] 122)) w.heap.size 122 [.int .i64 0, .int .i64 0, .int .u8 0, .slice none 0 0] :=
  ⟨Keeps.alloc [] _ _, Whole.new w _ [_, _, _, _]⟩

set_option maxRecDepth 100000 in
set_option maxHeartbeats 2000000 in
theorem first_short (w : World) (v : Value) (b : List UInt8) (M q : Nat) (h : Reads w v b M) (hl : b.length ≤ 100000) (hn : lenOf b = (q, true)) (hq : q ≤ 4080) (hs : b.length < sizeN q) :
    Calls Tryz.prog 94 #[v] w (RecOut w ⟨min 4 b.length, 3, []⟩) := by
  obtain ⟨m, hm⟩ : ∃ m, m = min 4 b.length := ⟨_, rfl⟩
  rw [← hm]
  obtain ⟨a, cap, rfl, hcap⟩ := h.shape
  have hL := fun w' (hk : Keeps [] w w') => lengthOf_any w' _ b M (h.keeps hk (by simp)) hl
  rw [hn] at hL
  have hmin := fun w ts t => run_min2 w ts t 4 (b.length : Int) m (by omega)
  have HL := Lib.hid hL
  have hd : decide ((b.length : Int) < (sizeN q : Int)) = true := by simp; omega
  have hd2 : decide (b.length < sizeN q) = true := by simpa using hs
  have HS := Lib.hid (fun w' => Size_ok w' q hq)
  clear hL h hm hn hs
  generalize b.length = n at *
  generalize sizeN q = z at *
  obtain ⟨kV, w0⟩ := rec_start w
  go_enter Tryz.func94, Tryz.ntmps94
  go_wp2_with fail
  generalize World.alloc w _ = V at *
  have KV := Lib.hid kV
  have W0 := Lib.hid w0
  clear w0 kV
  refine (HL.out _ KV.out).mono ?_
  rintro e w1 ⟨rfl, k1⟩
  have W1 := Lib.hid (W0.out.keeps k1 (by simp))
  have K1 := Lib.hid (KV.out.trans k1)
  clear k1 KV W0
  go_wp2_with (first | (go_at_call 28; refine (HS.out _).mono ?_; rintro e w' ⟨rfl, rfl⟩) | (refine wpList_build_at rfl 122 _ rfl _ (built_rec2 _ _) ?_) | (refine wpList_store_row rfl 122 _ _ rfl w.heap.size #[.int .i64 0, .int .i64 m, .int .u8 3, .slice none 0 0] rfl rfl 122 #[.int .i64 0, .int .i64 0, .int .u8 0, .slice none 0 0] W1.out (by rw [szRecord]; rfl) rfl (rec_one _ _ _ _ _ _) ?_))
  have W2 := W1.out.setRow [.int .i64 0, .int .i64 m, .int .u8 3, .slice none 0 0]
  refine bodyPost_ret (results_cell_row Tryz.results94 _ _ w.heap.size 122 #[.int .i64 0, .int .i64 m, .int .u8 3, .slice none 0 0] (0, 0) _ rfl W2 Tryz.underlying122 rfl (by rw [szRecord]; rfl)) rfl ?_
  exact RecOut.none ⟨m, 3, []⟩ rfl (K1.out.then (Keeps.setRow (S := [w.heap.size]) _ (by simp) _) (fun x hx => .inr (by simp at hx; omega)))

set_option maxRecDepth 100000 in
set_option maxHeartbeats 600000 in
theorem first_long (w : World) (v : Value) (b : List UInt8) (M q : Nat) (h : Reads w v b M) (hl : b.length ≤ 100000) (hn : lenOf b = (q, true)) (hq : q ≤ 4080) (hs : sizeN q ≤ b.length) :
    Calls Tryz.prog 94 #[v] w (RecOut w (if b.take (sizeN q) = recB ((b.drop 4).take q) then ⟨sizeN q, 1, (b.drop 4).take q⟩ else ⟨sizeN q, 2, []⟩)) := by
  have hsz : sizeN q = 12 + fillN q := rfl
  have hfq := fillN_ge q
  obtain ⟨a, cap, rfl, hcap⟩ := h.shape
  obtain ⟨p, c, hcut, hrc⟩ := h.cut 4 (4 + q) (by omega) (by omega)
  have hpl : ((b.drop 4).take (4 + q - 4)).length = q := by simp; omega
  rw [hpl] at hcut hrc
  rw [show 4 + q - 4 = q by omega] at hrc
  have hsl : ∀ w, (Instr.sliceAt 23 (.slice a b.length cap) (some (.int .i64 4)) (some (.int .i64 (4 + (q : Int)))) none).run Tryz.prog w = .ok (.slice p q c) w := fun w => by
    rw [← hcut, show (4 : Int) + (q : Int) = ((4 + q : Nat) : Int) by omega]
    exact run_cut_lh w a b.length cap 4 (4 + q) (by omega) (by omega)
  have hpay : ((b.drop 4).take q).length = q := by simp; omega
  have hL := fun w' (hk : Keeps [] w w') => lengthOf_any w' _ b M (h.keeps hk (by simp)) hl
  rw [hn] at hL
  dsimp only at hL
  have HL := Lib.hid hL
  have HR := Lib.hid h
  have HRC := Lib.hid hrc
  have HSL := Lib.hid hsl
  have hd : decide ((b.length : Int) < (sizeN q : Int)) = false := by simp; omega
  have hd2 : decide (b.length < sizeN q) = false := by simp; omega
  have HS := Lib.hid (fun w' => Size_ok w' q hq)
  have HPL := Lib.hid hpay
  have HGE := Lib.hid (show (recB ((b.drop 4).take q)).length ≤ b.length by rw [recB_length, hpay]; exact hs)
  have HRB := Lib.hid (show (recB ((b.drop 4).take q)).length = sizeN q by rw [recB_length, hpay])
  clear hL h hn hs hrc hcut hsl hpay hpl hsz hfq
  generalize (b.drop 4).take q = pay at *
  obtain ⟨R, hR⟩ : ∃ R, R = (if b.take (sizeN q) = recB pay then (⟨sizeN q, 1, pay⟩ : R4) else ⟨sizeN q, 2, []⟩) := ⟨_, rfl⟩
  have HRR := Lib.hid hR
  rw [← hR]
  clear hR
  obtain ⟨n, hbn⟩ : ∃ n, n = b.length := ⟨_, rfl⟩
  have HBN := Lib.hid hbn
  rw [← hbn] at hd hd2 HSL HL HR hcap hl ⊢
  obtain ⟨z, hz⟩ : ∃ z, z = sizeN q := ⟨_, rfl⟩
  have HZ := Lib.hid hz
  rw [← hz] at hd hd2 HS
  clear hbn hz
  have hsl := HSL.out
  obtain ⟨kV, w0⟩ := rec_start w
  go_enter Tryz.func94, Tryz.ntmps94
  go_wp2_with fail
  generalize World.alloc w _ = V at *
  have KV := Lib.hid kV
  have W0 := Lib.hid w0
  clear w0 kV
  refine (HL.out _ KV.out).mono ?_
  rintro e w1 ⟨rfl, k1⟩
  have W1 := Lib.hid (W0.out.keeps k1 (by simp))
  have K1 := Lib.hid (KV.out.trans k1)
  have H0 := Lib.hid (show w.heap.size + 1 ≤ w1.heap.size from W1.out.lt)
  clear k1 KV W0
  have HO1 := Lib.hid (show w1.ownsRow (w.heap.size + 1) 5 1 (.slice none 0 0) ([] : List UInt8).length (([] : List UInt8).map bv) from ⟨rfl, .inl ⟨rfl, rfl⟩⟩)
  have HRC1 := Lib.hid (HRC.out.keeps K1.out (by simp))
  have HLE := Lib.hid (show ([] : List UInt8).length + pay.length ≤ 1000000 by have := HPL.out; simp; omega)
  have sW := W1.out.lt
  go_upto_region 5 with (first | (go_at_call 28; refine (HS.out _).mono ?_; rintro e w' ⟨rfl, rfl⟩) | (at_builtin; refine wpList_append_reads rfl _ _ rfl (w.heap.size + 1) (.slice none 0 0) [] rfl HO1.out (.slice p q c) pay M rfl HRC1.out HLE.out H0.out ?_; intro v3 w3 hown3 hk3; have HO3 := Lib.hid hown3; have HG3 := Lib.hid hk3; clear hown3 hk3))
  rw [List.nil_append] at HO3
  have k3 : Keeps [] w1 w3 := HG3.out.mono (by simp [Value.ownBlock])
  have s3 := k3.size
  obtain ⟨Mp, rp3, lp3⟩ := owns_reads HO3.out (by omega)
  have HRP := Lib.hid rp3
  have K3 := Lib.hid (K1.out.trans k3)
  have W3 := Lib.hid (W1.out.keeps k3 (by simp))
  obtain ⟨pa3, pc3, rfl⟩ := owns_shape2 HO3.out
  clear rp3 k3
  go_wp2_with fail
  refine (bytesOf_any _ _ pay Mp HRP.out (by rw [HPL.out]; exact hq)).mono ?_
  rintro e w4 ⟨v4, rfl, ho4, k4⟩
  have N4 := New.owns (l := recB pay) ho4 (by intro e; have := congrArg List.length e; rw [recB_length] at this; unfold sizeN at this; simp at this)
  obtain ⟨M4, hr4, _, _⟩ := N4
  have HR4 := Lib.hid hr4
  have HO4 := Lib.hid (World.ownsRow.keeps HO3.out k4 (by simp))
  have K4 := Lib.hid (K3.out.trans k4)
  have W4 := Lib.hid (W3.out.keeps k4 (by simp))
  clear ho4 k4 hr4
  have HPX := HasPrefix_ge w4 _ _ b (recB pay) M M4 (HR.out.keeps K4.out (by simp)) HR4.out HGE.out
  rw [HRB.out, ← HZ.out] at HPX
  rw [← HZ.out] at HRR
  have HPX' := Lib.hid HPX
  clear HPX
  by_cases hm : (b.take z == recB pay) = true
  · rw [hm] at HPX'
    have hR := HRR.out
    rw [if_pos (by simpa using hm)] at hR
    subst hR
    clear hm
    go_wp2_with (first | (go_at_call 110; refine HPX'.out.mono ?_; rintro e w' ⟨rfl, rfl⟩) | (go_at_call 28; refine (HS.out _).mono ?_; rintro e w' ⟨rfl, rfl⟩) | (refine wpList_build_at rfl 122 _ rfl _ (built_rec3 _ _ _ _ _) ?_) | (refine wpList_store_row rfl 122 _ _ rfl w.heap.size #[.int .i64 0, .int .i64 z, .int .u8 1, .slice pa3 pay.length pc3] rfl rfl 122 #[.int .i64 0, .int .i64 0, .int .u8 0, .slice none 0 0] W4.out (by rw [szRecord]; rfl) rfl (rec_one _ _ _ _ _ _) ?_))
    have W5 := W4.out.setRow [.int .i64 0, .int .i64 z, .int .u8 1, .slice pa3 pay.length pc3]
    refine bodyPost_ret (results_cell_row Tryz.results94 _ _ w.heap.size 122 #[.int .i64 0, .int .i64 z, .int .u8 1, .slice pa3 pay.length pc3] (0, 0) _ rfl W5 Tryz.underlying122 rfl (by rw [szRecord]; rfl)) rfl ?_
    refine ⟨pa3, pay.length, pc3, rfl, ?_, K4.out.then (Keeps.setRow (S := [w.heap.size]) _ (by simp) _) (fun x hx => .inr (by simp at hx; omega))⟩
    exact World.ownsRow.mono (World.ownsRow.keeps HO4.out (Keeps.setRow (S := [w.heap.size]) _ (by simp) _) (fun g hg => by have := (HO4.out.lt g hg).1; simp; omega)) (by omega)
  · have hm' : (b.take z == recB pay) = false := by simpa using hm
    rw [hm'] at HPX'
    have hR := HRR.out
    rw [if_neg (by simpa using hm)] at hR
    subst hR
    clear hm hm'
    go_wp2_with (first | (go_at_call 110; refine HPX'.out.mono ?_; rintro e w' ⟨rfl, rfl⟩) | (go_at_call 28; refine (HS.out _).mono ?_; rintro e w' ⟨rfl, rfl⟩) | (refine wpList_build_at rfl 122 _ rfl _ (built_rec2 _ _) ?_) | (refine wpList_store_row rfl 122 _ _ rfl w.heap.size #[.int .i64 0, .int .i64 z, .int .u8 2, .slice none 0 0] rfl rfl 122 #[.int .i64 0, .int .i64 0, .int .u8 0, .slice none 0 0] W4.out (by rw [szRecord]; rfl) rfl (rec_one _ _ _ _ _ _) ?_))
    have W5 := W4.out.setRow [.int .i64 0, .int .i64 z, .int .u8 2, .slice none 0 0]
    refine bodyPost_ret (results_cell_row Tryz.results94 _ _ w.heap.size 122 #[.int .i64 0, .int .i64 z, .int .u8 2, .slice none 0 0] (0, 0) _ rfl W5 Tryz.underlying122 rfl (by rw [szRecord]; rfl)) rfl ?_
    exact RecOut.none ⟨z, 2, []⟩ rfl (K4.out.then (Keeps.setRow (S := [w.heap.size]) _ (by simp) _) (fun x hx => .inr (by simp at hx; omega)))

/-- What stands at the begin of bytes. -/
theorem first_any (w : World) (v : Value) (b : List UInt8) (M : Nat) (h : Reads w v b M) (hl : b.length ≤ 100000) :
    Calls Tryz.prog 94 #[v] w (RecOut w (firstL b)) := by
  have hh := headLen_lenOf b
  cases hb : (lenOf b).2 with
  | false =>
    rw [hb] at hh
    have : firstL b = ⟨min 4 b.length, 3, []⟩ := by unfold firstL; rw [hh]; rfl
    rw [this]
    exact first_none w v b M h hl hb
  | true =>
    rw [hb, if_pos rfl] at hh
    have hq := (headLen_le hh).1
    by_cases hs : b.length < sizeN (lenOf b).1
    · have : firstL b = ⟨min 4 b.length, 3, []⟩ := by unfold firstL; rw [hh]; simp only; rw [if_pos hs]
      rw [this]
      exact first_short w v b M _ h hl (by rw [← hb]) hq hs
    · have : firstL b = if b.take (sizeN (lenOf b).1) = recB ((b.drop 4).take (lenOf b).1) then ⟨sizeN (lenOf b).1, 1, (b.drop 4).take (lenOf b).1⟩ else ⟨sizeN (lenOf b).1, 2, []⟩ := by
        unfold firstL; rw [hh]; simp only; rw [if_neg hs]
      rw [this]
      exact first_long w v b M _ h hl (by rw [← hb]) hq (by omega)

/-- What stands at the begin of bytes: nothing, too. -/
def atL (b : List UInt8) : R4 := if writtenN b = 0 then ⟨b.length, 0, []⟩ else firstL b

set_option maxRecDepth 100000 in
set_option maxHeartbeats 1000000 in
theorem At_any (w : World) (v : Value) (b : List UInt8) (M : Nat) (h : Reads w v b M) (hl : b.length ≤ 100000) :
    Calls Tryz.prog 70 #[v] w (RecOut w (atL b)) := by
  obtain ⟨a, cap, rfl, hcap⟩ := h.shape
  have HR := Lib.hid h
  obtain ⟨kV, w0⟩ := rec_start w
  by_cases h0 : writtenN b = 0
  · have e : atL b = ⟨b.length, 0, []⟩ := if_pos h0
    rw [e]
    have HW := Lib.hid (written_any (w.alloc (.cells #[.int .i64 0, .int .i64 0, .int .u8 0, .slice none 0 0] 122)) _ b M (h.keeps kV (by simp)) hl)
    rw [h0] at HW
    generalize b.length = n at *
    clear h e h0
    go_enter Tryz.func70, Tryz.ntmps70
    go_wp2_with fail
    generalize World.alloc w _ = V at *
    refine HW.out.mono ?_
    rintro e w' ⟨rfl, rfl⟩
    have KV := Lib.hid kV
    have W0 := Lib.hid w0
    clear kV w0
    go_wp2_with (first | (refine wpList_build_at rfl 122 _ rfl _ (built_rec2 _ _) ?_) | (refine wpList_store_row rfl 122 _ _ rfl w.heap.size #[.int .i64 0, .int .i64 n, .int .u8 0, .slice none 0 0] rfl rfl 122 #[.int .i64 0, .int .i64 0, .int .u8 0, .slice none 0 0] W0.out (by rw [szRecord]; rfl) rfl (rec_one _ _ _ _ _ _) ?_))
    have W5 := W0.out.setRow [.int .i64 0, .int .i64 n, .int .u8 0, .slice none 0 0]
    refine bodyPost_ret (results_cell_row Tryz.results70 _ _ w.heap.size 122 #[.int .i64 0, .int .i64 n, .int .u8 0, .slice none 0 0] (0, 0) _ rfl W5 Tryz.underlying122 rfl (by rw [szRecord]; rfl)) rfl ?_
    exact RecOut.none ⟨n, 0, []⟩ rfl (KV.out.then (Keeps.setRow (S := [w.heap.size]) _ (by simp) _) (fun x hx => .inr (by simp at hx; omega)))
  · have e : atL b = firstL b := if_neg h0
    rw [e]
    have HW := Lib.hid (written_any (w.alloc (.cells #[.int .i64 0, .int .i64 0, .int .u8 0, .slice none 0 0] 122)) _ b M (h.keeps kV (by simp)) hl)
    have hne : (((writtenN b : Int) == 0) : Bool) = false := by simp; omega
    have hne2 : ((writtenN b == 0) : Bool) = false := by simpa using h0
    generalize writtenN b = z at *
    have HF := Lib.hid (first_any (w.alloc (.cells #[.int .i64 0, .int .i64 0, .int .u8 0, .slice none 0 0] 122)) _ b M (h.keeps kV (by simp)) hl)
    generalize b.length = n at *
    clear h e h0
    go_enter Tryz.func70, Tryz.ntmps70
    go_wp2_with fail
    generalize World.alloc w _ = V at *
    refine HW.out.mono ?_
    rintro e w' ⟨rfl, rfl⟩
    have KV := Lib.hid kV
    have W0 := Lib.hid w0
    have sV := w0.lt
    clear kV w0
    go_wp2_with fail
    refine HF.out.mono ?_
    rintro e w1 ⟨pa, pn, pc, rfl, ho, k1⟩
    have HO := Lib.hid ho
    have K1 := Lib.hid (KV.out.trans k1)
    have W1 := Lib.hid (W0.out.keeps k1 (by simp))
    clear ho k1
    generalize hR : firstL b = R at *
    clear hR
    dsimp only [recCells, List.toArray] at *
    go_wp2_with (first | (refine wpList_store_row rfl 122 _ _ rfl w.heap.size #[.int .i64 0, .int .i64 R.size, .int .u8 (R.kind.toNat : Int), .slice pa pn pc] rfl rfl 122 #[.int .i64 0, .int .i64 0, .int .u8 0, .slice none 0 0] W1.out (by rw [szRecord]; rfl) rfl (rec_one _ _ _ _ _ _) ?_))
    have W5 := W1.out.setRow [.int .i64 0, .int .i64 R.size, .int .u8 (R.kind.toNat : Int), .slice pa pn pc]
    refine bodyPost_ret (results_cell_row Tryz.results70 _ _ w.heap.size 122 #[.int .i64 0, .int .i64 R.size, .int .u8 (R.kind.toNat : Int), .slice pa pn pc] (0, 0) _ rfl W5 Tryz.underlying122 rfl (by rw [szRecord]; rfl)) rfl ?_
    refine ⟨pa, pn, pc, rfl, ?_, K1.out.then (Keeps.setRow (S := [w.heap.size]) _ (by simp) _) (fun x hx => .inr (by simp at hx; omega))⟩
    exact World.ownsRow.mono (World.ownsRow.keeps HO.out (Keeps.setRow (S := [w.heap.size]) _ (by simp) _) (fun g hg => by have := (HO.out.lt g hg).1; simp; omega)) (by omega)
end Go.Proofs.YtlnmbfddhdjioaaGreat
