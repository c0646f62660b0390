/-
  The document's stack: Roll.
-/
import Derived.Test.YtdeiehcblfiepaaStkRefB
namespace Go.Proofs.Ytdeiehcblfiepaa
open Go.RowKit
set_option linter.unusedVariables false

section
variable {most over under : Int} {l : List (BitVec 32)}

theorem sets4 (w : World) (R : Nat) (b c d e : Value) : Keeps [R] w ((((w.setCell ⟨R, 0, none⟩ b).setCell ⟨R, 1, none⟩ c).setCell ⟨R, 2, none⟩ d).setCell ⟨R, 3, none⟩ e) :=
  (((Keeps.setCell _ (by simp) _).trans (Keeps.setCell _ (by simp) _)).trans (Keeps.setCell _ (by simp) _)).trans (Keeps.setCell _ (by simp) _)

/-- What stands in the new list behind k cells: all but the p-th. -/
def outL (l : List (BitVec 32)) (p k : Nat) : List (BitVec 32) := (l.take k).eraseIdx p
theorem outL_zero (l : List (BitVec 32)) (p : Nat) : outL l p 0 = [] := by simp [outL]
theorem outL_skip (l : List (BitVec 32)) (p : Nat) (hp : p < l.length) : outL l p (p + 1) = outL l p p := by
  unfold outL
  rw [List.take_succ_eq_append_getElem hp]
  have h1 : (l.take p).length = p := by simp; omega
  rw [List.eraseIdx_append_of_length_le (by omega), h1, Nat.sub_self, show (l.take p).eraseIdx p = l.take p from List.eraseIdx_of_length_le (by omega)]
  exact List.append_nil _
theorem outL_more (l : List (BitVec 32)) (p k : Nat) (hk : k < l.length) (hne : k ≠ p) : outL l p (k + 1) = outL l p k ++ [l[k]] := by
  unfold outL
  rw [List.take_succ_eq_append_getElem hk]
  have h1 : (l.take k).length = k := by simp; omega
  rcases Nat.lt_or_ge p k with h | h
  · rw [List.eraseIdx_append_of_lt_length (by omega)]
  · rw [List.eraseIdx_of_length_le (by simp; omega), List.eraseIdx_of_length_le (by omega)]
theorem outL_all (l : List (BitVec 32)) (p : Nat) : outL l p l.length = l.take p ++ l.drop (p + 1) := by
  unfold outL
  rw [List.take_length, List.eraseIdx_eq_take_drop_succ]
theorem outL_len (l : List (BitVec 32)) (p k : Nat) : (outL l p k).length ≤ l.length := by
  unfold outL
  have := List.length_eraseIdx_le (l.take k) p
  simp at this; omega

set_option maxRecDepth 100000 in
set_option maxHeartbeats 8000000 in
theorem r8Roll_in (w : World) (a : Option Addr) (c : Nat) (M o : Nat) (h : UReads w (.slice a l.length c) l M o) (hl : (l.length : Int) ≤ most) (hm : most ≤ 4096) (hu : -2147483648 ≤ under ∧ under < 0) (i : Nat) (hi : i < l.length) :
    Calls Try.prog 19 #[docV a l.length c most over under, .int .i64 i] w (DocPost True w l a c M o most over under (rollL l i) 0) := by
  obtain ⟨p, hp⟩ : ∃ p, p = l.length - 1 - i := ⟨_, rfl⟩
  have hpl : p < l.length := by omega
  have hroll : rollL l i = (l.take p ++ l.drop (p + 1)) ++ [l[p]] := by
    unfold rollL
    rw [if_pos ⟨by omega, by omega⟩, Int.toNat_natCast, ← hp, List.getD_eq_getElem?_getD, List.getElem?_eq_getElem hpl]
    rfl
  have hpk : peekX l i = l[p] := by
    unfold peekX; rw [if_pos ⟨by omega, by omega⟩, Int.toNat_natCast, ← hp, List.getD_eq_getElem?_getD, List.getElem?_eq_getElem hpl]
    rfl
  have hpt : peekT l i under = 0 := by unfold peekT; rw [if_pos ⟨by omega, by omega⟩]
  have HPK := Lib.hid (fun (U : World) (hU : Keeps [] w U) => show Calls Try.prog 16 #[.agg #[.slice a l.length c, .int .i64 most, .int .i32 over, .int .i32 under], .int .i64 i] U fun e w' => e = .returned (.tuple #[uv l[p], .int .i32 0]) ∧ Keeps [] U w' from by
    have := r8Peek_any (most := most) (over := over) U a c M o (h.keeps hU (by simp)) (by omega) hu i
    rwa [hpk, hpt] at this)
  obtain ⟨c', e1, hcl, hcells⟩ := h.cells (by intro e; simp [e] at hi)
  injection e1 with e1 _ e2
  subst e1 e2
  obtain ⟨y, hy⟩ : ∃ y : Int, y = (l[p]).toNat := ⟨_, rfl⟩
  have HY := Lib.hid hy
  have hx : uv l[p] = .int .u32 y := by rw [hy]
  rw [hx] at HPK
  have HC := Lib.hid hcells
  have HMl := h.lt (by intro e; simp [e] at hi)
  rw [hroll]
  unfold docV
  obtain ⟨n, hn⟩ : ∃ n, n = l.length := ⟨_, rfl⟩
  have HS := Lib.hid (show l.length = n ∧ p < l.length from ⟨hn.symm, hpl⟩)
  rw [← hn] at HPK hl hcl hi ⊢
  have ep : (n : Int) - 1 - (i : Int) = (p : Int) := by omega
  have hpn : p < n := by omega
  generalize hxe : l[p] = x at *
  clear h hpk hpt hroll hcells hx hy hp hn hpl hxe
  go_enter Try.func19, Try.ntmps19
  go_upto_region 1 with fail
  generalize hV : World.alloc _ _ = V
  have kV : Keeps [] w V := by rw [← hV]; exact (Keeps.alloc [] _ _).trans (Keeps.alloc [] _ _)
  have vs : V.heap.size = w.heap.size + 2 := by rw [← hV]; simp
  have wB : Whole V w.heap.size 30 [.slice (some ⟨M, o, none⟩) n c, .int .i64 most, .int .i32 over, .int .i32 under] := by
    rw [← hV]; exact (Whole.new w 30 [.slice (some ⟨M, o, none⟩) n c, .int .i64 most, .int .i32 over, .int .i32 under]).keeps (Keeps.alloc [] _ _) (by simp)
  have wR : Whole V (w.heap.size + 1) 30 [.slice none 0 0, .int .i64 0, .int .i32 0, .int .i32 0] := by
    rw [← hV]; exact Whole.new_at _ 30 [.slice none 0 0, .int .i64 0, .int .i32 0, .int .i32 0] _ (by simp)
  have KV := Lib.hid kV
  have WB := Lib.hid wB
  have WR := Lib.hid wR
  have hB := wB.lt
  have hR := wR.lt
  have d0 := wB.cell 0; have d1 := wB.cell 1; have d2 := wB.cell 2; have d3 := wB.cell 3
  simp only [List.getElem?_cons_zero, List.getElem?_cons_succ] at d0 d1 d2 d3
  have VS := Lib.hid vs
  clear hV kV wR wB vs
  go_upto_region 4 with (go_at_call 16; refine (HPK.out _ KV.out).mono ?_; rintro e w1 ⟨rfl, hk1⟩; have K1 := Lib.hid hk1; clear hk1 d0 d1 d2 d3)
  clear HPK
  go_upto_region 6 with fail
  go_loopw [8, 9] (fun ov kv wr => ∃ k : Nat, k ≤ n ∧ kv = .int .i64 k ∧ Hid (wr.ownsRow V.heap.size 40 1 ov (outL l p k).length ((outL l p k).map uv)) ∧ Hid (Keeps [] V wr)) (fun _ kv _ => n - (intOf kv).toNat)
  case atStart => exact ⟨0, by omega, rfl, Lib.hid (by rw [outL_zero]; exact ⟨by simp, .inl ⟨rfl, rfl⟩⟩), K1⟩
  case round =>
    obtain ⟨k, hk, rfl, ho, hkw⟩ := hrel
    have q0 := (WB.out.keeps hkw.out (by simp)).cell 0
    simp only [List.getElem?_cons_zero] at q0
    by_cases hlt : k < n
    · have hki : (k : Int) < n := by omega
      by_cases hkp : k = p
      · subst hkp
        have HO := Lib.hid (show wr.ownsRow V.heap.size 40 1 u8 (outL l k (k + 1)).length ((outL l k (k + 1)).map uv) from by
          rw [outL_skip l k HS.out.2]; exact ho.out)
        clear ho
        go_wp2
        go_roundw
        case rel => exact ⟨k + 1, by omega, by go_num, HO, hkw⟩
        case measure => simp [intOf]; omega
      · have hkpi : (k : Int) ≠ p := by omega
        have hkl : k < l.length := by have := HS.out; omega
        obtain ⟨z, hz⟩ : ∃ z : Int, z = (l[k]).toNat := ⟨_, rfl⟩
        have q := (KV.out.trans hkw.out).cell (HC.out k l[k] (List.getElem?_eq_getElem hkl)) (by simp)
        have hq : uv l[k] = .int .u32 z := by rw [hz]
        rw [hq] at q
        have HX1 := Lib.hid (UReads.one wr z l[k] hz 40)
        have HE := Lib.hid (outL_more l p k hkl hkp)
        have HLN := Lib.hid (outL_len l p k)
        have HO1 := Lib.hid (World.ownsRow.keeps ho.out (Keeps.alloc [] wr (.cells #[Value.int .u32 z] 40)) (by simp))
        have HMw := (KV.out.trans hkw.out).size
        clear hz hq ho
        generalize l[k] = zz at *
        go_wp2_with (first
          | (at_builtin; refine wpList_append_u rfl _ _ rfl V.heap.size u8 (outL l p k) rfl HO1.out _ [zz] _ 0 rfl HX1.out (by have := HLN.out; have := HS.out; simp; omega) (by have := hkw.out.size; simp; omega) ?_
             intro v4 w4 ho4 hk4 _
             rw [← HE.out] at ho4
             have HO4 := Lib.hid ho4
             have K4 := Lib.hid ((hkw.out.trans (Keeps.alloc [] wr (.cells #[Value.int .u32 z] 40))).then hk4 (fun x hx => .inr (HO1.out.lt x (by simpa using hx)).1))
             clear ho4 hk4))
        go_roundw
        case rel => exact ⟨k + 1, by omega, by go_num, HO4, K4⟩
        case measure => simp [intOf]; omega
    · obtain rfl : k = n := by omega
      have HO := Lib.hid (show wr.ownsRow V.heap.size 40 1 u8 (l.take p ++ l.drop (p + 1)).length ((l.take p ++ l.drop (p + 1)).map uv) from by
        have := ho.out
        rwa [show outL l p k = l.take p ++ l.drop (p + 1) by rw [← HS.out.1]; exact outL_all l p] at this)
      have HX1 := Lib.hid (UReads.one wr y x HY.out 40)
      have HO1 := Lib.hid (World.ownsRow.keeps HO.out (Keeps.alloc [] wr (.cells #[Value.int .u32 y] 40)) (by simp))
      have HLN := Lib.hid (show (l.take p ++ l.drop (p + 1)).length = k - 1 from by have := HS.out; simp; omega)
      have hk1 : 1 ≤ k := by omega
      clear ho HO
      go_upto_region 11 with (first
        | (at_builtin; refine wpList_append_u rfl _ _ rfl V.heap.size u8 (l.take p ++ l.drop (p + 1)) rfl HO1.out _ [x] _ 0 rfl HX1.out (by rw [HLN.out]; simp; omega) (by have := hkw.out.size; simp; omega) ?_
           intro v4 w4 ho4 hk4 _
           have el : (l.take p ++ l.drop (p + 1) ++ [x]).length = k := by rw [List.length_append, HLN.out]; simp; omega
           rw [el] at ho4
           obtain ⟨a4, c4, rfl⟩ := owns_shape2 ho4
           have HO4 := Lib.hid ho4
           have K4v := Lib.hid ((hkw.out.trans (Keeps.alloc [] wr (.cells #[Value.int .u32 y] 40))).then hk4 (fun x hx => .inr (HO1.out.lt x (by simpa using hx)).1))
           have K4 := Lib.hid (KV.out.trans K4v.out)
           have WB4 := Lib.hid (WB.out.keeps K4v.out (by simp))
           have WR4 := Lib.hid (WR.out.keeps K4v.out (by simp))
           have e0 := WB4.out.cell 0; have e1 := WB4.out.cell 1; have e2 := WB4.out.cell 2; have e3 := WB4.out.cell 3
           have f0 := WB4.out.frozen 0
           have g0 := WR4.out.cell 0; have g1 := WR4.out.cell 1; have g2 := WR4.out.cell 2; have g3 := WR4.out.cell 3
           have h0 := WR4.out.frozen 0; have h1 := WR4.out.frozen 1; have h2 := WR4.out.frozen 2; have h3 := WR4.out.frozen 3
           simp only [List.getElem?_cons_zero, List.getElem?_cons_succ] at e0 e1 e2 e3 g0 g1 g2 g3
           clear ho4 hk4 q0 el))
      go_wp2
      obtain ⟨M', o', hd, hs'⟩ := doc_end trivial (l := l) (l' := l.take p ++ l.drop (p + 1) ++ [x]) (a := some ⟨M, o, none⟩) (c := c) (M := M) (o := o) (s := k) (S := [w.heap.size, w.heap.size + 1]) K4.out HO4.out (by intro y hy; simp at hy; have := VS.out; omega) (by omega) (sets5 w4 w.heap.size (w.heap.size + 1) _ _ _ _ _)
      exact bodyPost_ret (v := .tuple #[docV a4 k c4 most over under, .int .i32 0]) (by simp [results, Try.results19, go_sem, g0, g1, g2, g3]) rfl (DocPost.mk a4 c4 M' o' (by rw [← hs']) hd)

set_option maxRecDepth 100000 in
set_option maxHeartbeats 4000000 in
theorem r8Roll_any (w : World) (a : Option Addr) (c : Nat) (M o : Nat) (h : UReads w (.slice a l.length c) l M o) (hl : (l.length : Int) ≤ most) (hm : most ≤ 4096) (hu : -2147483648 ≤ under ∧ under < 0) (i : Int) :
    Calls Try.prog 19 #[docV a l.length c most over under, .int .i64 i] w (DocPost (0 ≤ i ∧ i < l.length) w l a c M o most over under (rollL l i) (peekT l i under)) := by
  by_cases hi : 0 ≤ i ∧ i < l.length
  · obtain ⟨h0, h1⟩ := hi
    obtain ⟨k, rfl⟩ := Int.eq_ofNat_of_zero_le h0
    rw [show peekT l k under = 0 by unfold peekT; rw [if_pos ⟨h0, h1⟩]]
    have ht : (0 ≤ (k : Int) ∧ (k : Int) < l.length) = True := eq_true ⟨h0, h1⟩
    rw [ht]
    exact r8Roll_in w a c M o h hl hm hu k (by omega)
  · have hpt : peekT l i under = under := by unfold peekT; rw [if_neg hi]
    have hrl : rollL l i = l := by unfold rollL; rw [if_neg hi]
    rw [hpt, hrl]
    have HNC := Lib.hid hi
    generalize hCg : (0 ≤ i ∧ i < (l.length : Int)) = C at HNC ⊢
    have HPK := Lib.hid (fun (U : World) (hU : Keeps [] w U) => show Calls Try.prog 16 #[.agg #[.slice a l.length c, .int .i64 most, .int .i32 over, .int .i32 under], .int .i64 i] U fun e w' => e = .returned (.tuple #[uv (peekX l i), .int .i32 under]) ∧ Keeps [] U w' from by
      have := r8Peek_any (most := most) (over := over) U a c M o (h.keeps hU (by simp)) (by omega) hu i
      rwa [hpt] at this)
    have HH := Lib.hid h
    unfold docV
    obtain ⟨n, hn⟩ : ∃ n, n = l.length := ⟨_, rfl⟩
    have HS := Lib.hid (show l.length = n from hn.symm)
    rw [← hn] at HPK HH ⊢
    have hu2 := hu.2
    clear h hn hpt hrl hi hl hu hCg
    go_enter Try.func19, Try.ntmps19
    go_upto_region 1 with fail
    generalize hV : World.alloc _ _ = V
    have kV : Keeps [] w V := by rw [← hV]; exact (Keeps.alloc [] _ _).trans (Keeps.alloc [] _ _)
    have wB : Whole V w.heap.size 30 [.slice a n c, .int .i64 most, .int .i32 over, .int .i32 under] := by
      rw [← hV]; exact (Whole.new w 30 [.slice a n c, .int .i64 most, .int .i32 over, .int .i32 under]).keeps (Keeps.alloc [] _ _) (by simp)
    have wR : Whole V (w.heap.size + 1) 30 [.slice none 0 0, .int .i64 0, .int .i32 0, .int .i32 0] := by
      rw [← hV]; exact Whole.new_at _ 30 [.slice none 0 0, .int .i64 0, .int .i32 0, .int .i32 0] _ (by simp)
    have KV := Lib.hid kV
    have WB := Lib.hid wB
    have WR := Lib.hid wR
    have d0 := wB.cell 0; have d1 := wB.cell 1; have d2 := wB.cell 2; have d3 := wB.cell 3
    simp only [List.getElem?_cons_zero, List.getElem?_cons_succ] at d0 d1 d2 d3
    clear hV kV wR wB
    generalize hX : uv (peekX l i) = X at *
    go_wp2_with (first
      | (go_at_call 16; refine (HPK.out _ KV.out).mono ?_; rintro e w4 ⟨rfl, hk1⟩
         have K1 := Lib.hid hk1; have WB4 := Lib.hid (WB.out.keeps hk1 (by simp)); have WR4 := Lib.hid (WR.out.keeps hk1 (by simp))
         have e0 := WB4.out.cell 0; have e1 := WB4.out.cell 1; have e2 := WB4.out.cell 2; have e3 := WB4.out.cell 3
         have g0 := WR4.out.cell 0; have g1 := WR4.out.cell 1; have g2 := WR4.out.cell 2; have g3 := WR4.out.cell 3
         have h0 := WR4.out.frozen 0; have h1 := WR4.out.frozen 1; have h2 := WR4.out.frozen 2; have h3 := WR4.out.frozen 3
         simp only [List.getElem?_cons_zero, List.getElem?_cons_succ] at e0 e1 e2 e3 g0 g1 g2 g3
         clear hk1 d0 d1 d2 d3))
    have KK := (KV.out.trans K1.out).then (sets4 w4 (w.heap.size + 1) (.slice a n c) (.int .i64 most) (.int .i32 over) (.int .i32 under)) (fun x hx => .inr (by simp at hx; omega))
    exact bodyPost_ret (v := .tuple #[docV a n c most over under, .int .i32 under]) (by simp [results, Try.results19, go_sem, g0, g1, g2, g3]) rfl (DocPost.mk a c M o (by rw [HS.out]) ⟨(by rw [HS.out]; exact HH.out.keeps KK (by simp)), KK, fun h => absurd h HNC.out, fun _ => ⟨rfl, rfl⟩⟩)
end
end Go.Proofs.Ytdeiehcblfiepaa
