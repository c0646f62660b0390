/-
  The document's Long, Starts, start.
-/
import Derived.Test.YtfnjjanknfmibaaPmRefD
import Derived.Test.YtfnjjanknfmibaaPmStarts
namespace Go.Proofs.Ytfnjjanknfmibaa
open Go.RowKit Go.Deep
set_option linter.unusedVariables false

theorem UReads.cell' {w : World} {v : Value} {c : List (BitVec 32)} {M off : Nat} (h : UReads w v c M off) {k : Nat} {x : BitVec 32} (hx : c[k]? = some x) : ∃ cap, v = .slice (some ⟨M, off, none⟩) c.length cap ∧ w.cell? ⟨M, off + k, none⟩ = some (.int .u32 (x.toNat : Int)) ∧ M < w.heap.size := by
  obtain ⟨cap, e, _, hc⟩ := h.cells (by intro e; rw [e] at hx; cases hx)
  exact ⟨cap, e, hc k x hx, World.block_lt_of_cell? w _ (hc k x hx)⟩

set_option maxRecDepth 100000 in
set_option maxHeartbeats 2000000 in
theorem r11Long_any (w : World) (v : Value) (c : List (BitVec 32)) (M off : Nat) (h : UReads w v c M off) (hm : c.length ≤ maxLen) (i : Int) :
    Calls Try.prog 15 #[v, .int .i64 i] w fun e w' => e = .returned (.int .i64 (longAt c i : Int)) ∧ Keeps [] w w' := by
  obtain ⟨n, hn⟩ : ∃ n, n = c.length := ⟨_, rfl⟩
  unfold longAt
  by_cases hlt : 0 ≤ i ∧ i < (c.length : Int)
  · rw [if_pos hlt]
    obtain ⟨k, rfl⟩ : ∃ k : Nat, i = (k : Int) := ⟨i.toNat, by omega⟩
    obtain ⟨hlo, hhi⟩ := hlt
    rw [Int.toNat_natCast]
    have hkc : k < c.length := by omega
    obtain ⟨x, hx⟩ : ∃ x, c[k]? = some x := ⟨_, List.getElem?_eq_getElem hkc⟩
    obtain ⟨cap, rfl, hc0, hMw⟩ := h.cell' hx
    have hd : c.drop k = x :: c.drop (k + 1) := by
      rw [List.drop_eq_getElem_cons hkc]
      have := (List.getElem?_eq_some_iff.1 hx).2
      rw [this]
    have HCK := Lib.hid hc0
    have HC1 := Lib.hid (show ∀ y, c[k + 1]? = some y → w.cell? ⟨M, off + (k + 1), none⟩ = some (.int .u32 (y.toNat : Int)) from fun y hy => by
      obtain ⟨cap2, e2, hc1, _⟩ := h.cell' hy
      exact hc1)
    rw [hd, longC_cons]
    obtain ⟨m, hmr⟩ : ∃ m, m = (c.drop (k + 1)).length := ⟨_, rfl⟩
    have hnm : c.length = k + 1 + m := by rw [hmr, List.length_drop]; omega
    unfold longX
    rw [← hmr]
    have HG1 := Lib.hid (show (1 ≤ m → ∃ y, c[k + 1]? = some y ∧ (c.drop (k + 1)).getD 0 0 = y) from fun h1 => by
      obtain ⟨y, hy⟩ : ∃ y, c[k + 1]? = some y := ⟨_, List.getElem?_eq_getElem (by omega)⟩
      exact ⟨y, hy, by rw [List.getD_eq_getElem?_getD, List.getElem?_drop, Nat.add_zero, hy]; rfl⟩)
    generalize (c.drop (k + 1)).getD 0 0 = y0 at *
    rw [← hn] at hm hnm
    obtain ⟨X, hX⟩ : ∃ X, X = x.toNat := ⟨_, rfl⟩
    rw [← hX] at hc0 ⊢
    have hlo' : ¬ ((k : Int) < 0) := by omega
    have hhi' : ¬ ((k : Int) ≥ (n : Int)) := by omega
    have hhi2 : k < n := by omega
    have hml : maxLen = 9223372036854775807 := rfl
    have HM := Lib.hid hm
    have hnB : (n : Int) ≤ 9223372036854775807 := by omega
    have HXX := Lib.hid hX
    rw [← hn]
    clear hx hd hmr hlo hhi hkc h hX hn
    by_cases h256 : 256 ≤ X
    · rw [if_pos h256]
      have q : (256 : Int) ≤ (X : Int) := by omega
      clear h256
      go_enter Try.func15, Try.ntmps15
      go_wp2
      go_ret
      exact ⟨rfl, Keeps.refl _ _⟩
    · rw [if_neg h256]
      have q : ¬ (256 : Int) ≤ (X : Int) := by omega
      have HGET := Lib.hid (r11Get_any w X)
      have HB7 := Lib.hid (fun (U : World) (n1 t g o : Int) (s : ByteArray) (tx jp : Bool) => (Whole.new U 27 [.int .u32 n1, .string s, .int .i64 t, .int .i64 g, .int .i64 o, .bool tx, .bool jp]).prim)
      have hgt := fun p (hp : getP X = some p) => getP_text hp
      cases hp : getP X with
      | none =>
        rw [hp] at HGET
        simp only [pOf, Option.getD_none, Option.isSome_none] at HGET
        rw [pmv_lit] at HGET
        clear hp hgt h256 hnm
        go_enter Try.func15, Try.ntmps15
        go_upto_region 6 with (go_at_call 11; refine HGET.out.mono ?_; rintro e w1 ⟨rfl, hk⟩; have HK := Lib.hid hk; clear hk)
        obtain ⟨p0, p1, p2, p3, p4, p5, p6⟩ := HB7.out w1 ((noP).num : Int) ((noP).takes : Int) ((noP).gives : Int) ((noP).ops : Int) ⟨(noP).name.toArray⟩ (noP).text (noP).jump
        go_wp2
        go_ret
        exact ⟨rfl, HK.out.trans (Keeps.alloc [] _ _)⟩
      | some p =>
        rw [hp] at HGET
        simp only [pOf, Option.getD_some, Option.isSome_some] at HGET
        rw [pmv_lit] at HGET
        obtain ⟨t1, t2, _⟩ := hgt p hp
        dsimp only
        clear hp hgt
        have HT2 := Lib.hid (fun h => (t2 h).1)
        clear t2
        generalize (p.num : Int) = a at *
        generalize ByteArray.mk p.name.toArray = st at *
        generalize (p.takes : Int) = tk at *
        generalize (p.gives : Int) = gv at *
        obtain ⟨op, hop⟩ : ∃ op, op = p.ops := ⟨_, rfl⟩
        rw [← hop] at t1 HT2 HGET ⊢
        clear hop
        obtain ⟨N1, hN1⟩ : ∃ N1 : Int, N1 = 1 + (op : Int) := ⟨_, rfl⟩
        have e1 : 1 + (op : Int) = N1 := hN1.symm
        have e2 : (n : Int) - (k : Int) = (m : Int) + 1 := by omega
        obtain ⟨D, hD⟩ : ∃ D : Int, D = (m : Int) + 1 := ⟨_, rfl⟩
        have e3 : (n : Int) - (k : Int) = D := by omega
        have N0 : 0 ≤ N1 := by omega
        have N2 : N1 ≤ 3 := by omega
        have D0 : 0 ≤ D := by omega
        have D1 : D ≤ 9223372036854775807 := by omega
        have HN1 := Lib.hid hN1
        have HD := Lib.hid hD
        have HNM := Lib.hid hnm
        clear hN1 hD hnm e2 h256
        by_cases hs : m + 1 < 1 + op
        · rw [if_pos hs]
          have q1 : decide (D < N1) = true := decide_eq_true (by have := HN1.out; have := HD.out; omega)
          clear hs
          generalize p.text = tx at *
          generalize p.jump = jp at *
          go_enter Try.func15, Try.ntmps15
          go_upto_region 6 with (go_at_call 11; refine HGET.out.mono ?_; rintro e w1 ⟨rfl, hk⟩; have HK := Lib.hid hk; clear hk)
          obtain ⟨p0, p1, p2, p3, p4, p5, p6⟩ := HB7.out w1 a tk gv (op : Int) st tx jp
          go_wp2
          go_ret
          exact ⟨rfl, HK.out.trans (Keeps.alloc [] _ _)⟩
        · rw [if_neg hs]
          have q1 : decide (D < N1) = false := decide_eq_false (by have := HN1.out; have := HD.out; omega)
          cases htx : p.text with
          | false =>
            rw [htx] at HGET
            simp only [Bool.false_eq_true, if_false]
            generalize p.jump = jp at *
            clear hs htx HT2
            go_enter Try.func15, Try.ntmps15
            go_upto_region 6 with (go_at_call 11; refine HGET.out.mono ?_; rintro e w1 ⟨rfl, hk⟩; have HK := Lib.hid hk; clear hk)
            obtain ⟨p0, p1, p2, p3, p4, p5, p6⟩ := HB7.out w1 a tk gv (op : Int) st false jp
            go_wp2
            go_ret
            exact ⟨by rw [HN1.out]; exact congrArg (fun z => Ending.returned (.int .i64 z)) (by omega), HK.out.trans (Keeps.alloc [] _ _)⟩
          | true =>
            rw [htx] at HGET
            simp only [if_true]
            have hop1 := HT2.out htx
            obtain ⟨y, hy, hy0⟩ := HG1.out (by omega)
            have HCY := Lib.hid (HC1.out y hy)
            subst hy0
            obtain ⟨Y, hY⟩ : ∃ Y, Y = y0.toNat := ⟨_, rfl⟩
            rw [← hY] at HCY ⊢
            have hYl : Y < 4294967296 := by rw [hY]; exact y0.isLt
            have hk1 : k + 1 < n := by have := HNM.out; omega
            have hk1' : (k : Int) + 1 < (n : Int) := by omega
            have hk2 : (0 : Int) ≤ (k : Int) + 1 := by omega
            have hk3 : ((k : Int) + 1).toNat = k + 1 := by omega
            generalize p.jump = jp at *
            clear hs htx HT2 hy hY hop1
            by_cases hy1 : 1000 < Y
            · rw [if_pos hy1]
              have q2 : decide ((1000 : Int) < (Y : Int)) = true := decide_eq_true (by omega)
              clear hy1
              go_enter Try.func15, Try.ntmps15
              go_upto_region 6 with (go_at_call 11; refine HGET.out.mono ?_; rintro e w1 ⟨rfl, hk⟩; have HK := Lib.hid hk; clear hk)
              obtain ⟨p0, p1, p2, p3, p4, p5, p6⟩ := HB7.out w1 a tk gv (op : Int) st true jp
              have cy := (HK.out.trans (Keeps.alloc [] w1 (.cells #[.int .u32 a, .string st, .int .i64 tk, .int .i64 gv, .int .i64 (op : Int), .bool true, .bool jp] 27))).cell HCY.out (by simp)
              have hM1 : M < w1.heap.size := Nat.lt_of_lt_of_le hMw HK.out.size
              go_wp2
              go_ret
              exact ⟨rfl, HK.out.trans (Keeps.alloc [] _ _)⟩
            · rw [if_neg hy1]
              have q2 : decide ((1000 : Int) < (Y : Int)) = false := decide_eq_false (by omega)
              obtain ⟨Z, hZ⟩ : ∃ Z : Int, Z = (Y : Int) + 3 := ⟨_, rfl⟩
              obtain ⟨R, hR⟩ : ∃ R : Int, R = (((Y + 3) / 4 : Nat) : Int) := ⟨_, rfl⟩
              have z1 : (Y : Int) + 3 = Z := hZ.symm
              have z2 : Z / 4 = R := by omega
              have z3 : Z.tdiv 4 = R := by rw [Int.tdiv_eq_ediv_of_nonneg (by omega), z2]
              obtain ⟨T, hT⟩ : ∃ T : Int, T = N1 + R := ⟨_, rfl⟩
              have z4 : N1 + R = T := hT.symm
              have Z0 : 0 ≤ Z := by omega
              have Z9 : Z ≤ 1003 := by omega
              have R0 : 0 ≤ R := by omega
              have R9 : R ≤ 251 := by omega
              have T0 : 0 ≤ T := by omega
              have T9 : T ≤ 254 := by omega
              have hYs : (Y : Int) ≤ 1000 := by omega
              by_cases hs2 : m + 1 < 1 + op + (Y + 3) / 4
              · rw [if_pos hs2]
                have q3 : decide (D < T) = true := decide_eq_true (by have := HN1.out; have := HD.out; omega)
                clear hs2 hy1 hZ hR hT
                go_enter Try.func15, Try.ntmps15
                go_upto_region 6 with (go_at_call 11; refine HGET.out.mono ?_; rintro e w1 ⟨rfl, hk⟩; have HK := Lib.hid hk; clear hk)
                obtain ⟨p0, p1, p2, p3, p4, p5, p6⟩ := HB7.out w1 a tk gv (op : Int) st true jp
                have cy := (HK.out.trans (Keeps.alloc [] w1 (.cells #[.int .u32 a, .string st, .int .i64 tk, .int .i64 gv, .int .i64 (op : Int), .bool true, .bool jp] 27))).cell HCY.out (by simp)
                have hM1 : M < w1.heap.size := Nat.lt_of_lt_of_le hMw HK.out.size
                go_wp2
                go_ret
                exact ⟨rfl, HK.out.trans (Keeps.alloc [] _ _)⟩
              · rw [if_neg hs2]
                have q3 : decide (D < T) = false := decide_eq_false (by have := HN1.out; have := HD.out; omega)
                have HOUT := Lib.hid (show T = ((1 + op + (Y + 3) / 4 : Nat) : Int) by have := HN1.out; omega)
                clear hs2 hy1 hZ hR hT
                go_enter Try.func15, Try.ntmps15
                go_upto_region 6 with (go_at_call 11; refine HGET.out.mono ?_; rintro e w1 ⟨rfl, hk⟩; have HK := Lib.hid hk; clear hk)
                obtain ⟨p0, p1, p2, p3, p4, p5, p6⟩ := HB7.out w1 a tk gv (op : Int) st true jp
                have cy := (HK.out.trans (Keeps.alloc [] w1 (.cells #[.int .u32 a, .string st, .int .i64 tk, .int .i64 gv, .int .i64 (op : Int), .bool true, .bool jp] 27))).cell HCY.out (by simp)
                have hM1 : M < w1.heap.size := Nat.lt_of_lt_of_le hMw HK.out.size
                go_wp2
                go_ret
                exact ⟨by rw [HOUT.out]; rfl, HK.out.trans (Keeps.alloc [] _ _)⟩
  · rw [if_neg hlt]
    obtain ⟨a, cap, rfl, hcap⟩ := h.shape
    rw [← hn] at hlt ⊢
    clear h hn
    by_cases hlo : i < 0
    · go_enter Try.func15, Try.ntmps15
      go_wp2
      go_ret
      exact ⟨rfl, Keeps.refl _ _⟩
    · have hhi : i ≥ (n : Int) := by omega
      clear hlt
      go_enter Try.func15, Try.ntmps15
      go_wp2
      go_ret
      exact ⟨rfl, Keeps.refl _ _⟩

set_option maxRecDepth 100000 in
set_option maxHeartbeats 2000000 in
theorem r11Starts_any (w : World) (v : Value) (c : List (BitVec 32)) (M off : Nat) (h : UReads w v c M off) (hm : c.length ≤ 2000000) :
    Calls Try.prog 19 #[v] w fun e w' => StartsPost w c e w' := by
  obtain ⟨a, cap, rfl, hcap⟩ := h.shape
  have HL0 := Lib.hid fun W (hk : Keeps [] w W) (k : Nat) => r11Long_any W _ c M off (h.keeps hk (by simp)) (by unfold maxLen; omega) (k : Int)
  obtain ⟨n, hn⟩ : ∃ n, n = c.length := ⟨_, rfl⟩
  rw [← hn] at hm hcap HL0 ⊢
  have HN := Lib.hid hn
  clear h hn
  go_enter Try.func19, Try.ntmps19
  go_wp2
  go_loopw [4, 5] (fun x y wr => ∃ (k : Nat) (l : List Nat) (xv : Value), xv = x ∧ k ≤ n ∧ y = .int .i64 (k : Int) ∧ Hid (Went c k l) ∧ Hid (Ints wr w.heap.size xv l) ∧ Hid (Keeps [] w wr)) (fun _ y _ => n - (intOf y).toNat)
  case atStart => exact ⟨0, [], _, rfl, by omega, rfl, .zero, Ints.nil _ _, Keeps.refl _ _⟩
  case round =>
    obtain ⟨k, l, xv, rfl, hk, rfl, HW, HI, HK⟩ := hrel
    by_cases hlt : k < n
    · have hlt' : (k : Int) < (n : Int) := by omega
      have HC := Lib.hid (HL0.out wr HK.out k)
      have hLA : longAt c (k : Int) = longC (c.drop k) := by
        unfold longAt
        rw [if_pos ⟨by omega, by rw [← HN.out]; exact hlt'⟩, Int.toNat_natCast]
      rw [hLA] at HC
      have hll := longC_le (c.drop k)
      rw [List.length_drop, ← HN.out] at hll
      have hl0 := Nat.le_trans (went_length HW.out) hk
      have HST := Lib.hid fun h0 => went_stuck HW.out (by rw [← HN.out]; exact hlt) h0
      have HSP := Lib.hid fun h0 => Went.step HW.out h0
      clear hLA
      generalize longC (c.drop k) = L at *
      by_cases hL : L = 0
      · subst hL
        have HST0 := Lib.hid (HST.out rfl)
        clear HST
        go_wp2_with (go_at_call 15; refine HC.out.mono ?_; rintro e w3 ⟨rfl, hk3⟩; have HK3 := Lib.hid hk3; clear hk3)
        go_ret2
        exact ⟨_, _, rfl, .inl ⟨HST0.out, rfl, rfl⟩, HK.out.trans HK3.out⟩
      · have hL' : ((L : Int) == 0) = false := by simp; omega
        have e1 : IntKind.i64.wrap ((k : Int) + (L : Int)) = (k : Int) + (L : Int) := IntWalk.i64_in _ (by omega)
        have hlb : l.length ≤ 2000000 := by omega
        have HB := Lib.hid fun W (hk : Keeps [] wr W) => Nat.le_trans HK.out.size hk.size
        have HSP := Lib.hid (HSP.out hL)
        have HMS := Lib.hid (show 0 < L by omega)
        clear hL
        go_wp2_with (first | (go_at_call 15; refine HC.out.mono ?_; rintro e w3 ⟨rfl, hk3⟩; have HI3 := Lib.hid (HI.out.next hk3); have hb3 := HB.out _ hk3; have HB3 := Lib.hid hb3; have HK3 := Lib.hid hk3; clear hk3 hb3) | (at_builtin; refine wpList_append_int rfl _ _ rfl w.heap.size xv l rfl HI3.out k rfl hlb HB3.out ?_; intro v4 w4 ho4 hk4; have HO4 := Lib.hid ho4; have HK4 := Lib.hid hk4; clear ho4 hk4))
        go_roundw
        case rel => exact ⟨k + L, l ++ [k], _, rfl, by omega, by go_num, HSP.out, HO4.out, (HK.out.trans HK3.out).then HK4.out (fun x hx => .inr (by
          have := HI3.out.lt x (by simpa using hx); omega))⟩
        case measure => simp [intOf]; have := HMS.out; omega
    · obtain rfl : k = n := by omega
      have hlt' : ¬ (k : Int) < (k : Int) := by omega
      have HD := Lib.hid (went_done (by rw [← HN.out]; exact HW.out))
      clear hlt
      go_wp2
      go_ret2
      exact ⟨_, _, rfl, .inr ⟨_, HD.out, HI.out, rfl⟩, HK.out⟩

set_option maxRecDepth 100000 in
set_option maxHeartbeats 2000000 in
theorem r11start_any (w : World) (v : Value) (c : List (BitVec 32)) (M off : Nat) (h : UReads w v c M off) (hm : c.length ≤ 2000000) (x : Nat) (hx : x < 4294967296) :
    Calls Try.prog 80 #[v, .int .u32 (x : Int)] w fun e w' => e = .returned (.bool ((startsD c).contains x)) ∧ Keeps [] w w' := by
  have HS := Lib.hid (r11Starts_any w v c M off h hm)
  have hsm : ∀ k ∈ startsD c, k < 4294967296 := by
    intro k hk
    unfold startsD at hk
    cases hs : startsC c with
    | none => rw [hs] at hk; simp at hk
    | some l => rw [hs] at hk; have := went_lt (starts_went hs) k (by simpa using hk); omega
  have hln : (startsD c).length ≤ 2000000 := by
    unfold startsD
    cases hs : startsC c with
    | none => simp
    | some l => have := went_length (starts_went hs); simpa using Nat.le_trans this hm
  obtain ⟨a, cap, rfl, hcap⟩ := h.shape
  have HPO := Lib.hid (fun (w' : World) (v' : Value) (q : Bool) (hs : startsV w' w.heap.size c v' q) => show Ints w' w.heap.size v' (startsD c) from by
    unfold startsD
    rcases hs with ⟨h1, h2, h3⟩ | ⟨l, h1, h2, h3⟩
    · rw [h1, h2]; exact Ints.nil _ _
    · rw [h1]; exact h2)
  generalize startsD c = L at *
  generalize c.length = n at *
  have HSM := Lib.hid hsm
  clear h hsm
  go_enter Try.func80, Try.ntmps80
  go_wp2_with (go_at_call 19; refine HS.out.mono ?_; rintro e w1 ⟨v1, q1, rfl, hs, hk⟩; have HI := Lib.hid (HPO.out _ _ _ hs); have HK := Lib.hid hk; clear hs hk)
  obtain ⟨la, lc, rfl, _, hcl⟩ := HI.out.shape
  have HCL := Lib.hid hcl
  obtain ⟨m, hm2⟩ : ∃ m, m = L.length := ⟨_, rfl⟩
  have HML := Lib.hid hm2
  rw [← hm2] at hln ⊢
  clear hcl hm2
  go_loopw [7] (fun i wr => ∃ j : Nat, j ≤ m ∧ wr = w1 ∧ i = .int .i64 (j : Int) ∧ Hid (∀ t, t < j → L[t]? ≠ some x)) (fun i _ => m - (intOf i).toNat)
  case atStart => exact ⟨0, by omega, rfl, rfl, fun t ht => by omega⟩
  case round =>
    obtain ⟨j, hj, rfl, rfl, HNO⟩ := hrel
    by_cases hlt : j < m
    · obtain ⟨k, hk⟩ : ∃ k, L[j]? = some k := ⟨_, List.getElem?_eq_getElem (by rw [← HML.out]; exact hlt)⟩
      obtain ⟨Mb, rfl, _, _, hce⟩ := HCL.out (by intro e; rw [e] at hk; cases hk)
      have cj := hce j k hk
      have hk32 := HSM.out k (List.mem_of_getElem? hk)
      have e1 : IntKind.u32.wrap (k : Int) = (k : Int) := IntWalk.u32_in _ (by omega)
      have HKJ := Lib.hid hk
      clear hce hk
      by_cases he : k = x
      · have HR := Lib.hid (show L.contains x = true by
          rw [List.contains_iff_mem]
          exact he ▸ List.mem_of_getElem? HKJ.out)
        subst he
        have hlt' : (j : Int) < (m : Int) := by omega
        clear hlt
        go_wp2
        go_ret
        exact ⟨by rw [HR.out]; rfl, HK.out⟩
      · have q : ((k : Int) == (x : Int)) = false := by simp; omega
        have q2 : (k == x) = false := by simp; omega
        have HNE := Lib.hid he
        clear he
        go_wp2
        go_roundw
        case rel => exact ⟨j + 1, by omega, by first | rfl | trivial, by go_num, fun t ht => by
          by_cases h : t = j
          · subst h; rw [HKJ.out]; intro e; injection e with e; exact HNE.out e
          · exact HNO.out t (by omega)⟩
        case measure => simp [intOf]; omega
    · obtain rfl : j = m := by omega
      have HR := Lib.hid (show L.contains x = false by
        rw [Bool.eq_false_iff]
        intro h
        rw [List.contains_iff_mem] at h
        obtain ⟨t, ht, e⟩ := List.getElem_of_mem h
        exact HNO.out t (by rw [HML.out]; exact ht) (by rw [List.getElem?_eq_getElem ht, e]))
      clear hlt
      go_wp2
      go_ret
      exact ⟨by rw [HR.out]; rfl, HK.out⟩
end Go.Proofs.Ytfnjjanknfmibaa
