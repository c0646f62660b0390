/-
  StackRolls, walked.
-/
import Derived.Test.YtdeiehcblfiepaaStkMayA
namespace Go.Proofs.Ytdeiehcblfiepaa
open Go.RowKit
set_option linter.unusedVariables false

/-- What is appended, as a step of a region that draws its order. -/
theorem step_append_u {ops : Array Oper} {o : Oper} {a : Act} {w : World} {K : Act → World → Prop} {Q : Exit → Act → World → Prop} {E : Prop} (hgd : o.guard = none) (s x : Operand)
    (ho : o.op = .call { callee := .builtin .append, args := #[s, x], argTypes := #[28, 28] }) (base : Nat) (v : Value) (l : List (BitVec 32)) (hs : a.eval s = v) (hown : w.ownsRow base 40 1 v l.length (l.map uv))
    (u : Value) (m : List (BitVec 32)) (M off : Nat) (hx : a.eval x = u) (hr : UReads w u m M off) (hlen : l.length + m.length ≤ 1000000) (hbase : base ≤ w.heap.size)
    (h : ∀ v' w', w'.ownsRow base 40 1 v' (l ++ m).length ((l ++ m).map uv) → Keeps v.ownBlock.toList w w' → K (a.put o.dst v') w') : if Region.wanted o (yielded ops a.tmps) = true then Oper.wp Try.prog o a w K Q else E := by
  have hw : Region.wanted o (yielded ops a.tmps) = true := by simp [Region.wanted, hgd]
  rw [if_pos hw]
  obtain ⟨v', w', hrun, h1, h2, h3⟩ := run_append_u w base o.type v l hown u m M off hr hlen hbase
  unfold Oper.wp
  simp [execOp, ho, resolve, invoke, builtin, hs, hx, hrun, Result.andThen]
  exact h v' w' h1 h2

/-! ### cells rolled -/
def rolled (l : List (BitVec 32)) (p j : Nat) : List (BitVec 32) := l.take p ++ ((l.drop p).drop j ++ (l.drop p).take j)

theorem rolled_zero (l : List (BitVec 32)) (p : Nat) : rolled l p 0 = l := by simp [rolled]
theorem rolled_all (l : List (BitVec 32)) (p j : Nat) (h : l.length ≤ p + j) : rolled l p j = l := by
  unfold rolled
  rw [show (l.drop p).drop j = [] from List.drop_eq_nil_of_le (by simp; omega), show (l.drop p).take j = l.drop p from List.take_of_length_le (by simp; omega)]
  simp
theorem rolled_length (l : List (BitVec 32)) (p j : Nat) (hp : p ≤ l.length) : (rolled l p j).length = l.length := by
  unfold rolled; simp; omega
theorem roll_rolled (l : List (BitVec 32)) (p i j : Nat) (hp : p = l.length - 1 - i) (hi : i < l.length) (hj : j ≤ i) : rollL (rolled l p j) i = rolled l p (j + 1) := by
  have hl := rolled_length l p j (by omega)
  unfold rollL
  rw [hl, if_pos ⟨by omega, by omega⟩, Int.toNat_natCast, ← hp]
  have hA : (l.take p).length = p := by simp; omega
  have hD : (l.drop p).length = i + 1 := by simp; omega
  have e1 : (rolled l p j).take p = l.take p := by
    unfold rolled; rw [List.take_append_of_le_length (by omega), List.take_of_length_le (by omega)]
  have e2 : (rolled l p j).drop (p + 1) = (l.drop p).drop (j + 1) ++ (l.drop p).take j := by
    unfold rolled
    rw [List.drop_append, hA, List.drop_eq_nil_of_le (by omega), List.nil_append, show p + 1 - p = 1 by omega, List.drop_append_of_le_length (by rw [List.length_drop, hD]; omega), List.drop_drop]
  have e3 : (rolled l p j).getD p 0#32 = (l.drop p).getD j 0#32 := by
    unfold rolled
    rw [List.getD_eq_getElem?_getD, List.getElem?_append_right (by omega), hA, Nat.sub_self, List.getElem?_append_left (by rw [List.length_drop, hD]; omega), List.getElem?_drop, Nat.add_zero, ← List.getD_eq_getElem?_getD]
  rw [e1, e2, e3]
  unfold rolled
  rw [List.append_assoc, List.append_assoc]
  congr 2
  rw [List.take_succ_eq_append_getElem (by rw [hD]; omega), List.getD_eq_getElem?_getD, List.getElem?_eq_getElem (by rw [hD]; omega)]
  rfl

set_option maxRecDepth 100000 in
set_option maxHeartbeats 8000000 in
theorem StackRolls_any (w : World) (v : Value) (l : List (BitVec 32)) (M o : Nat) (h : UReads w v l M o) (hl : l.length ≤ maxLen) (t : Nat) (ht : t < 256) :
    Calls Try.prog 5 #[v, .int .u8 t] w fun e w' => e = .returned (.bool true) ∧ Keeps [] w w' := by
  have hml : maxLen = 9223372036854775807 := rfl
  by_cases hn : l.length = 0 ∨ 60 < l.length
  · obtain ⟨a, cap, rfl, hcap⟩ := h.shape
    clear h
    generalize l.length = n at *
    by_cases h0 : n = 0
    · subst h0
      clear hn
      go_enter Try.func5, Try.ntmps5
      go_wp2_with (go_at_call 12; refine (awake8_any _).mono ?_; rintro e w3 ⟨rfl, hk⟩; have HK := Lib.hid hk; clear hk)
      go_ret
      exact ⟨rfl, HK.out⟩
    · have h60 : (60 : Int) < n := by omega
      have h00 : (n : Int) ≠ 0 := by omega
      clear hn
      go_enter Try.func5, Try.ntmps5
      go_wp2_with (go_at_call 12; refine (awake8_any _).mono ?_; rintro e w3 ⟨rfl, hk⟩; have HK := Lib.hid hk; clear hk)
      go_ret
      exact ⟨rfl, HK.out⟩
  · obtain ⟨cap, rfl, hcap, hcells⟩ := h.cells (by intro e; simp [e] at hn)
    have HH := Lib.hid h
    obtain ⟨n, hN⟩ : ∃ n, n = l.length := ⟨_, rfl⟩
    rw [← hN] at hcap hl
    obtain ⟨i, hi⟩ : ∃ i, i = t % n := ⟨_, rfl⟩
    have bn : 1 ≤ n ∧ n ≤ 60 := by omega
    have bi : i < n := by rw [hi]; exact Nat.mod_lt _ (by omega)
    have eI : (t : Int) % (n : Int) = (i : Int) := by rw [hi]; simp
    obtain ⟨p, hp⟩ : ∃ p, p = n - 1 - i := ⟨_, rfl⟩
    have hpl : p < l.length := by omega
    have q1 := hcells p l[p] (List.getElem?_eq_getElem hpl)
    have hgd : l.getD p 0#32 = l[p] := by rw [List.getD_eq_getElem?_getD, List.getElem?_eq_getElem hpl]; rfl
    obtain ⟨y, hy⟩ : ∃ y : Int, y = (l[p]).toNat := ⟨_, rfl⟩
    obtain ⟨d, hd⟩ : ∃ d, d = l.take p ++ l.drop (p + 1) := ⟨_, rfl⟩
    have hdl : d.length = n - 1 := by rw [hd]; simp; omega
    have hroll : rollL l i = d ++ [l[p]] := by
      unfold rollL
      rw [if_pos ⟨by omega, by omega⟩, Int.toNat_natCast, ← hN, ← hp, hgd, hd]
    have hroll1 : d ++ [l[p]] = rolled l p 1 := by
      rw [← hroll]
      have := roll_rolled l p i 0 (by omega) (by omega) (by omega)
      rwa [rolled_zero] at this
    have HI := Lib.hid (show l.length = n ∧ p = n - 1 - i from ⟨hN.symm, hp⟩)
    have hq : uv l[p] = .int .u32 y := by rw [hy]
    rw [hq] at q1
    obtain ⟨bn1, bn2⟩ := bn
    have ep : (n : Int) - 1 - i = (p : Int) := by omega
    have bp : p < n := by omega
    have hpk : Hid (peekX l i = l[p]) := by
      show peekX l i = l[p]
      unfold peekX; rw [if_pos ⟨by omega, by omega⟩, Int.toNat_natCast, ← hN, ← hp, hgd]
    have HHD := Lib.hid (h.head p (by omega))
    obtain ⟨q, hq'⟩ : ∃ q, q = p + 1 := ⟨_, rfl⟩
    rw [← hq'] at hd
    obtain ⟨pt, ct, htl, hrt⟩ := h.tail q (by omega)
    have hlt1 : (l.take p).length = p := by simp; omega
    have hlt2 : (l.drop q).length = n - q := by simp; omega
    have hcut1 := fun w => run_cutU_h w (some ⟨M, o, none⟩) n cap p (by omega)
    have hh1 := (h.head p (by omega)).1
    rw [hlt1] at hh1
    rw [hh1] at hcut1
    have hcut2 := fun w => run_cutU_l w (some ⟨M, o, none⟩) n cap q (by omega)
    rw [← hN, hlt2] at htl
    rw [htl] at hcut2
    have hpp : (p : Int) + 1 = (q : Int) := by omega
    have bq : q ≤ n := by omega
    have hwq : IntKind.i64.wrap (q : Int) = (q : Int) := by rw [IntKind.wrap_i64]; omega
    have hq0 : (0 : Int) ≤ (q : Int) := by omega
    have hq1 : (q : Int) ≤ (n : Int) := by omega
    rw [hlt2] at hrt
    have HRT := Lib.hid hrt
    obtain ⟨r, hrn0⟩ : ∃ r, r = n - 1 := ⟨_, rfl⟩
    have hrn := Lib.hid hrn0
    have hr59 : r < n := by omega
    clear hrn0
    have HQ := Lib.hid (show (l.take p).length = p ∧ (l.drop q).length = n - q from ⟨hlt1, hlt2⟩)
    have HD := Lib.hid hd
    have HDL := Lib.hid hdl
    have HR := Lib.hid hroll
    have HR1 := Lib.hid hroll1
    have HY := Lib.hid hy
    rw [← hN]
    have HL1 := Lib.hid (show (d ++ [l[p]]).length = n from by rw [List.length_append, hdl]; simp; omega)
    have hz : ((n : Int) == 0) = false := by simp; omega
    have hz2 : ¬ (60 : Int) < n := by omega
    clear h hcells hn hi hp hgd hd hdl hroll hroll1 hq hh1 htl hrt hlt1 hlt2 hy hN hq'
    generalize l[p] = x at *
    go_enter Try.func5, Try.ntmps5
    go_upto_region 4 with (go_at_call 9; refine (New_mine _ 60 (-3) (-4) (by decide) (by decide) (by decide) (by decide) (by decide) (by decide)).mono ?_; rintro e w1 ⟨g, rfl, hs⟩; have HS := Lib.hid hs; clear hs)
    have HP := Lib.hid (Push_mine HS.out _ _ _ _ (HH.out.keeps HS.out.kept (by simp)) (by rw [HI.out.1]; omega) 0 l (by unfold pushT; rw [HI.out.1, if_pos (by simp; omega)]) (by unfold pushL; rw [HI.out.1, if_pos (by simp; omega)]; simp))
    rw [HI.out.1] at HP
    go_upto_region 8 with (first
      | (go_at_call 13; refine HP.out.mono ?_; rintro e w2 ⟨rfl, h2⟩; have HS2 := Lib.hid h2; clear h2)
      | (go_at_call 21; refine (Peek_mine HS2.out i y 0 (by rw [hpk.out]; exact HY.out.symm) (by unfold peekT; rw [HI.out.1, if_pos (by omega)])).mono ?_; rintro e w3 ⟨rfl, h3⟩; have HS3 := Lib.hid h3; clear h3))
    clear HP HS HS2
    go_upto_region 12 with (first
      | (go_at_call 18; refine (Roll_mine HS3.out i 0 (d ++ [x]) (by unfold peekT; rw [HI.out.1, if_pos (by omega)]) HR.out).mono ?_; rintro e w4 ⟨rfl, h4⟩; have HS4 := Lib.hid h4; clear h4)
      | (go_at_call 21; refine (Peek_mine HS4.out 0 y 0 (by unfold peekX; rw [HL1.out, if_pos (by omega), HY.out, List.getD_eq_getElem?_getD, List.getElem?_append_right (by rw [HDL.out]; simp)]; simp [HDL.out]) (by unfold peekT; rw [HL1.out, if_pos (by omega)])).mono ?_; rintro e w5 ⟨rfl, h5⟩; have HS5 := Lib.hid h5; clear h5)
      | (go_at_call 23; refine (All_mine HS5.out).mono ?_; rintro e w6 ⟨a2, c2, M2, rfl, hr6, _, hk6, h6⟩
         rw [HL1.out] at hr6 ⊢
         have HA := Lib.hid hr6; have HS6 := Lib.hid h6; clear hr6 h6 hk6))
    obtain ⟨c2', e2, _, hac⟩ := HA.out.cells (by simp)
    rw [HL1.out] at e2
    injection e2 with e2 _ e2'
    subst e2 e2'
    have HAC := Lib.hid hac
    clear hac HS3 HS4 HS5
    replace q1 := HS6.out.kept.cell q1 (by simp)
    go_upto_region 15 with fail
    have HO1 := Lib.hid (show (w6.drew.alloc (.cells #[] 40)).ownsRow w6.heap.size 40 1 (.slice (some ⟨w6.heap.size, 0, none⟩) 0 0) ([] : List (BitVec 32)).length (([] : List (BitVec 32)).map uv) from Whole.owns (xs := []) (ys := []) (Whole.new w6.drew 40 []) (Nat.le_refl _) rfl rfl (by decide))
    have HK1 := Lib.hid ((HS6.out.kept.trans (Keeps.drew [] w6)).trans (Keeps.alloc [] w6.drew (.cells #[] 40)))
    have HT1 := Lib.hid (HHD.out.2.keeps HK1.out (by simp))
    rw [show (l.take p).length = p by simp; have := HI.out.1; omega] at HT1
    go_region_law (first
      | (refine step_append_u rfl (.tmp 86) (.tmp 89) rfl w6.heap.size _ [] (by go_simp) HO1.out _ (l.take p) M o (by go_simp) HT1.out (by rw [HQ.out.1]; simp; omega) (by simp) ?_; intro v7 w7 ho7 hk7; have HO7 := Lib.hid ho7; have HK7 := Lib.hid hk7; clear ho7 hk7)
      | (refine step_append_u rfl (.tmp 90) (.tmp 94) rfl w6.heap.size _ _ (by go_simp) HO7.out _ (l.drop q) M (o + q) (by go_simp) (HRT.out.keeps (HK1.out.then HK7.out (fun x hx => .inr (by have hx' : x ∈ [w6.heap.size] := hx; simp at hx'; have := HS6.out.kept.size; omega))) (by simp)) (by rw [HQ.out.2, List.nil_append, HQ.out.1]; omega) (by have := HK7.out.size; simp at this; omega) ?_; intro v8 w8 ho8 hk8
         rw [List.nil_append, ← HD.out, HDL.out, ← hrn.out] at ho8
         obtain ⟨a8, c8, rfl⟩ := owns_shape2 ho8
         have HO8 := Lib.hid ho8; have HK8 := Lib.hid hk8; clear ho8 hk8))
    have K8 := Lib.hid ((HK1.out.then HK7.out (fun x hx => .inr (by have hx' : x ∈ [w6.heap.size] := hx; simp at hx'; have := HS6.out.kept.size; omega))).then HK8.out (fun x hx => .inr (by have := (HO7.out.lt x (by simpa using hx)).1; have := HS6.out.kept.size; omega)))
    have K68 := Lib.hid ((((Keeps.drew [] w6).trans (Keeps.alloc [] w6.drew (.cells #[] 40))).then HK7.out (fun x hx => .inr (by have hx' : x ∈ [w6.heap.size] := hx; simp at hx'; omega))).then HK8.out (fun x hx => .inr (HO7.out.lt x (by simpa using hx)).1))
    have HS8 := Lib.hid (HS6.out.next K68.out)
    obtain ⟨M8, hu8, _⟩ := UReads.owns HO8.out
    have HU8 := Lib.hid hu8
    have HAC8 := Lib.hid (HA.out.keeps K68.out (by simp))
    clear hu8 HO7 HO8 HK7 HK8 HK1 HT1 HO1 HS6 HA HAC K68
    go_upto_region 16 with fail
    go_loopw [14, 15, 97] (fun _ _ i wr => ∃ k : Nat, k ≤ r ∧ i = .int .i64 k ∧ wr = w8) (fun _ _ i _ => r - (intOf i).toNat)
    case atStart => exact ⟨0, by omega, rfl, rfl⟩
    case round =>
      obtain ⟨k, hk, rfl, rfl⟩ := hrel
      by_cases hlt : k < r
      · have hki : (k : Int) < r := by omega
        have hkd : k < d.length := by rw [HDL.out, ← hrn.out]; exact hlt
        obtain ⟨c8', e8, _, h8⟩ := HU8.out.cells (by intro e; simp [e] at hkd)
        injection e8 with e8 _ _
        subst e8
        have p1 := h8 k d[k] (List.getElem?_eq_getElem hkd)
        obtain ⟨c9', e9, _, h9⟩ := HAC8.out.cells (by simp)
        have p2 := h9 k d[k] (by rw [List.getElem?_append_left hkd]; exact List.getElem?_eq_getElem hkd)
        have hkn : k < n := by omega
        rw [Nat.zero_add] at p1 p2
        clear h8 h9 e9
        generalize d[k] = z at *
        unfold uv at p1 p2
        generalize (z.toNat : Int) = Z at *
        go_wp2
        go_roundw
        case rel => exact ⟨k + 1, by omega, by go_num, trivial⟩
        case measure => simp [intOf]; omega
      · obtain rfl : k = r := by omega
        have HR0 := Lib.hid (show Mine w wr g 60 (-3) (-4) (rolled l p 1) from HR1.out ▸ HS8.out)
        have HH8 := Lib.hid (HH.out.keeps HS8.out.kept (by simp))
        clear HU8 HAC8 HS8
        go_upto_region 22 with fail
        go_loopw [110] (fun iv wr2 => ∃ j : Nat, j ≤ i ∧ iv = .int .i64 j ∧ Hid (Mine w wr2 g 60 (-3) (-4) (rolled l p (1 + j)))) (fun iv _ => i - (intOf iv).toNat)
        case atStart => exact ⟨0, by omega, rfl, HR0⟩
        case round =>
          obtain ⟨j, hj, rfl, hm⟩ := hrel
          have hln : (rolled l p (1 + j)).length = n := by rw [rolled_length l p _ (by omega)]; exact HI.out.1
          have HLN := Lib.hid hln
          clear hln HR0
          by_cases hlt : j < i
          · have hji : (j : Int) < i := by omega
            have HP := Lib.hid (Roll_mine hm.out i 0 (rolled l p (1 + (j + 1))) (by unfold peekT; rw [HLN.out, if_pos (by omega)]) (by
              rw [roll_rolled l p i (1 + j) (by rw [HI.out.1]; exact HI.out.2) (by rw [HI.out.1]; omega) (by omega), Nat.add_assoc]))
            go_wp2_with (go_at_call 18; refine HP.out.mono ?_; rintro e w9 ⟨rfl, h9⟩; have HM := Lib.hid h9; clear h9)
            go_roundw
            case rel => exact ⟨j + 1, by omega, by go_num, HM⟩
            case measure => simp [intOf]; omega
          · obtain rfl : j = i := by omega
            have HE := Lib.hid (show Mine w wr g 60 (-3) (-4) l from by
              have := hm.out
              rwa [rolled_all l p (1 + j) (by have := HI.out; omega)] at this)
            have HRD := Lib.hid (HH.out.keeps HE.out.kept (by simp))
            rw [HI.out.1] at HRD
            clear hm
            go_wp2_with (first
              | (go_at_call 23; refine (All_mine HE.out).mono ?_; rintro e w9 ⟨a9, c9, M9, rfl, hr9, _, hk9, h9⟩; rw [HI.out.1] at hr9 ⊢; have HA := Lib.hid hr9; have HS9 := Lib.hid h9; have HRD9 := Lib.hid (HRD.out.keeps hk9 (by simp)); clear hr9 h9 hk9)
              | (go_at_call 22; refine (cells_to _ _ _ l l M9 0 M o HA.out HRD9.out (by rw [HI.out.1]; exact hl) true (by simp)).mono ?_; rintro e w10 ⟨rfl, hk⟩; have HS10 := Lib.hid (HS9.out.next hk); clear hk)
              | (go_at_call 12; refine (awake8_any _).mono ?_; rintro e w11 ⟨rfl, hk⟩; have HK := Lib.hid hk; clear hk))
            go_ret
            exact ⟨rfl, HS10.out.kept.trans HK.out⟩

theorem StackRolls_all (w : World) (v : Value) (l : List (BitVec 32)) (M o : Nat) (h : UReads w v l M o) (hl : l.length ≤ maxLen) (t : Int) (ht : 0 ≤ t ∧ t ≤ 255) :
    Calls Try.prog 5 #[v, .int .u8 t] w fun e w' => e = .returned (.bool true) ∧ Keeps [] w w' := by
  obtain ⟨m, rfl⟩ := Int.eq_ofNat_of_zero_le ht.1
  exact StackRolls_any w v l M o h hl m (by omega)
end Go.Proofs.Ytdeiehcblfiepaa
