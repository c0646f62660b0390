/-
  MemWindow, walked.
-/
import Derived.Test.YtcbdkkpoliameaaMemMovesA
import Derived.Deep.CutRange
import Derived.Deep.CutBlock
namespace Go.Proofs.Ytcbdkkpoliameaa
open Go.RowKit
set_option linter.unusedVariables false

/-- Bytes appended to an empty row of one's own. -/
theorem run_append_b (w : World) (ty : TypeId) (u : Value) (m : List UInt8) (M : Nat) (hr : Reads w u m M) (hlen : m.length ≤ 1000000) (b : Nat) (hb : Whole w b 5 []) :
    ∃ a c w' M', (Builtin.append_ #[22, 22] ty #[.slice (some ⟨b, 0, none⟩) 0 0, u]).run Try.prog w = .ok (.slice a m.length c) w' ∧ Keeps [b] w w' ∧ m.length ≤ c ∧ Reads w' (.slice a m.length c) m M' ∧ (m ≠ [] → w.heap.size ≤ M' ∧ a = some ⟨M', 0, none⟩ ∧ Row w' M' 5 (m.map bv) c) := by
  obtain ⟨i0, hi, hz0, hz1, hz2⟩ := info_parts infoByte
  have hown : w.ownsRow b 5 1 (.slice (some ⟨b, 0, none⟩) 0 0) ([] : List UInt8).length (([] : List UInt8).map bv) := Whole.owns (xs := []) (ys := []) hb (Nat.le_refl _) rfl rfl (by decide)
  rcases hr with ⟨rfl, rfl⟩ | ⟨ad, cap, rfl, hcap, hbM, hc⟩
  · have := run_append_owned_none (P := Try.prog) (w := w) b 22 ty 5 i0 1 Try.underlying22 hi (.slice (some ⟨b, 0, none⟩) 0 0) 0 [] (by rw [← hz1] at hown ⊢; exact hown)
    exact ⟨_, _, w, 0, this, Keeps.refl _ _, Nat.zero_le _, .inr ⟨⟨b, 0, none⟩, 0, rfl, Nat.le_refl _, fun h => absurd rfl h, fun i c hi => by simp at hi⟩, fun h => absurd rfl h⟩
  · have hnews : ∀ j y, (m.map bv)[j]? = some y → w.cell? (ad.add j) = some y := by
      intro j y hy
      rw [List.getElem?_map] at hy
      obtain ⟨c, h1, rfl⟩ := Option.map_eq_some_iff.1 hy
      exact hc j c h1
    obtain ⟨v', w', hrun, hown', hg, _⟩ := run_append_own (P := Try.prog) w b 22 ty 5 i0 (.int .u8 0) 1 1 Try.underlying22 hi hz0 hz1 hz2 rfl (by decide) (.slice (some ⟨b, 0, none⟩) 0 0) 0 [] hown ad m.length cap (m.map bv) (by simp) hnews (one_bytes _) (by unfold maxLen; omega) (by omega) (Nat.le_of_lt hb.lt)
    have hk : Keeps [b] w w' := Keeps.grown hg (fun k hk => .inl (by simp [Value.ownBlock] at hk; simp [hk]))
    have ho : w'.ownsRow b 5 1 v' m.length (m.map bv) := by simpa using hown'
    by_cases hm : m = []
    · subst hm
      obtain ⟨a, c, rfl⟩ := owns_shape2 ho
      refine ⟨a, c, w', 0, hrun, hk, Nat.zero_le _, ?_, fun h => absurd rfl h⟩
      rcases ho.2 with ⟨e, _⟩ | ⟨g, cp, cur, e, _⟩
      · rw [e]; exact Reads.nil _ _
      · injection e with e1 _ e2
        subst e1 e2
        exact .inr ⟨⟨g, 0, none⟩, c, rfl, Nat.zero_le _, fun h => absurd rfl h, fun i c hi => by simp at hi⟩
    · -- no room in a row of none: the cells lie in a block that is new
      have hml : 0 < m.length := List.length_pos_iff.2 hm
      have hr2 := run_append_grow (P := Try.prog) w 22 ty 5 i0 (.int .u8 0) Try.underlying22 hi hz0 ⟨b, 0, none⟩ 0 0 [] (by simp) (by simp) ad m.length cap (m.map bv) (by rw [hz1]; simp) hnews (by omega) (by omega) (growslice_fits (by omega) (by rw [hz2]; omega))
      rw [hrun] at hr2
      injection hr2 with e1 e2
      obtain ⟨a, c, rfl⟩ := owns_shape2 ho
      rcases ho.2 with ⟨e, hz⟩ | ⟨g, cp, cur, e, hbg, hg2, hn, _⟩
      · omega
      · injection e with e3 _ e4
        subst e3 e4
        have hgs : w.heap.size ≤ g := by
          injection e1 with e5 _ _
          injection e5 with e5
          injection e5 with e5
          omega
        exact ⟨_, _, w', g, hrun, hk, hn, (Row.ofOwnsAt ho).reads, fun _ => ⟨hgs, rfl, Row.ofOwnsAt ho⟩⟩
/-- An append whose outcome is known, as one step of a region that draws its order. -/
theorem step_append_known {ops : Array Oper} {o : Oper} {a : Act} {w : World} {K : Act → World → Prop} {Q : Exit → Act → World → Prop} {E : Prop} (hgd : o.guard = none) (d s : Operand)
    (ho : o.op = .call { callee := .builtin .append, args := #[d, s], argTypes := #[22, 22] }) (u v r : Value) (w' : World) (hd : a.eval d = u) (hs : a.eval s = v)
    (hrun : ∀ ty, (Builtin.append_ #[22, 22] ty #[u, v]).run Try.prog w = .ok r w') (h : K (a.put o.dst r) w') :
    if Region.wanted o (yielded ops a.tmps) = true then Oper.wp Try.prog o a w K Q else E := by
  have hw : Region.wanted o (yielded ops a.tmps) = true := by simp [Region.wanted, hgd]
  rw [if_pos hw]
  unfold Oper.wp
  simp [execOp, ho, resolve, invoke, builtin, hd, hs, hrun, Result.andThen]
  exact h

/-- At an address of the window nothing is put. -/
theorem put_win {win ram : List UInt8} {A n : Nat} (h : inAt 4096 win A n) (hA : A < 1048576) (n0 : 0 < n) : pT win ram A n = -20 ∧ ∀ bs : List UInt8, pL ram A bs = ram := by
  refine ⟨?_, fun bs => ?_⟩
  · unfold pT; rw [if_neg (by unfold inAt; omega), if_pos h, if_neg (by omega)]
  · unfold pL; rw [if_neg (by unfold inAt; omega)]

set_option maxRecDepth 100000 in
set_option maxHeartbeats 4000000 in
theorem MemWindow_any (w : World) (v : Value) (win : List UInt8) (Mw : Nat) (h : Reads w v win Mw) (hl : win.length ≤ maxLen) (at' x : Nat) (at1 : at' < 65536) (x1 : x < 4294967296) (ov : Value) (oth : List UInt8) (Mo : Nat) (ho : Reads w ov oth Mo) (hol : oth.length ≤ maxLen) :
    Calls Try.prog 6 #[v, .int .u16 at', .int .u32 x, ov] w fun e w' => e = .returned (.bool true) ∧ Keeps [] w w' := by
  have hml : maxLen = 9223372036854775807 := rfl
  obtain ⟨a, cap, rfl, hcap⟩ := h.shape
  obtain ⟨k3, hk3⟩ : ∃ k, k = min win.length 300 := ⟨_, rfl⟩
  have hmn := fun w ts t => run_min9 w ts t (win.length : Int) 300 k3 (by omega)
  obtain ⟨pa, pc, hcutW, hrW⟩ := h.head k3 (by omega)
  have htk : (win.take k3).length = k3 := by simp; omega
  rw [htk] at hcutW hrW
  have HRW := Lib.hid hrW
  have HTK := Lib.hid htk
  obtain ⟨ao, co, rfl, hco⟩ := ho.shape
  obtain ⟨k4, hk4⟩ : ∃ k, k = min oth.length 300 := ⟨_, rfl⟩
  have hmn2 := fun w ts t => run_min9 w ts t (oth.length : Int) 300 k4 (by omega)
  obtain ⟨po, pco, hcutO, hrO⟩ := ho.head k4 (by omega)
  have hok : (oth.take k4).length = k4 := by simp; omega
  rw [hok] at hcutO hrO
  have HOK := Lib.hid hok
  have bk3 : k3 ≤ 300 := by omega
  have bk3' : k3 ≤ win.length := by omega
  have bk4 : k4 ≤ 300 := by omega
  have bk4' : k4 ≤ oth.length := by omega
  have kz : Keeps [] w (w.drew.alloc (.cells #[] 5)) := (Keeps.drew [] w).trans (Keeps.alloc [] _ _)
  obtain ⟨a4, c4, V, M4, hap0, hkV, hcc, hr4, hM4⟩ := run_append_b (w.drew.alloc (.cells #[] 5)) 22 _ (oth.take k4) Mo (hrO.keeps kz (by simp)) (by omega) w.heap.size (Whole.new_at w.drew 5 [] w.heap.size rfl)
  rw [hok] at hap0 hr4 hcc
  have hap : ∀ ty, (Builtin.append_ #[22, 22] ty #[.slice (some ⟨w.heap.size, 0, none⟩) 0 0, .slice po k4 pco]).run Try.prog (w.drew.alloc (.cells #[] 5)) = .ok (.slice a4 k4 c4) V := fun ty => hap0
  have HKV := Lib.hid (show Keeps [] w V from kz.then hkV (fun y hy => .inr (by simp at hy; omega)))
  have HR4 := Lib.hid hr4
  have HM4 := Lib.hid (show (oth.take k4) ≠ [] → a4 = some ⟨M4, 0, none⟩ ∧ Row V M4 5 ((oth.take k4).map bv) c4 ∧ w.heap.size ≤ M4 from fun hne => ⟨(hM4 hne).2.1, (hM4 hne).2.2, by have := (hM4 hne).1; simp at this; omega⟩)
  clear hap0 hkV hr4 hM4 kz hk3 hk4 hrW hrO htk hok h ho
  generalize win.take k3 = win' at *
  generalize oth.take k4 = oth' at *
  generalize win.length = wl at *
  generalize oth.length = ol at *
  go_enter Try.func6, Try.ntmps6
  go_upto_region 1 with fail
  go_cut [0, 3] from 21 to 32 (fun s0 s3 wc => s0 = .slice pa k3 pc ∧ s3 = .slice a4 k4 c4 ∧ wc = V)
  case first =>
    go_region_law (refine step_append_known rfl (.tmp 26) (.tmp 31) rfl (.slice (some ⟨w.heap.size, 0, none⟩) 0 0) (.slice po k4 pco) _ _ (by go_simp) (by go_simp) hap ?_)
    all_goals
      simp only [Act.put, List.getElem_toArray, List.getElem_cons_succ, List.getElem_cons_zero, List.setIfInBounds_toArray, List.set_cons_succ, List.set_cons_zero]
      go_wp2_with fail
      go_meet
      case rel => exact ⟨rfl, rfl, rfl⟩
  case rest =>
    obtain ⟨rfl, rfl, rfl⟩ := hcut
    obtain ⟨V, rfl⟩ : ∃ V, V = wc := ⟨_, rfl⟩
    clear hap hmn hmn2 hcutW hcutO
    by_cases h4 : k3 < 4
    · have h4i : (k3 : Int) < 4 := by omega
      go_wp2_with (go_at_call 8; refine (awake9_any _).mono ?_; rintro e w8 ⟨rfl, hk8⟩; have HK8 := Lib.hid hk8; clear hk8)
      go_ret
      exact ⟨rfl, HKV.out.trans HK8.out⟩
    · have h4i : ¬ (k3 : Int) < 4 := by omega
      obtain ⟨L3, hL3⟩ : ∃ L3 : Int, (k3 : Int) - 3 = L3 := ⟨_, rfl⟩
      obtain ⟨q, hq⟩ : ∃ q, q = at' % (k3 - 3) := ⟨_, rfl⟩
      obtain ⟨kk, hkk⟩ : ∃ kk, kk = 4096 + q := ⟨_, rfl⟩
      obtain ⟨d, hd⟩ : ∃ d, d = kk / 4 := ⟨_, rfl⟩
      obtain ⟨cc, hcc2⟩ : ∃ cc, cc = d * 4 := ⟨_, rfl⟩
      obtain ⟨kki, hkki⟩ : ∃ kki : Int, 4096 + (q : Int) = kki := ⟨_, rfl⟩
      obtain ⟨di, hdi⟩ : ∃ di : Int, kki / 4 = di := ⟨_, rfl⟩
      obtain ⟨cci, hcci⟩ : ∃ cci : Int, di * 4 = cci := ⟨_, rfl⟩
      have hq2 : q < k3 - 3 := by rw [hq]; exact Nat.mod_lt _ (by omega)
      have e1 : (at' : Int) % L3 = (q : Int) := by rw [hq, ← hL3, show (k3 : Int) - 3 = ((k3 - 3 : Nat) : Int) by omega]; rfl
      have L30 : 0 < L3 := by omega
      have L31 : L3 ≤ 300 := by omega
      have L3z : ¬ L3 = 0 := by omega
      have HKK := Lib.hid (show kki = (kk : Int) from by omega)
      have HCC := Lib.hid (show cci = (cc : Int) from by omega)
      have kk0 : 0 ≤ kki := by omega
      have kk1 : kki < 5000 := by omega
      have cc0 : 0 ≤ cci := by omega
      have cc1 : cci < 5000 := by omega
      have di0 : 0 ≤ di := by omega
      have di1 : di < 5000 := by omega
      have hw3 : win'.length = k3 := HTK.out
      have hkb : kk < 5000 ∧ cc < 5000 := by omega
      have p1 := put_win (win := win') (ram := []) (A := kk) (n := 1) (by unfold inAt; omega) (by omega) (by decide)
      obtain ⟨xb, hxb⟩ : ∃ xb : Int, (x : Int) % 256 = xb := ⟨_, rfl⟩
      have HXB := Lib.hid (show xb = ((UInt8.ofNat x).toNat : Int) from by
        have := byte_cell x
        unfold bv at this
        injection this with _ this
        rw [this, hxb])
      obtain ⟨R0, hR0⟩ : ∃ R0, R0 = List.replicate 64 (0 : UInt8) := ⟨_, rfl⟩
      have hR0l : R0.length = 64 := by rw [hR0]; simp
      have HNW := Lib.hid (show ∀ g rb w1, MyMem V w1 g rb win' R0 →
          (Calls Try.prog 13 #[.pointer (some ⟨g, 0, none⟩), .int .u32 kki, .int .u8 xb] w1 fun e w' => e = .returned (.int .i32 (-20)) ∧ MyMem V w' g rb win' R0 ∧ Keeps [rb] w1 w') ∧
          (Calls Try.prog 11 #[.pointer (some ⟨g, 0, none⟩), .int .u32 cci, .int .u32 x] w1 fun e w' => e = .returned (.int .i32 (-20)) ∧ MyMem V w' g rb win' R0 ∧ Keeps [rb] w1 w') ∧
          (Calls Try.prog 17 #[.pointer (some ⟨g, 0, none⟩), .int .u32 kki, .int .u32 3, .int .u8 xb] w1 fun e w' => e = .returned (.int .i32 (-20)) ∧ MyMem V w' g rb win' R0 ∧ Keeps [rb] w1 w') ∧
          (Calls Try.prog 15 #[.pointer (some ⟨g, 0, none⟩), .int .u32 1048576, .int .u32 kki, .int .u32 2] w1 fun e w' => e = .returned (.int .i32 (-20)) ∧ MyMem V w' g rb win' R0 ∧ Keeps [rb] w1 w') ∧
          (Calls Try.prog 17 #[.pointer (some ⟨g, 0, none⟩), .int .u32 kki, .int .u32 0, .int .u8 1] w1 fun e w' => e = .returned (.int .i32 0) ∧ MyMem V w' g rb win' R0 ∧ Keeps [rb] w1 w') from by
        intro g rb w1 hm
        have q1 := put_win (win := win') (ram := R0) (A := kk) (n := 1) (by unfold inAt; omega) (by omega) (by decide)
        have q2 := put_win (win := win') (ram := R0) (A := kk) (n := 2) (by unfold inAt; omega) (by omega) (by decide)
        have q3 := put_win (win := win') (ram := R0) (A := kk) (n := 3) (by unfold inAt; omega) (by omega) (by decide)
        have q4 := put_win (win := win') (ram := R0) (A := cc) (n := 4) (by unfold inAt; omega) (by omega) (by decide)
        have hc4 : cc % 4 = 0 := by omega
        refine ⟨SetByte_my hm kki xb kk _ HKK.out HXB.out (by omega) _ _ q1.1 (q1.2 _), Store_my hm cci x cc x HCC.out rfl (by omega) x1 _ _ ?_ ?_, Fill_my hm kki 3 xb kk 3 _ HKK.out rfl HXB.out (by omega) (by decide) _ _ q3.1 (q3.2 _),
          Move_my hm 1048576 kki 2 1048576 kk 2 rfl HKK.out rfl (by decide) (by omega) (by decide) _ _ ?_ ?_, Fill_my hm kki 0 1 kk 0 1 HKK.out rfl rfl (by omega) (by decide) _ _ ?_ (q1.2 _)⟩
        · unfold storeT; rw [if_pos hc4]; exact q4.1
        · unfold storeL; rw [if_pos hc4]; exact q4.2 _
        · unfold moveT; rw [tT_ram (by unfold inAt; omega), if_pos rfl]; exact q2.1
        · unfold moveL; rw [tT_ram (by unfold inAt; omega), if_pos rfl]; exact q2.2 _
        · unfold pT; rw [if_neg (by unfold inAt; omega), if_pos (by unfold inAt; omega), if_pos rfl])
      have HR0 := Lib.hid hR0
      have HR0L := Lib.hid hR0l
      have HQ := Lib.hid (show kk < 5000 ∧ win'.length = k3 from ⟨hkb.1, hw3⟩)
      clear p1 hkk hd hcc2 hq hkb hw3 hq2 hR0 hR0l
      go_wp2_with fail
      refine (New_my V V (Keeps.refl _ _) 64 64 rfl (by decide) (by decide) (by decide) _ win' Mw (HRW.out.keeps HKV.out (by simp)) (by rw [HTK.out]; omega)).mono ?_
      rintro e w1 ⟨g, rb, rfl, hm, hk1⟩
      rw [← HR0.out] at hm
      have hng := hm.win_new
      have hnr := hm.ram_new
      have HSEP := Lib.hid (show ∀ y, y < V.heap.size → y ≠ g ∧ y ≠ rb from fun y hy => by omega)
      have HM1 := Lib.hid hm
      clear hm hk1 hng hnr
      go_wp2_with fail
      refine ((HNW.out g rb w1 HM1.out).1).mono ?_
      rintro e w2 ⟨rfl, hm, hk⟩
      have HM2 := Lib.hid hm; have HK2 := Lib.hid (HM1.out.kept.news (T := [g, rb]) (by simp) |>.trans (hk.mono (by simp))); clear hm hk HM1
      go_wp2_with fail
      refine ((HNW.out g rb w2 HM2.out).2.1).mono ?_
      rintro e w3 ⟨rfl, hm, hk⟩
      have HM3 := Lib.hid hm; have HK3 := Lib.hid (HK2.out.trans (hk.mono (by simp))); clear hm hk HM2 HK2
      go_wp2_with fail
      refine ((HNW.out g rb w3 HM3.out).2.2.1).mono ?_
      rintro e w4 ⟨rfl, hm, hk⟩
      have HM4' := Lib.hid hm; have HK4 := Lib.hid (HK3.out.trans (hk.mono (by simp))); clear hm hk HM3 HK3
      go_wp2_with fail
      refine ((HNW.out g rb w4 HM4'.out).2.2.2.1).mono ?_
      rintro e w5 ⟨rfl, hm, hk⟩
      have HM5 := Lib.hid hm; have HK5 := Lib.hid (HK4.out.trans (hk.mono (by simp))); clear hm hk HM4' HK4
      go_wp2_with fail
      refine ((HNW.out g rb w5 HM5.out).2.2.2.2).mono ?_
      rintro e w6 ⟨rfl, hm, hk⟩
      have HM6 := Lib.hid hm; have HK6 := Lib.hid (HK5.out.trans (hk.mono (by simp))); clear hm hk HM5 HK5
      go_wp2_with fail
      refine (Bytes_my HM6.out 4096 (k3 : Int) 4096 k3 rfl rfl (by decide) (by omega) win' 0 (by have := (gL_win win' R0).1; rwa [HTK.out] at this) (by have := (gL_win win' R0).2; rwa [HTK.out] at this)).mono ?_
      rintro e w7 ⟨a7, c7, M7, rfl, hr7, m7, hk7⟩
      have HM7 := Lib.hid (HM6.out.next hk7)
      have HK7 := Lib.hid (HK6.out.trans (hk7.mono (by simp)))
      have hcv1 := conv_reads hr7
      have hcv2 := conv_reads (HRW.out.keeps (HKV.out.trans HM7.out.kept) (by simp))
      rw [HTK.out] at hcv1 ⊢
      clear hr7 hk7 m7 HM6 HK6
      go_wp2_with fail
      refine (Show_my HM7.out _ oth' M4 (HR4.out.keeps HM7.out.kept (by simp)) (by rw [HOK.out]; omega)).mono ?_
      rintro e w8 ⟨rfl, hm, hk⟩
      have HM8 := Lib.hid hm
      have HK8 := Lib.hid (HK7.out.trans (hk.mono (by simp)))
      clear hm hk HM7 HK7
      have hapart : oth' ≠ [] → M4 ∉ [g, rb] := fun hne => by have := HSEP.out M4 (HM4.out hne).2.1.lt; simp [this]
      have hcv3 := conv_reads (HR4.out.ifKept HK8.out hapart)
      have HROW := Lib.hid (show oth' ≠ [] → Row w8 M4 5 (oth'.map bv) c4 from fun hne => (HM4.out hne).2.1.keeps HK8.out (hapart hne))
      have HA4 := Lib.hid (show 0 < k4 → a4 = some ⟨M4, 0, none⟩ ∧ oth' ≠ [] ∧ w.heap.size ≤ M4 ∧ M4 < V.heap.size from fun h0 => by
        have hne : oth' ≠ [] := by intro e; have := HOK.out; rw [e] at this; simp at this; omega
        exact ⟨(HM4.out hne).1, hne, (HM4.out hne).2.2, (HM4.out hne).2.1.lt⟩)
      have HW8 := Lib.hid (HKV.out.trans HM8.out.kept)
      obtain ⟨_, M9, wv9, hm9⟩ := HM8.out
      have HM9 := Lib.hid hm9
      clear hm9 hapart HM8 HM4 HNW
      go_wp2_with fail
      go_loopw [16, 115] (fun _ ix wr => ∃ j : Nat, j ≤ k4 ∧ ix = .int .i64 j ∧ Hid (MemAt wr V.heap.size g rb M9 wv9 oth' R0) ∧ Hid (Keeps [] w wr) ∧ Hid (0 < k4 → ∃ xs : List UInt8, xs.length = k4 ∧ Row wr M4 5 (xs.map bv) c4)) (fun _ ix _ => k4 - (intOf ix).toNat)
      case atStart => exact ⟨0, by omega, rfl, HM9, HW8, Lib.hid (fun h0 => ⟨oth', HOK.out, HROW.out (HA4.out h0).2.1⟩)⟩
      case round =>
        obtain ⟨j, hj, rfl, hm, hkw, hrow⟩ := hrel
        by_cases hlt : j < k4
        · have hji : (j : Int) < k4 := by omega
          obtain ⟨rfl, hne, hM4, hM4'⟩ := HA4.out (by omega)
          obtain ⟨xs, hxl, hr⟩ := hrow.out (by omega)
          obtain ⟨c, hc⟩ : ∃ c, xs[j]? = some c := ⟨_, List.getElem?_eq_getElem (by omega)⟩
          obtain ⟨y, hy⟩ : ∃ y : Int, y = c.toNat := ⟨_, rfl⟩
          have q0 : wr.cell? ⟨M4, j, none⟩ = some (.int .u8 y) := by rw [hy]; exact hr.cell j (by rw [List.getElem?_map, hc]; rfl)
          have f0 : wr.frozen? ⟨M4, j, none⟩ = false := hr.frozen j
          have y0 : 0 ≤ y := by omega
          have y1 : y < 256 := by have := c.toNat_lt; omega
          have HNR := Lib.hid (show ∃ xs : List UInt8, xs.length = k4 ∧ Row (wr.setCell ⟨M4, j, none⟩ (.int .u8 ((y + 1) % 256))) M4 5 (xs.map bv) c4 from by
            refine ⟨xs.set j (UInt8.ofNat (c.toNat + 1)), by simp [hxl], ?_⟩
            have := hr.set j (.int .u8 ((y + 1) % 256))
            rw [hy, show Value.int .u8 (((c.toNat : Int) + 1) % 256) = bv (UInt8.ofNat (c.toNat + 1)) by rw [byte_cell]; rfl, ← List.map_set] at this
            rw [hy, show Value.int .u8 (((c.toNat : Int) + 1) % 256) = bv (UInt8.ofNat (c.toNat + 1)) by rw [byte_cell]; rfl]
            exact this)
          have HNM := Lib.hid (show MemAt (wr.setCell ⟨M4, j, none⟩ (.int .u8 ((y + 1) % 256))) V.heap.size g rb M9 wv9 oth' R0 from
            hm.out.keeps (Keeps.setCell (S := [M4]) _ (by simp) _) (by have := hm.out.gH; simp; omega) (by have := hm.out.rbH; simp; omega) (fun hne => by have := (hm.out.winM hne).1; simp; omega))
          have HNK := Lib.hid (show Keeps [] w (wr.setCell ⟨M4, j, none⟩ (.int .u8 ((y + 1) % 256))) from hkw.out.then (Keeps.setCell (S := [M4]) _ (by simp) _) (fun z hz => .inr (by simp at hz; omega)))
          clear hy hc hr hxl
          go_wp2
          go_roundw
          case rel => exact ⟨j + 1, by omega, by go_num, HNM, HNK, Lib.hid (fun _ => HNR.out)⟩
          case measure => simp [intOf]; omega
        · obtain rfl : j = k4 := by omega
          have hgw := gL_win oth' R0
          rw [HOK.out] at hgw
          have HB := Lib.hid (fun U (hU : Keeps [] wr U) => Bytes_at (hm.out.next hU) 4096 j (by decide) (by omega))
          rw [hgw.1, hgw.2] at HB
          have HBY := Lib.hid (fun U (hU : Keeps [] wr U) => show Calls Try.prog 22 #[.pointer (some ⟨g, 0, none⟩), .int .u32 (4096 + (j : Int))] U fun e w' => ∃ b : Int, e = .returned (.tuple #[.int .u8 b, .int .i32 (-9)]) ∧ Keeps [] U w' from by
            have := Byte_at (hm.out.next hU) (4096 + j) (by omega)
            have ht : tT oth' R0 (4096 + j) 1 = -9 := by
              unfold tT
              rw [if_neg]
              unfold inAt
              have := HOK.out
              omega
            rw [ht] at this
            exact this.mono fun e w' ⟨he, hk⟩ => ⟨_, he, hk⟩)
          rw [HOK.out] at HB
          clear hgw
          go_wp2_with (first
            | (go_at_call 23; refine (HB.out _ (Keeps.refl _ _)).mono ?_; rintro e w10 ⟨a10, c10, M10, rfl, hr10, _, hk10⟩; have HR10 := Lib.hid hr10; have HK10 := Lib.hid hk10; clear hr10 hk10)
            | (go_at_call 22; refine (HBY.out _ HK10.out).mono ?_; rintro e w11 ⟨b, rfl, hk11⟩; have HK11 := Lib.hid (HK10.out.trans hk11); have hcv4 := conv_reads (HR10.out.keeps hk11 (by simp)); clear hk11)
            | (go_at_call 8; refine (awake9_any _).mono ?_; rintro e w12 ⟨rfl, hk12⟩; have HK12 := Lib.hid hk12; clear hk12))
          go_ret
          exact ⟨rfl, (hkw.out.trans HK11.out).trans HK12.out⟩
theorem MemWindow_all (w : World) (v : Value) (win : List UInt8) (Mw : Nat) (h : Reads w v win Mw) (hl : win.length ≤ maxLen) (at' x : Int) (at1 : 0 ≤ at' ∧ at' < 65536) (x1 : 0 ≤ x ∧ x < 4294967296) (ov : Value) (oth : List UInt8) (Mo : Nat) (ho : Reads w ov oth Mo) (hol : oth.length ≤ maxLen) :
    Calls Try.prog 6 #[v, .int .u16 at', .int .u32 x, ov] w fun e w' => e = .returned (.bool true) ∧ Keeps [] w w' := by
  obtain ⟨a, rfl⟩ := Int.eq_ofNat_of_zero_le at1.1
  obtain ⟨y, rfl⟩ := Int.eq_ofNat_of_zero_le x1.1
  exact MemWindow_any w v win Mw h hl a y (by omega) (by omega) ov oth Mo ho hol
end Go.Proofs.Ytcbdkkpoliameaa
