/-
  ImageTotal, walked.
-/
import Derived.Test.YteaikbchbahdjaaImRows
namespace Go.Proofs.Yteaikbchbahdjaa
open Go.RowKit Go.Deep
set_option linter.unusedVariables false

set_option maxRecDepth 100000 in
set_option maxHeartbeats 2000000 in
theorem ImageTotal_long (w : World) (a b : Option Addr) (n m c d : Nat) (u : Int) (h : 3000 < n ∨ 10 < m) : Calls Try.prog 5 #[.slice a n c, .slice b m d, .int .u16 u] w fun e w' => e = .returned (.bool true) ∧ Keeps [] w w' := by
  by_cases hn : 3000 < n
  · have hn' : (3000 : Int) < (n : Int) := by omega
    clear h
    go_enter Try.func5, Try.ntmps5
    go_wp2_with (go_at_call 8; refine (awake10_any _).mono ?_; rintro e w' ⟨rfl, hk⟩)
    go_ret
    exact ⟨rfl, hk⟩
  · have hn' : ¬ (3000 : Int) < (n : Int) := by omega
    have hm' : (10 : Int) < (m : Int) := by omega
    clear h
    go_enter Try.func5, Try.ntmps5
    go_wp2_with (go_at_call 8; refine (awake10_any _).mono ?_; rintro e w' ⟨rfl, hk⟩)
    go_ret
    exact ⟨rfl, hk⟩

theorem sizeL_take_le (l : List Wd) (k : Nat) : sizeL (l.take k) ≤ sizeL l := by
  have := sizeL_append (l.take k) (l.drop k)
  rw [List.take_append_drop] at this
  omega

theorem fits_bytes {l : List Wd} (h : sizeL l ≤ 900000) : fits10 l := fun k _ _ => Nat.le_trans (sizeL_take_le l k) h

theorem enc_split (l : List Wd) (j : Nat) : encL l = encL (l.take j) ++ encL (l.drop j) := by rw [← encL_append, List.take_append_drop]

/-- Cut off where a word ends: the words up to there. -/
theorem dec_at {l : List Wd} (hr : rightL l = true) {j kk : Nat} (h : sizeL (l.take j) = kk) : decL ((encL l).take kk) = some (l.take j) := by
  rw [enc_split l j, List.take_left' h]
  refine dec_right _ ?_
  unfold rightL at hr ⊢
  rw [List.all_eq_true] at hr ⊢
  exact fun y hy => hr y (List.mem_of_mem_take hy)

/-- Cut off within a word: none. -/
theorem dec_in {l : List Wd} (hr : rightL l = true) {j kk : Nat} {x : Wd} (hx : l[j]? = some x) (h1 : sizeL (l.take j) < kk) (h2 : kk < sizeL (l.take j) + sizeW x) : decL ((encL l).take kk) = none := by
  have hd : l.drop j = x :: l.drop (j + 1) := by
    have hj := (List.getElem?_eq_some_iff.1 hx).1
    have hv := (List.getElem?_eq_some_iff.1 hx).2
    rw [List.drop_eq_getElem_cons hj, hv]
  have e : (encL l).take kk = encL (l.take j) ++ (bytesW x).take (kk - sizeL (l.take j)) := by
    have h3 : (encL (l.take j)).length = sizeL (l.take j) := rfl
    rw [enc_split l j, hd, show encL (x :: l.drop (j + 1)) = bytesW x ++ encL (l.drop (j + 1)) from by unfold encL; rw [List.flatMap_cons], List.take_append, h3, List.take_of_length_le (by rw [h3]; omega), List.take_append_of_le_length (by rw [bytesW_length]; omega)]
  rw [e]
  have hall := hr
  unfold rightL at hall
  rw [List.all_eq_true] at hall
  refine dec_cut _ ?_ x (hall x (List.mem_of_getElem? hx)) _ (by omega) (by omega)
  unfold rightL
  rw [List.all_eq_true]
  exact fun y hy => hall y (List.mem_of_mem_take hy)

theorem underWords : Try.prog.underlying 22 = some (.slice (Try.prog.elem 22)) := by kernel_rfl
theorem sizeWord (w : World) : (sizeOf (Try.prog.elem 22)).run Try.prog w = .ok 3 w := by kernel_rfl
theorem run_cutW_h (w : World) (a : Option Addr) (len cap hi : Nat) (h : hi ≤ cap) : (Instr.sliceAt 22 (.slice a len cap) none (some (.int .i64 hi)) none).run Try.prog w = .ok (.slice a hi cap) w := by
  have hu := underWords
  rw [run_sliceAt_slice _ _ _ _ _ _ hu, run_slice_h _ _ _ _ _ hu _ _ (by omega) (by omega), sizeWord]
  show Result.ok (sliced a 0 ((hi : Int)).toNat cap 3) w = _
  rw [Int.toNat_natCast]
  unfold sliced
  split
  · simp
  · simp [Addr.add]

set_option maxRecDepth 100000 in
set_option maxHeartbeats 4000000 in
theorem ImageTotal_short (w : World) (ab aw : Option Addr) (n m cb cw : Nat) (b : List UInt8) (M : Nat) (hr : Reads w (.slice ab n cb) b M) (l : List Wd) (hl : WordsIn w (fun q => q < w.heap.size) (.slice aw m cw) l) (u : Nat) (hu : u ≤ 65535)
    (hn : n = b.length) (hm : m = l.length) (h1 : n ≤ 3000) (h2 : m ≤ 10) : Calls Try.prog 5 #[.slice ab n cb, .slice aw m cw, .int .u16 u] w fun e w' => e = .returned (.bool true) ∧ Keeps [] w w' := by
  have HRB := Lib.hid hr
  have HWL := Lib.hid hl
  have HN := Lib.hid hn
  have HM := Lib.hid hm
  have HALLT := Lib.hid (List.take_length (l := l))
  have hmc : m ≤ cw := by obtain ⟨a', c', hv, hc, _⟩ := hl.shape; injection hv with e1 e2 e3; rw [e2, e3]; exact hc
  have hn' : ¬ (3000 : Int) < (n : Int) := by omega
  have hm' : ¬ (10 : Int) < (m : Int) := by omega
  have HEW := Lib.hid fun (h : rightL l = false) (W : World) (hk : Keeps [] w W) => Encode_wrong W _ _ l (hl.next hk) (fits_few (by omega)) h
  have HER := Lib.hid fun (h : rightL l = true) (W : World) (hk : Keeps [] w W) => Encode_right W _ _ l (hl.next hk) (fits_few (by omega)) h
  cases hd : decL b with
  | some ms =>
    have HD := Lib.hid (Decode_ok w _ b M hr (by omega) ms hd)
    obtain ⟨hmr, hbe⟩ := dec_back hd
    have hms : sizeL ms ≤ 3000 := by unfold sizeL; rw [← hbe]; omega
    have HCB := Lib.hid fun (W : World) (hk : Keeps [] w W) => conv_reads (hr.keeps hk (by simp))
    have HE := Lib.hid fun (W : World) (P : Nat → Prop) (v : Value) (h : WordsIn W P v ms) => Encode_right W P v ms h (fits_bytes (by omega)) hmr
    rw [hbe] at HCB
    have hbl : b.length ≤ 3000 := by omega
    clear hr hl hd hbe hmr hn hm
    go_enter Try.func5, Try.ntmps5
    go_upto_region 5 with (go_at_call 17; refine HD.out.mono ?_; rintro e w1 ⟨L1, v1, hL1, rfl, hw1, hl1, hk1⟩; have HL1 := Lib.hid hL1; have HW1 := Lib.hid hw1; have K1 := Lib.hid hk1; have HLL := Lib.hid hl1; clear hL1 hw1 hk1 hl1)
    have HX := Lib.hid (HW1.out.words (by have := congrArg List.length HL1.out; rw [List.length_map] at this; have := HLL.out; unfold maxLen; omega))
    rw [HL1.out] at HX
    go_upto_region 6 with (go_at_call 15; refine (HE.out _ _ _ HX.out).mono ?_; rintro e w2 ⟨v2, rfl, ho2, hk2⟩; have HO2 := Lib.hid ho2; have K2 := Lib.hid (K1.out.trans hk2); clear ho2 hk2)
    obtain ⟨M2, hr2, _⟩ := owns_reads2 HO2.out
    have c1 := conv_reads hr2
    have c2 := HCB.out w2 K2.out
    clear hr2 HO2 HX HW1 HL1 K1
    go_upto_region 10 with fail
    clear c1 c2
    cases hrt : rightL l with
    | false =>
      have HE1 := Lib.hid (HEW.out hrt _ K2.out)
      clear hrt HEW HER
      go_wp2_with (first
        | (go_at_call 15; refine HE1.out.mono ?_; rintro e w3 ⟨rfl, hk3⟩; have K3 := Lib.hid (K2.out.trans hk3); clear hk3)
        | (go_at_call 8; refine (awake10_any _).mono ?_; rintro e w4 ⟨rfl, hk4⟩; have K4 := Lib.hid (K3.out.trans hk4); clear hk4))
      go_ret
      exact ⟨rfl, K4.out⟩
    | true =>
      have HE1 := Lib.hid (HER.out hrt _ K2.out)
      have HRT := Lib.hid hrt
      have hl0 := HWL
      clear hrt HEW HER
      go_upto_region 13 with (go_at_call 15; refine HE1.out.mono ?_; rintro e w3 ⟨v3, rfl, ho3, hk3⟩; have HO3 := Lib.hid ho3; have K3 := Lib.hid (K2.out.trans hk3); clear ho3 hk3)
      obtain ⟨MX, hr3, _⟩ := owns_reads2 HO3.out
      obtain ⟨ax, cx, hv3, hcx⟩ := hr3.shape
      have HRX := Lib.hid hr3
      obtain ⟨la, hla⟩ : ∃ la, (encL l).length = la := ⟨_, rfl⟩
      rw [hla] at hv3
      subst hv3
      have HLA := Lib.hid hla
      have HLB := Lib.hid (show la ≤ 40350 by rw [← hla]; have := sizeL_le HRT.out; unfold sizeL at this; have := HM.out; omega)
      have hlb := HLB.out
      clear hr3 hla HO3 hcx
      obtain ⟨kk, hkk⟩ : ∃ kk, kk = u % (la + 1) := ⟨_, rfl⟩
      have e1 : (u : Int) % ((la : Int) + 1) = (kk : Int) := by rw [hkk, Int.natCast_emod, Int.natCast_add]; rfl
      have e2 : (u : Int).tmod ((la : Int) + 1) = (kk : Int) := by rw [Int.tmod_eq_emod_of_nonneg (by omega)]; exact e1
      have HKL := Lib.hid (show kk ≤ la by rw [hkk]; have := Nat.mod_lt u (show 0 < la + 1 by omega); omega)
      clear hkk
      go_wp2
      go_loopw [14, 15] (fun wh at' wr => ∃ j z : Nat, j ≤ m ∧ wh = .int .i64 j ∧ at' = .int .i64 z ∧ sizeL (l.take j) = z ∧ z ≤ kk ∧ Keeps [] w3 wr) (fun wh _ _ => m - (intOf wh).toNat)
      case atStart => exact ⟨0, 0, Nat.zero_le _, rfl, rfl, rfl, Nat.zero_le _, Keeps.refl _ _⟩
      case round =>
        obtain ⟨j, z, hj, rfl, rfl, hz, hzk, hkw⟩ := hrel
        have HZ := Lib.hid hz
        have KR := Lib.hid hkw
        have KW := Lib.hid (K3.out.trans hkw)
        clear hz hkw
        have hkl0 := HKL.out
        by_cases hlt : j < m
        · have hnl : l ≠ [] := by intro e; have := HM.out; rw [e] at this; simp at this; omega
          obtain ⟨B7, o7, cap', hv', _, _, _, _, hx⟩ := HWL.out.at hnl
          injection hv' with f1 f2 f3
          subst f1
          clear f2 f3
          obtain ⟨x, hget⟩ : ∃ x, l[j]? = some x := ⟨_, List.getElem?_eq_getElem (by have := HM.out; omega)⟩
          obtain ⟨a5, c5, M5, o5, p0, p1, p2, _⟩ := hx j x hget
          have p0 := KW.out.cell p0 (by simp)
          have p1 := KW.out.cell p1 (by simp)
          have p2 := KW.out.cell p2 (by simp)
          have hxr : rightW x = true := by
            have := HRT.out
            unfold rightL at this
            exact List.all_eq_true.1 this x (List.mem_of_getElem? hget)
          have HSZ := Lib.hid fun (W : World) => Size_any W x a5 c5 (sizeW x : Int) (by unfold sizeR; rw [if_pos hxr])
          have HST := Lib.hid (sizeL_take hget)
          have HGET := Lib.hid hget
          have hb1 := sizeW_le hxr
          clear hx hget hxr hnl
          unfold wvl str bv at *
          generalize ByteArray.mk x.name.toArray = t at *
          generalize (x.flags.toNat : Int) = f at *
          generalize x.code.length = cl at *
          obtain ⟨y, hy⟩ : ∃ y, sizeW x = y := ⟨_, rfl⟩
          have HY := Lib.hid hy
          rw [hy] at HSZ hb1
          clear hy
          by_cases hgo : z + y ≤ kk
          · have hgo' : (z : Int) + (y : Int) ≤ (kk : Int) := by omega
            go_wp2_with (go_at_call 12; refine (HSZ.out _).mono ?_; first | (rintro e w6 ⟨rfl, hk6⟩; have K6 := Lib.hid (K5.out.trans hk6); clear hk6) | (rintro e w5 ⟨rfl, hk5⟩; have K5 := Lib.hid hk5; have q0 := hk5.cell p0 (by simp); have q1 := hk5.cell p1 (by simp); have q2 := hk5.cell p2 (by simp); clear hk5))
            go_roundw
            case rel => first | exact ⟨j + 1, z + y, by omega, by go_num, by go_num, by rw [HST.out, HZ.out, HY.out], hgo, KR.out.trans K6.out⟩ | ((repeat apply Exists.intro); exact ⟨⟨j + 1, z + y, by omega, by go_num, by go_num, by rw [HST.out, HZ.out, HY.out], hgo, KR.out.trans K6.out⟩, rfl⟩)
            case measure => simp [intOf]; omega
          · have hgo' : ¬ (z : Int) + (y : Int) ≤ (kk : Int) := by omega
            go_upto_region 18 with (go_at_call 12; refine (HSZ.out _).mono ?_; rintro e w5 ⟨rfl, hk5⟩; have K5 := Lib.hid hk5; clear hk5)
            have KXR := Lib.hid (KR.out.trans K5.out)
            have KWR := Lib.hid (KW.out.trans K5.out)
            have hkl : kk ≤ la := HKL.out
            obtain ⟨p, c, hrun, hrd⟩ := (show Reads w5 (.slice ax (encL l).length cx) (encL l) MX by rw [HLA.out]; exact HRX.out.keeps (KXR.out) (by simp)).head kk (by rw [HLA.out]; exact hkl)
            rw [HLA.out] at hrun
            have htl : ((encL l).take kk).length = kk := by rw [List.length_take, HLA.out]; omega
            rw [htl] at hrun hrd
            by_cases hze : z = kk
            · have hdc := dec_at HRT.out (HZ.out.trans hze)
              have HDC := Lib.hid (Decode_ok w5 _ _ MX hrd (by rw [htl]; have := HLB.out; omega) _ hdc)
              have hcw := fun w => run_cutW_h w (some ⟨B7, o7, none⟩) m cw j (by omega)
              have hzk : ((z : Int) == (kk : Int)) = true := by simp; omega
              have HWT := Lib.hid fun (W : World) (hk : Keeps [] w W) => (by
                have := hl0.out.next hk
                rw [HM.out] at this
                exact this.take j (by rw [← HM.out]; exact hj) : WordsIn W (fun q => q < w.heap.size) (.slice (some ⟨B7, o7, none⟩) j cw) (l.take j))
              clear hdc htl hrd hze
              go_wp2_with (first
                | (go_at_call 17; refine HDC.out.mono ?_; rintro e w7 ⟨L7, v7, hL7, rfl, hw7, hl7, hk7⟩; have K7 := Lib.hid (KWR.out.trans hk7); have HX7 := Lib.hid (hw7.words (by have := congrArg List.length hL7; rw [List.length_map, List.length_take] at this; have := HLB.out; unfold maxLen; omega)); rw [hL7] at HX7; clear hL7 hw7 hl7 hk7)
                | (go_at_call 19; refine (All_any _ _ _ _ _ _ _ HX7.out (HWT.out _ K7.out) true ((all_iff _ _).2 rfl)).mono ?_; rintro e w8 ⟨rfl, hk8⟩; have K8 := Lib.hid (K7.out.trans hk8); clear hk8)
                | (go_at_call 8; refine (awake10_any _).mono ?_; rintro e w9 ⟨rfl, hk9⟩; have K9 := Lib.hid (K8.out.trans hk9); clear hk9))
              go_ret
              exact ⟨rfl, K9.out⟩
            · have hdc : decL ((encL l).take kk) = none := by
                exact dec_in HRT.out HGET.out (by rw [HZ.out]; omega) (by rw [HZ.out, HY.out]; omega)
              have HDC := Lib.hid (Decode_bad w5 _ _ MX hrd (by rw [htl]; have := HLB.out; omega) hdc)
              have hzk : ((z : Int) == (kk : Int)) = false := by rw [beq_eq_false_iff_ne]; omega
              clear hdc htl hrd hze
              go_wp2_with (first
                | (go_at_call 17; refine HDC.out.mono ?_; rintro e w7 ⟨rfl, hk7⟩; have K7 := Lib.hid (KWR.out.trans hk7); clear hk7)
                | (go_at_call 8; refine (awake10_any _).mono ?_; rintro e w9 ⟨rfl, hk9⟩; have K9 := Lib.hid (K7.out.trans hk9); clear hk9))
              go_ret
              exact ⟨rfl, K9.out⟩
        · have hjm : j = m := by omega
          have hjx : ¬ (j : Int) < (m : Int) := by omega
          have hza : z = la := by rw [← HZ.out, ← HLA.out, hjm, HM.out, HALLT.out]; rfl
          have HZA := Lib.hid hza
          clear hjm hza
          have KXR := KR
          have KWR := KW
          go_upto_region 18 with fail
          have hkl : kk ≤ la := HKL.out
          obtain ⟨p, c, hrun, hrd⟩ := (show Reads wr (.slice ax (encL l).length cx) (encL l) MX by rw [HLA.out]; exact HRX.out.keeps (KXR.out) (by simp)).head kk (by rw [HLA.out]; exact hkl)
          rw [HLA.out] at hrun
          have htl : ((encL l).take kk).length = kk := by rw [List.length_take, HLA.out]; omega
          rw [htl] at hrun hrd
          by_cases hze : z = kk
          · have hdc := dec_at HRT.out (HZ.out.trans hze)
            have HDC := Lib.hid (Decode_ok wr _ _ MX hrd (by rw [htl]; have := HLB.out; omega) _ hdc)
            have hcw := fun w => run_cutW_h w aw m cw j (by omega)
            have hzk : ((z : Int) == (kk : Int)) = true := by simp; omega
            have HWT := Lib.hid fun (W : World) (hk : Keeps [] w W) => (by
              have := hl0.out.next hk
              rw [HM.out] at this
              exact this.take j (by rw [← HM.out]; exact hj) : WordsIn W (fun q => q < w.heap.size) (.slice aw j cw) (l.take j))
            clear hdc htl hrd hze
            go_wp2_with (first
              | (go_at_call 17; refine HDC.out.mono ?_; rintro e w7 ⟨L7, v7, hL7, rfl, hw7, hl7, hk7⟩; have K7 := Lib.hid (KWR.out.trans hk7); have HX7 := Lib.hid (hw7.words (by have := congrArg List.length hL7; rw [List.length_map, List.length_take] at this; have := HLB.out; unfold maxLen; omega)); rw [hL7] at HX7; clear hL7 hw7 hl7 hk7)
              | (go_at_call 19; refine (All_any _ _ _ _ _ _ _ HX7.out (HWT.out _ K7.out) true ((all_iff _ _).2 rfl)).mono ?_; rintro e w8 ⟨rfl, hk8⟩; have K8 := Lib.hid (K7.out.trans hk8); clear hk8)
              | (go_at_call 8; refine (awake10_any _).mono ?_; rintro e w9 ⟨rfl, hk9⟩; have K9 := Lib.hid (K8.out.trans hk9); clear hk9))
            go_ret
            exact ⟨rfl, K9.out⟩
          · have hdc : decL ((encL l).take kk) = none := by
              exfalso; have := HZA.out; omega
            have HDC := Lib.hid (Decode_bad wr _ _ MX hrd (by rw [htl]; have := HLB.out; omega) hdc)
            have hzk : ((z : Int) == (kk : Int)) = false := by rw [beq_eq_false_iff_ne]; omega
            clear hdc htl hrd hze
            go_wp2_with (first
              | (go_at_call 17; refine HDC.out.mono ?_; rintro e w7 ⟨rfl, hk7⟩; have K7 := Lib.hid (KWR.out.trans hk7); clear hk7)
              | (go_at_call 8; refine (awake10_any _).mono ?_; rintro e w9 ⟨rfl, hk9⟩; have K9 := Lib.hid (K7.out.trans hk9); clear hk9))
            go_ret
            exact ⟨rfl, K9.out⟩
  | none =>
    have HD := Lib.hid (Decode_bad w _ b M hr (by omega) hd)
    clear hr hl hd hn hm
    go_enter Try.func5, Try.ntmps5
    go_upto_region 10 with (go_at_call 17; refine HD.out.mono ?_; rintro e w2 ⟨rfl, hk2⟩; have K2 := Lib.hid hk2; clear hk2)
    cases hrt : rightL l with
    | false =>
      have HE1 := Lib.hid (HEW.out hrt _ K2.out)
      clear hrt HEW HER
      go_wp2_with (first
        | (go_at_call 15; refine HE1.out.mono ?_; rintro e w3 ⟨rfl, hk3⟩; have K3 := Lib.hid (K2.out.trans hk3); clear hk3)
        | (go_at_call 8; refine (awake10_any _).mono ?_; rintro e w4 ⟨rfl, hk4⟩; have K4 := Lib.hid (K3.out.trans hk4); clear hk4))
      go_ret
      exact ⟨rfl, K4.out⟩
    | true =>
      have HE1 := Lib.hid (HER.out hrt _ K2.out)
      have HRT := Lib.hid hrt
      have hl0 := HWL
      clear hrt HEW HER
      go_upto_region 13 with (go_at_call 15; refine HE1.out.mono ?_; rintro e w3 ⟨v3, rfl, ho3, hk3⟩; have HO3 := Lib.hid ho3; have K3 := Lib.hid (K2.out.trans hk3); clear ho3 hk3)
      obtain ⟨MX, hr3, _⟩ := owns_reads2 HO3.out
      obtain ⟨ax, cx, hv3, hcx⟩ := hr3.shape
      have HRX := Lib.hid hr3
      obtain ⟨la, hla⟩ : ∃ la, (encL l).length = la := ⟨_, rfl⟩
      rw [hla] at hv3
      subst hv3
      have HLA := Lib.hid hla
      have HLB := Lib.hid (show la ≤ 40350 by rw [← hla]; have := sizeL_le HRT.out; unfold sizeL at this; have := HM.out; omega)
      have hlb := HLB.out
      clear hr3 hla HO3 hcx
      obtain ⟨kk, hkk⟩ : ∃ kk, kk = u % (la + 1) := ⟨_, rfl⟩
      have e1 : (u : Int) % ((la : Int) + 1) = (kk : Int) := by rw [hkk, Int.natCast_emod, Int.natCast_add]; rfl
      have e2 : (u : Int).tmod ((la : Int) + 1) = (kk : Int) := by rw [Int.tmod_eq_emod_of_nonneg (by omega)]; exact e1
      have HKL := Lib.hid (show kk ≤ la by rw [hkk]; have := Nat.mod_lt u (show 0 < la + 1 by omega); omega)
      clear hkk
      go_wp2
      go_loopw [14, 15] (fun wh at' wr => ∃ j z : Nat, j ≤ m ∧ wh = .int .i64 j ∧ at' = .int .i64 z ∧ sizeL (l.take j) = z ∧ z ≤ kk ∧ Keeps [] w3 wr) (fun wh _ _ => m - (intOf wh).toNat)
      case atStart => exact ⟨0, 0, Nat.zero_le _, rfl, rfl, rfl, Nat.zero_le _, Keeps.refl _ _⟩
      case round =>
        obtain ⟨j, z, hj, rfl, rfl, hz, hzk, hkw⟩ := hrel
        have HZ := Lib.hid hz
        have KR := Lib.hid hkw
        have KW := Lib.hid (K3.out.trans hkw)
        clear hz hkw
        have hkl0 := HKL.out
        by_cases hlt : j < m
        · have hnl : l ≠ [] := by intro e; have := HM.out; rw [e] at this; simp at this; omega
          obtain ⟨B7, o7, cap', hv', _, _, _, _, hx⟩ := HWL.out.at hnl
          injection hv' with f1 f2 f3
          subst f1
          clear f2 f3
          obtain ⟨x, hget⟩ : ∃ x, l[j]? = some x := ⟨_, List.getElem?_eq_getElem (by have := HM.out; omega)⟩
          obtain ⟨a5, c5, M5, o5, p0, p1, p2, _⟩ := hx j x hget
          have p0 := KW.out.cell p0 (by simp)
          have p1 := KW.out.cell p1 (by simp)
          have p2 := KW.out.cell p2 (by simp)
          have hxr : rightW x = true := by
            have := HRT.out
            unfold rightL at this
            exact List.all_eq_true.1 this x (List.mem_of_getElem? hget)
          have HSZ := Lib.hid fun (W : World) => Size_any W x a5 c5 (sizeW x : Int) (by unfold sizeR; rw [if_pos hxr])
          have HST := Lib.hid (sizeL_take hget)
          have HGET := Lib.hid hget
          have hb1 := sizeW_le hxr
          clear hx hget hxr hnl
          unfold wvl str bv at *
          generalize ByteArray.mk x.name.toArray = t at *
          generalize (x.flags.toNat : Int) = f at *
          generalize x.code.length = cl at *
          obtain ⟨y, hy⟩ : ∃ y, sizeW x = y := ⟨_, rfl⟩
          have HY := Lib.hid hy
          rw [hy] at HSZ hb1
          clear hy
          by_cases hgo : z + y ≤ kk
          · have hgo' : (z : Int) + (y : Int) ≤ (kk : Int) := by omega
            go_wp2_with (go_at_call 12; refine (HSZ.out _).mono ?_; first | (rintro e w6 ⟨rfl, hk6⟩; have K6 := Lib.hid (K5.out.trans hk6); clear hk6) | (rintro e w5 ⟨rfl, hk5⟩; have K5 := Lib.hid hk5; have q0 := hk5.cell p0 (by simp); have q1 := hk5.cell p1 (by simp); have q2 := hk5.cell p2 (by simp); clear hk5))
            go_roundw
            case rel => first | exact ⟨j + 1, z + y, by omega, by go_num, by go_num, by rw [HST.out, HZ.out, HY.out], hgo, KR.out.trans K6.out⟩ | ((repeat apply Exists.intro); exact ⟨⟨j + 1, z + y, by omega, by go_num, by go_num, by rw [HST.out, HZ.out, HY.out], hgo, KR.out.trans K6.out⟩, rfl⟩)
            case measure => simp [intOf]; omega
          · have hgo' : ¬ (z : Int) + (y : Int) ≤ (kk : Int) := by omega
            go_upto_region 18 with (go_at_call 12; refine (HSZ.out _).mono ?_; rintro e w5 ⟨rfl, hk5⟩; have K5 := Lib.hid hk5; clear hk5)
            have KXR := Lib.hid (KR.out.trans K5.out)
            have KWR := Lib.hid (KW.out.trans K5.out)
            have hkl : kk ≤ la := HKL.out
            obtain ⟨p, c, hrun, hrd⟩ := (show Reads w5 (.slice ax (encL l).length cx) (encL l) MX by rw [HLA.out]; exact HRX.out.keeps (KXR.out) (by simp)).head kk (by rw [HLA.out]; exact hkl)
            rw [HLA.out] at hrun
            have htl : ((encL l).take kk).length = kk := by rw [List.length_take, HLA.out]; omega
            rw [htl] at hrun hrd
            by_cases hze : z = kk
            · have hdc := dec_at HRT.out (HZ.out.trans hze)
              have HDC := Lib.hid (Decode_ok w5 _ _ MX hrd (by rw [htl]; have := HLB.out; omega) _ hdc)
              have hcw := fun w => run_cutW_h w (some ⟨B7, o7, none⟩) m cw j (by omega)
              have hzk : ((z : Int) == (kk : Int)) = true := by simp; omega
              have HWT := Lib.hid fun (W : World) (hk : Keeps [] w W) => (by
                have := hl0.out.next hk
                rw [HM.out] at this
                exact this.take j (by rw [← HM.out]; exact hj) : WordsIn W (fun q => q < w.heap.size) (.slice (some ⟨B7, o7, none⟩) j cw) (l.take j))
              clear hdc htl hrd hze
              go_wp2_with (first
                | (go_at_call 17; refine HDC.out.mono ?_; rintro e w7 ⟨L7, v7, hL7, rfl, hw7, hl7, hk7⟩; have K7 := Lib.hid (KWR.out.trans hk7); have HX7 := Lib.hid (hw7.words (by have := congrArg List.length hL7; rw [List.length_map, List.length_take] at this; have := HLB.out; unfold maxLen; omega)); rw [hL7] at HX7; clear hL7 hw7 hl7 hk7)
                | (go_at_call 19; refine (All_any _ _ _ _ _ _ _ HX7.out (HWT.out _ K7.out) true ((all_iff _ _).2 rfl)).mono ?_; rintro e w8 ⟨rfl, hk8⟩; have K8 := Lib.hid (K7.out.trans hk8); clear hk8)
                | (go_at_call 8; refine (awake10_any _).mono ?_; rintro e w9 ⟨rfl, hk9⟩; have K9 := Lib.hid (K8.out.trans hk9); clear hk9))
              go_ret
              exact ⟨rfl, K9.out⟩
            · have hdc : decL ((encL l).take kk) = none := by
                exact dec_in HRT.out HGET.out (by rw [HZ.out]; omega) (by rw [HZ.out, HY.out]; omega)
              have HDC := Lib.hid (Decode_bad w5 _ _ MX hrd (by rw [htl]; have := HLB.out; omega) hdc)
              have hzk : ((z : Int) == (kk : Int)) = false := by rw [beq_eq_false_iff_ne]; omega
              clear hdc htl hrd hze
              go_wp2_with (first
                | (go_at_call 17; refine HDC.out.mono ?_; rintro e w7 ⟨rfl, hk7⟩; have K7 := Lib.hid (KWR.out.trans hk7); clear hk7)
                | (go_at_call 8; refine (awake10_any _).mono ?_; rintro e w9 ⟨rfl, hk9⟩; have K9 := Lib.hid (K7.out.trans hk9); clear hk9))
              go_ret
              exact ⟨rfl, K9.out⟩
        · have hjm : j = m := by omega
          have hjx : ¬ (j : Int) < (m : Int) := by omega
          have hza : z = la := by rw [← HZ.out, ← HLA.out, hjm, HM.out, HALLT.out]; rfl
          have HZA := Lib.hid hza
          clear hjm hza
          have KXR := KR
          have KWR := KW
          go_upto_region 18 with fail
          have hkl : kk ≤ la := HKL.out
          obtain ⟨p, c, hrun, hrd⟩ := (show Reads wr (.slice ax (encL l).length cx) (encL l) MX by rw [HLA.out]; exact HRX.out.keeps (KXR.out) (by simp)).head kk (by rw [HLA.out]; exact hkl)
          rw [HLA.out] at hrun
          have htl : ((encL l).take kk).length = kk := by rw [List.length_take, HLA.out]; omega
          rw [htl] at hrun hrd
          by_cases hze : z = kk
          · have hdc := dec_at HRT.out (HZ.out.trans hze)
            have HDC := Lib.hid (Decode_ok wr _ _ MX hrd (by rw [htl]; have := HLB.out; omega) _ hdc)
            have hcw := fun w => run_cutW_h w aw m cw j (by omega)
            have hzk : ((z : Int) == (kk : Int)) = true := by simp; omega
            have HWT := Lib.hid fun (W : World) (hk : Keeps [] w W) => (by
              have := hl0.out.next hk
              rw [HM.out] at this
              exact this.take j (by rw [← HM.out]; exact hj) : WordsIn W (fun q => q < w.heap.size) (.slice aw j cw) (l.take j))
            clear hdc htl hrd hze
            go_wp2_with (first
              | (go_at_call 17; refine HDC.out.mono ?_; rintro e w7 ⟨L7, v7, hL7, rfl, hw7, hl7, hk7⟩; have K7 := Lib.hid (KWR.out.trans hk7); have HX7 := Lib.hid (hw7.words (by have := congrArg List.length hL7; rw [List.length_map, List.length_take] at this; have := HLB.out; unfold maxLen; omega)); rw [hL7] at HX7; clear hL7 hw7 hl7 hk7)
              | (go_at_call 19; refine (All_any _ _ _ _ _ _ _ HX7.out (HWT.out _ K7.out) true ((all_iff _ _).2 rfl)).mono ?_; rintro e w8 ⟨rfl, hk8⟩; have K8 := Lib.hid (K7.out.trans hk8); clear hk8)
              | (go_at_call 8; refine (awake10_any _).mono ?_; rintro e w9 ⟨rfl, hk9⟩; have K9 := Lib.hid (K8.out.trans hk9); clear hk9))
            go_ret
            exact ⟨rfl, K9.out⟩
          · have hdc : decL ((encL l).take kk) = none := by
              exfalso; have := HZA.out; omega
            have HDC := Lib.hid (Decode_bad wr _ _ MX hrd (by rw [htl]; have := HLB.out; omega) hdc)
            have hzk : ((z : Int) == (kk : Int)) = false := by rw [beq_eq_false_iff_ne]; omega
            clear hdc htl hrd hze
            go_wp2_with (first
              | (go_at_call 17; refine HDC.out.mono ?_; rintro e w7 ⟨rfl, hk7⟩; have K7 := Lib.hid (KWR.out.trans hk7); clear hk7)
              | (go_at_call 8; refine (awake10_any _).mono ?_; rintro e w9 ⟨rfl, hk9⟩; have K9 := Lib.hid (K7.out.trans hk9); clear hk9))
            go_ret
            exact ⟨rfl, K9.out⟩

theorem ImageTotal_any (w : World) (v : Value) (b : List UInt8) (M : Nat) (hr : Reads w v b M) (hM : b ≠ [] → M < w.heap.size) (u : Value) (l : List Wd) (hl : WordsIn w (fun q => q < w.heap.size) u l) (c : Int) (hc : 0 ≤ c ∧ c ≤ 65535) :
    Calls Try.prog 5 #[v, u, .int .u16 c] w fun e w' => e = .returned (.bool true) ∧ Keeps [] w w' := by
  obtain ⟨ab, cb, rfl, _⟩ := hr.shape
  obtain ⟨aw, cw, rfl, _⟩ := hl.shape
  obtain ⟨k, rfl⟩ := Int.eq_ofNat_of_zero_le hc.1
  by_cases h : 3000 < b.length ∨ 10 < l.length
  · exact ImageTotal_long w ab aw _ _ cb cw _ h
  · exact ImageTotal_short w ab aw _ _ cb cw b M hr l hl k (by omega) rfl rfl (by omega) (by omega)
end Go.Proofs.Yteaikbchbahdjaa
