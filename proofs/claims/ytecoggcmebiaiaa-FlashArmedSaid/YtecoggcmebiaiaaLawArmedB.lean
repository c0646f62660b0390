/-
  FlashArmed answers true, whatever it is given.
-/
import Derived.Test.YtecoggcmebiaiaaLawArmed
namespace Go.Proofs.Ytecoggcmebiaiaa
open Go.RowKit Go.Deep

set_option maxRecDepth 100000 in
set_option maxHeartbeats 8000000 in
theorem FlashArmed_any (w : World) (q : Nat) (hq : q < 256) (v2 : Value) (ms : List PutD) (h2 : PutsAt w w.heap.size v2 ms) :
    Calls Try.prog 7 #[.int .u8 q, v2] w fun e w' => e = .returned (.bool true) ∧ Keeps [] w w' := by
  obtain ⟨ao, n, cap, m, rfl, hn, hln, hm, hmin, hp⟩ := h2.open 40 40 rfl
  have hm1 : m ≤ n := by omega
  have hm40 : m ≤ 40 := by omega
  have hm4 := make4
  obtain ⟨many, hmany⟩ : ∃ many, q % 31 = many := ⟨_, rfl⟩
  have hmi : (q : Int) % 31 = (many : Int) := by omega
  have hmb : many < 31 := by omega
  have Hln := Lib.hid hln
  have Hp := Lib.hid hp
  clear h2 hln hp hm hmany
  rcases hmin with ⟨hc, he, hsl2⟩ | ⟨hc, he, hsl2⟩
  all_goals
    have He := Lib.hid he
    clear he
    go_enter Try.func7, Try.ntmps7
    go_wp2_with fail
    refine (New_ok _ 8 (by omega) (by omega)).mono ?_
    rintro e w1 ⟨F, B, W, M, rfl, gF, gB, gW, hF, hK⟩
    have HF1 := Lib.hid hF
    have HK1 := Lib.hid hK
    have lF := hF.lt
    have s1 := hK.size
    clear hF hK
    go_wp2_with fail
    refine (Arm_nil _ HF1.out many rfl (by omega) (by omega)).mono ?_
    rintro e w2 ⟨rfl, hF, hK⟩
    have HF2 := Lib.hid hF
    have HK2 := Lib.hid (HK1.out.then hK (fun x hx => by simp at hx; right; omega))
    clear hF hK
    go_wp2
    go_loopw [8, 36] (fun d i wr => ∃ (k done : Nat) (s : FS), k ≤ m ∧ i = .int .i64 k ∧ d = .int .i64 done ∧ done ≤ 2 * k ∧ FlashAt wr F B W M s ∧ Arm8 s many done k ∧ Keeps [] w wr) (fun _ i _ => m - (intOf i).toNat)
    case atStart => exact ⟨0, 0, _, Nat.zero_le _, rfl, rfl, by omega, HF2.out, arm8_start many, HK2.out⟩
    case round =>
      obtain ⟨k, done, s, hk, rfl, rfl, hdn, hFr, hA, hKr⟩ := hrel
      have HFr := Lib.hid hFr
      have HA := Lib.hid hA
      have HKr := Lib.hid hKr
      clear hFr hA hKr
      by_cases hlt : k < m
      · have hkn : k < ms.length := by have := Hln.out; omega
        have hlt0 := hlt
        rw [He.out] at hlt0
        have hlt' : (k : Int) < _ := Int.ofNat_lt.2 hlt0
        obtain ⟨b, off, hao, hbb, ok, q0, q1⟩ := Hp.out k ms[k] (List.getElem?_eq_getElem hkn)
        have ok1 := ok.keeps HKr.out (by simp)
        have r0 := HKr.out.cell q0 (by simp)
        have r1 := HKr.out.cell q1 (by simp)
        generalize ms[k] = p at *
        obtain ⟨ap, cv, hv⟩ := readsShape ok1.reads
        rw [hv] at r1
        have HV := Lib.hid hv
        have HOK := Lib.hid ok1
        have hpl := p.place_le
        have hbl := p.len_le
        have lr := HFr.out.lt
        have sr := HKr.out.size
        clear ok ok1 q0 q1 hv
        subst hao
        go_wp2_with fail
        rw [← HV.out]
        refine (at_some p _ w.heap.size (HOK.out.keeps (Keeps.alloc [] wr _) (by simp))).mono ?_
        rintro e w6 ⟨bb, cc, rfl, hb2, hR2, hK2⟩
        have hk2 : Keeps [] wr w6 := (Keeps.alloc [] wr _).trans hK2
        have HF6 := Lib.hid (HFr.out.keeps hk2 (by simp) (by simp) (by simp) (by simp))
        have HB6 := Lib.hid hR2
        have HK6 := Lib.hid (HKr.out.trans hk2)
        have s6 := hk2.size
        have lb6 := hR2.lt
        simp only [World.size_alloc] at hb2
        clear hk2 hR2 hK2
        obtain ⟨e1, hp1, he1⟩ := HA.out.refused
        have Hp1 := Lib.hid hp1
        clear hp1
        go_wp2_with fail
        refine (Program_lit _ HF6.out 2 [0, 0, 0, 0] _ 4 _ _ rfl rfl (by decide) Hp1.out).mono ?_
        rintro e w7 ⟨rfl, hF, hK⟩
        have HF7 := Lib.hid hF
        have HB7 := Lib.hid (HB6.out.keeps hK (by simp; omega))
        have HK7 := Lib.hid (HK6.out.then hK (fun x hx => by simp at hx; right; omega))
        have s7 := hK.size
        clear hF hK
        obtain ⟨e2, hp2, he2⟩ := HA.out.refusedErase
        have Hp2 := Lib.hid hp2
        clear hp2
        go_wp2_with fail
        refine (Erase_lit _ HF7.out 8 _ _ (HA.out.small (by omega)) Hp2.out).mono ?_
        rintro e w8 ⟨rfl, hF, hK⟩
        have HF8 := Lib.hid hF
        have HB8 := Lib.hid (HB7.out.keeps hK (by simp; omega))
        have HK8 := Lib.hid (HK7.out.then hK (fun x hx => by simp at hx; right; omega))
        have s8 := hK.size
        clear hF hK
        by_cases hz : p.len = 0
        · have hzi : ((p.len : Int) == 0) = true := by rw [beq_iff_eq]; omega
          have Hz := Lib.hid hz
          clear hz
          go_wp2
          go_roundw
          case rel => exact ⟨k + 1, done, s, by omega, by go_num, rfl, by omega, HF8.out, HA.out.more (by omega), HK8.out⟩
          case measure => simp [intOf]; omega
        · have hzi : ((p.len : Int) == 0) = false := by rw [beq_eq_false_iff_ne]; omega
          obtain ⟨s', hp3, hA3⟩ := HA.out.program p.place p.bytes hpl.2 (by rw [p.bytes_length]; omega) (by rw [p.bytes_length]; omega) (by intro e; have := p.bytes_length; rw [e] at this; exact hz this.symm)
          have hcall := Program_yes w8 HF8.out p.place _ p.bytes bb HB8.out.reads ⟨by omega, by omega⟩ (by rw [p.bytes_length]; omega)
          rw [hp3, p.bytes_length] at hcall
          have HC := Lib.hid hcall
          have HA3 := Lib.hid hA3
          clear hcall hp3 hA3 hz
          by_cases hdm : done < many
          · have hdmi : (done : Int) < many := by omega
            have hcall := HC.out
            rw [if_pos hdm] at hcall
            have HC2 := Lib.hid hcall
            clear hcall
            go_wp2_with fail
            refine HC2.out.mono ?_
            rintro e w9 ⟨rfl, hF, hK⟩
            have HF9 := Lib.hid hF
            have HK9 := Lib.hid (HK8.out.then hK (fun x hx => by simp at hx; right; omega))
            clear hF hK HC
            obtain ⟨r8, hr8⟩ : ∃ r8, k % 8 = r8 := ⟨_, rfl⟩
            have hr8b : r8 < 8 := by omega
            have hk8 : (k : Int) % 8 = (r8 : Int) := by omega
            by_cases h3 : k % 3 = 2
            · have h3b : ((k : Int) % 3 != 2) = false := by simp; omega
              obtain ⟨s2, hp4, hA4⟩ := HA3.out.erase r8 hr8b
              have Hp4 := Lib.hid hp4
              have HA4 := Lib.hid hA4
              have HSM := Lib.hid (HA3.out.small (by omega))
              clear hp4 hA4 hr8 h3
              by_cases hd2 : done + 1 < many
              · have hd2i : (done : Int) + 1 < many := by omega
                go_wp2_with fail
                refine (Erase_lit _ HF9.out r8 s2 0 HSM.out (by rw [Hp4.out, if_pos hd2])).mono ?_
                rintro e w10 ⟨rfl, hF, hK⟩
                have HF10 := Lib.hid hF
                have HK10 := Lib.hid (HK9.out.then hK (fun x hx => by simp at hx; right; omega))
                clear hF hK
                go_wp2
                go_roundw
                case rel => exact ⟨k + 1, done + 1 + 1, s2, by omega, by go_num, by go_num, by omega, HF10.out, HA4.out, HK10.out⟩
                case measure => simp [intOf]; omega
              · have hd2i : ¬ ((done : Int) + 1 < many) := by omega
                go_wp2_with fail
                refine (Erase_lit _ HF9.out r8 s2 12 HSM.out (by rw [Hp4.out, if_neg hd2])).mono ?_
                rintro e w10 ⟨rfl, hF, hK⟩
                have HF10 := Lib.hid hF
                have HK10 := Lib.hid (HK9.out.then hK (fun x hx => by simp at hx; right; omega))
                clear hF hK
                go_wp2
                go_roundw
                case rel => exact ⟨k + 1, done + 1 + 1, s2, by omega, by go_num, by go_num, by omega, HF10.out, HA4.out, HK10.out⟩
                case measure => simp [intOf]; omega
            · have h3b : ((k : Int) % 3 != 2) = true := by simp; omega
              clear hr8 h3
              go_wp2
              go_roundw
              case rel => exact ⟨k + 1, done + 1, s', by omega, by go_num, by go_num, by omega, HF9.out, HA3.out.more (by omega), HK9.out⟩
              case measure => simp [intOf]; omega
          · have hdmi : ¬ ((done : Int) < many) := by omega
            have hcall := HC.out
            rw [if_neg hdm] at hcall
            have HC2 := Lib.hid hcall
            clear hcall
            go_wp2_with fail
            refine HC2.out.mono ?_
            rintro e w9 ⟨rfl, hF, hK⟩
            have HF9 := Lib.hid hF
            have HK9 := Lib.hid (HK8.out.then hK (fun x hx => by simp at hx; right; omega))
            clear hF hK HC
            go_wp2_with fail
            refine (Down_is _ HF9.out true (by rw [HA3.out.down]; simp; omega)).mono ?_
            rintro e w9' ⟨rfl, rfl⟩
            obtain ⟨r8, hr8⟩ : ∃ r8, k % 8 = r8 := ⟨_, rfl⟩
            have hr8b : r8 < 8 := by omega
            have hk8 : (k : Int) % 8 = (r8 : Int) := by omega
            by_cases h3 : k % 3 = 2
            · have h3b : ((k : Int) % 3 != 2) = false := by simp; omega
              obtain ⟨s2, hp4, hA4⟩ := HA3.out.erase r8 hr8b
              have Hp4 := Lib.hid hp4
              have HA4 := Lib.hid hA4
              have HSM := Lib.hid (HA3.out.small (by omega))
              clear hp4 hA4 hr8 h3
              have hd2i : ¬ ((done : Int) + 1 < many) := by omega
              go_wp2_with fail
              refine (Erase_lit _ HF9.out r8 s2 12 HSM.out (by rw [Hp4.out, if_neg (by omega)])).mono ?_
              rintro e w10 ⟨rfl, hF, hK⟩
              have HF10 := Lib.hid hF
              have HK10 := Lib.hid (HK9.out.then hK (fun x hx => by simp at hx; right; omega))
              clear hF hK
              go_wp2
              go_roundw
              case rel => exact ⟨k + 1, done + 1 + 1, s2, by omega, by go_num, by go_num, by omega, HF10.out, HA4.out, HK10.out⟩
              case measure => simp [intOf]; omega
            · have h3b : ((k : Int) % 3 != 2) = true := by simp; omega
              clear hr8 h3
              go_wp2
              go_roundw
              case rel => exact ⟨k + 1, done + 1, s', by omega, by go_num, by go_num, by omega, HF9.out, HA3.out.more (by omega), HK9.out⟩
              case measure => simp [intOf]; omega
      · obtain rfl : k = m := by omega
        first
        | have hge1 : ¬ ((k : Int) < n) := by have := He.out; omega
        | have hge1 : ¬ ((k : Int) < 40) := by have := He.out; omega
        have hdd := Lib.hid HA.out.down
        have lr := HFr.out.lt
        by_cases hov : many < done
        · have hovi : (many : Int) < done := by omega
          have hdt := Lib.hid (show s.down = true by rw [hdd.out]; simp [hov])
          go_wp2_with fail
          refine (Down_is _ HFr.out true hdt.out).mono ?_
          rintro e w' ⟨rfl, rfl⟩
          go_wp2_with fail
          refine (Down_is _ HFr.out true hdt.out).mono ?_
          rintro e w' ⟨rfl, rfl⟩
          go_wp2_with fail
          refine (Arm_down _ HFr.out 1 _ hdt.out).mono ?_
          rintro e w' ⟨rfl, rfl⟩
          go_wp2_with fail
          refine (Erase_lit _ HFr.out 0 _ _ (HA.out.small (by omega)) (downErase hdt.out 0)).mono ?_
          rintro e w10 ⟨rfl, hF, hK⟩
          have HF10 := Lib.hid hF
          have HK10 := Lib.hid (HKr.out.then hK (fun x hx => by simp at hx; right; omega))
          clear hF hK
          go_wp2_with fail
          refine (Up_yes _ HF10.out).mono ?_
          rintro e w11 ⟨rfl, hF, hK⟩
          have HF11 := Lib.hid hF
          have HO := Lib.hid HA.out.up
          have HK11 := Lib.hid (HK10.out.then hK (fun x hx => by simp at hx; right; omega))
          clear hF hK
          go_wp2_with fail
          refine (Down_is _ HF11.out false rfl).mono ?_
          rintro e w11' ⟨rfl, rfl⟩
          go_wp2
          go_loopw [126] (fun i wr => ∃ (j : Nat) (s : FS), j ≤ 40 ∧ i = .int .i64 j ∧ FlashAt wr F B W M s ∧ On8 s (40 + j) ∧ Keeps [] w wr) (fun i _ => 40 - (intOf i).toNat)
          case atStart => exact ⟨0, _, by omega, rfl, HF11.out, ⟨HO.out.len, HO.out.wlen, fun x hx => ⟨(HO.out.wear x hx).1, by have := (HO.out.wear x hx).2; omega⟩, rfl, rfl⟩, HK11.out⟩
          case round =>
            obtain ⟨j, sj, hj, rfl, hFj, hOj, hKj⟩ := hrel
            have HFj := Lib.hid hFj
            have HOj := Lib.hid hOj
            have HKj := Lib.hid hKj
            clear hFj hOj hKj
            by_cases hj40 : j < 40
            · have hj40' : (j : Int) < 40 := by omega
              obtain ⟨s7, hp7, hO7⟩ := HOj.out.erase 7 (by omega)
              have Hp7 := Lib.hid hp7
              have HO7 := Lib.hid hO7
              clear hp7 hO7
              go_wp2_with fail
              refine (Erase_lit _ HFj.out 7 _ _ (HOj.out.small (by omega)) Hp7.out).mono ?_
              rintro e w12 ⟨rfl, hF, hK⟩
              have HF12 := Lib.hid hF
              have HK12 := Lib.hid (HKj.out.then hK (fun x hx => by simp at hx; right; omega))
              clear hF hK
              go_wp2
              go_roundw
              case rel => exact ⟨j + 1, s7, by omega, by go_num, HF12.out, HO7.out, HK12.out⟩
              case measure => simp [intOf]; omega
            · have hj40' : ¬ ((j : Int) < 40) := by omega
              go_wp2_with fail
              refine (awake_any _).mono ?_
              rintro e w13 ⟨rfl, hK13⟩
              go_wp2
              go_ret
              exact ⟨rfl, HKj.out.trans hK13⟩
        · have hovi : ¬ ((many : Int) < done) := by omega
          have hdt := Lib.hid (show s.down = false by rw [hdd.out]; simp [hov])
          go_wp2_with fail
          refine (Down_is _ HFr.out false hdt.out).mono ?_
          rintro e w' ⟨rfl, rfl⟩
          go_wp2_with fail
          refine (Down_is _ HFr.out false hdt.out).mono ?_
          rintro e w' ⟨rfl, rfl⟩
          go_wp2_with fail
          refine (Up_yes _ HFr.out).mono ?_
          rintro e w11 ⟨rfl, hF, hK⟩
          have HF11 := Lib.hid hF
          have HO := Lib.hid HA.out.up
          have HK11 := Lib.hid (HKr.out.then hK (fun x hx => by simp at hx; right; omega))
          clear hF hK
          go_wp2_with fail
          refine (Down_is _ HF11.out false rfl).mono ?_
          rintro e w11' ⟨rfl, rfl⟩
          go_wp2
          go_loopw [126] (fun i wr => ∃ (j : Nat) (s : FS), j ≤ 40 ∧ i = .int .i64 j ∧ FlashAt wr F B W M s ∧ On8 s (40 + j) ∧ Keeps [] w wr) (fun i _ => 40 - (intOf i).toNat)
          case atStart => exact ⟨0, _, by omega, rfl, HF11.out, ⟨HO.out.len, HO.out.wlen, fun x hx => ⟨(HO.out.wear x hx).1, by have := (HO.out.wear x hx).2; omega⟩, rfl, rfl⟩, HK11.out⟩
          case round =>
            obtain ⟨j, sj, hj, rfl, hFj, hOj, hKj⟩ := hrel
            have HFj := Lib.hid hFj
            have HOj := Lib.hid hOj
            have HKj := Lib.hid hKj
            clear hFj hOj hKj
            by_cases hj40 : j < 40
            · have hj40' : (j : Int) < 40 := by omega
              obtain ⟨s7, hp7, hO7⟩ := HOj.out.erase 7 (by omega)
              have Hp7 := Lib.hid hp7
              have HO7 := Lib.hid hO7
              clear hp7 hO7
              go_wp2_with fail
              refine (Erase_lit _ HFj.out 7 _ _ (HOj.out.small (by omega)) Hp7.out).mono ?_
              rintro e w12 ⟨rfl, hF, hK⟩
              have HF12 := Lib.hid hF
              have HK12 := Lib.hid (HKj.out.then hK (fun x hx => by simp at hx; right; omega))
              clear hF hK
              go_wp2
              go_roundw
              case rel => exact ⟨j + 1, s7, by omega, by go_num, HF12.out, HO7.out, HK12.out⟩
              case measure => simp [intOf]; omega
            · have hj40' : ¬ ((j : Int) < 40) := by omega
              go_wp2_with fail
              refine (awake_any _).mono ?_
              rintro e w13 ⟨rfl, hK13⟩
              go_wp2
              go_ret
              exact ⟨rfl, HKj.out.trans hK13⟩

theorem FlashArmed_all (w : World) (q : Int) (hq : (Lit.int .u8 q).wf = true) (v2 : Value) (ms : List PutD) (h2 : PutsAt w w.heap.size v2 ms) :
    Calls Try.prog 7 #[.int .u8 q, v2] w fun e w' => e = .returned (.bool true) ∧ Keeps [] w w' := by
  obtain ⟨c, rfl⟩ := byte_of_wf hq
  exact FlashArmed_any w c.toNat c.toNat_lt v2 ms h2
end Go.Proofs.Ytecoggcmebiaiaa
