/-
  The document's sum, walked.
-/
import Derived.Test.YtlnmbfddhdjioaaDoorShaLongH
import Derived.Test.YtlnmbfddhdjioaaDoorShaK
import Derived.Deep.Cut
import Derived.Deep.RegionWith
namespace Go.Proofs.YtlnmbfddhdjioaaDoor
open Go.RowKit

set_option maxRecDepth 100000 in
set_option maxHeartbeats 3000000 in
theorem R3Of_any (w : World) (v : Value) (l : List UInt8) (M : Nat) (hr : Reads w v l M) (hn : l.length ≤ 1000) :
    Calls Tryd.prog 7 #[v] w fun e w' => e = .returned (.agg ((sumOf kk h0 l).map bv).toArray) ∧ Keeps [] w w' := by
  obtain ⟨i0, hi, hz0, hz1, hz2⟩ := info_parts infoU32n
  have HRD := Lib.hid hr
  have HNL := Lib.hid hn
  obtain ⟨va, vc, rfl, _⟩ := hr.shape
  clear hr hn
  go_enter Tryd.func7, Tryd.ntmps7
  go_upto_region 1 with (fail)
  generalize hV : World.alloc w _ = V
  have w0 : Whole V w.heap.size 27 ((List.replicate 32 (0 : UInt8)).map bv) := by
    rw [← hV]; exact Whole.new w 27 ((List.replicate 32 (0 : UInt8)).map bv)
  have kV : Keeps [] w V := by rw [← hV]; exact Keeps.alloc [] _ _
  have W0 := Lib.hid w0
  have KV := Lib.hid kV
  have hwV := w0.lt
  clear hV w0 kV
  go_wp2_with fail
  refine (Primes_any V).mono ?_
  rintro e w1 ⟨P, cP, rfl, hP, rP, k1⟩
  have RP := Lib.hid rP
  have K1 := Lib.hid k1
  clear rP k1
  go_wp2
  -- the words of the square roots
  go_loopw [4, 5] (fun v i wr => ∃ (k : Nat) (ao : Option Addr) (cp : Nat), k ≤ 8 ∧ i = .int .i64 k ∧ v = .slice ao k cp ∧ Hid (wr.ownsRow w1.heap.size 38 1 (.slice ao k cp) k (tab k h0.get)) ∧ Hid (Keeps [] w1 wr)) (fun _ i _ => 8 - (intOf i).toNat)
  case atStart => exact ⟨0, none, 0, by decide, rfl, rfl, Lib.hid (World.ownsRow_nil _ _ _ _), Lib.hid (Keeps.refl _ _)⟩
  case round =>
    obtain ⟨k, ao, cp, hk, rfl, rfl, HO, KP⟩ := hrel
    by_cases hlt : k < 8
    · have hki : (k : Int) < 8 := by omega
      have hki2 : (k : Int) < 64 := by omega
      obtain ⟨hpl, hpb⟩ := PL_get k (by omega)
      have c0 := (RP.out.keeps KP.out (by simp)).cell k hpl
      have HRT := Lib.hid (fun U => root_any U (PL.getD k 0) 2 hpb (.inl rfl))
      rw [root2_nv k hlt] at HRT
      have HTS := Lib.hid (tab_succ k h0.get)
      generalize h0.get k = x at *
      generalize PL.getD k 0 = pp at *
      have hPl := (RP.out.keeps KP.out (by simp)).lt
      clear hpl hpb
      go_wp2_with fail
      refine (HRT.out wr).mono ?_
      rintro e w2 ⟨rfl, k2⟩
      have HO2 := Lib.hid (World.ownsRow.keeps HO.out k2 (by simp))
      have K2 := Lib.hid (KP.out.trans k2)
      have s2 := K2.out.size
      clear k2
      go_wp2_with (at_builtin; refine wpList_append_own _ rfl _ _ 39 rfl w1.heap.size 38 i0 (.int .u32 0) 1 4 Tryd.underlying39 hi hz0 hz1 hz2 rfl (by decide) (.slice ao k cp) k (tab k h0.get) rfl (HO2.out.alloc _) ⟨w2.heap.size, 0, none⟩ 1 1 [uv x] rfl rfl ?c1 ?c2 ?c3 ?c4 ?c5 ?_)
      case c1 =>
        intro i u hu
        rw [Addr.add_off, Nat.zero_add, cell_alloc_new]
        simpa using hu
      case c2 => intro u hu; simp at hu; subst hu; rfl
      case c3 => unfold maxLen; omega
      case c4 => omega
      case c5 => simp; omega
      intro v3 w3 hown3 hg3 _
      have KP3 := Lib.hid ((K2.out.trans (Keeps.alloc [] w2 _)).owned2 (HO2.out.alloc _) hg3)
      obtain ⟨ao3, cp3, rfl⟩ := owns_shape2 hown3
      rw [← HTS.out] at hown3
      have HO3 := Lib.hid hown3
      clear hown3 hg3
      go_wp2
      go_roundw
      case rel => exact ⟨k + 1, ao3, cp3, by omega, by go_num, rfl, HO3, KP3⟩
      case measure => simp [intOf]; omega
    · obtain rfl : k = 8 := by omega
      obtain ⟨H, cH, hv, hH, rH⟩ := Row.ofOwns HO.out (by intro e; injection e with _ e; omega)
      simp only [Value.slice.injEq, true_and] at hv
      obtain ⟨rfl, hcc⟩ := hv
      replace hcc := hcc.symm
      subst hcc
      rw [show ((8 : Nat) : Int) = (8 : Int) from rfl]
      obtain ⟨w2, rfl⟩ : ∃ w2 : World, w2 = wr := ⟨_, rfl⟩
      have RH := Lib.hid rH
      have RP2 := Lib.hid (RP.out.keeps KP.out (by simp))
      have K2 := Lib.hid ((KV.out.trans K1.out).trans KP.out)
      have W2 := Lib.hid ((W0.out.keeps K1.out (by simp)).keeps KP.out (by simp))
      have hH2 : w.heap.size < H := by have := K1.out.size; omega
      clear rH HO KP RP K1 KV W0 hH hlt
      go_wp2
      -- the words of the cube roots
      go_loopw [6, 7] (fun v i wr => ∃ (k : Nat) (ao : Option Addr) (cp : Nat), k ≤ 64 ∧ i = .int .i64 k ∧ v = .slice ao k cp ∧ Hid (wr.ownsRow w2.heap.size 38 1 (.slice ao k cp) k (tab k kk)) ∧ Hid (Keeps [] w2 wr)) (fun _ i _ => 64 - (intOf i).toNat)
      case atStart => exact ⟨0, none, 0, by decide, rfl, rfl, Lib.hid (World.ownsRow_nil _ _ _ _), Lib.hid (Keeps.refl _ _)⟩
      case round =>
        obtain ⟨k, ao, cp, hk, rfl, rfl, HO, KP⟩ := hrel
        by_cases hlt : k < 64
        · have hki : (k : Int) < 64 := by omega
          obtain ⟨hpl, hpb⟩ := PL_get k (by omega)
          have c0 := (RP2.out.keeps KP.out (by simp)).cell k hpl
          have HRT := Lib.hid (fun U => root_any U (PL.getD k 0) 3 hpb (.inr rfl))
          rw [root3_nv k hlt] at HRT
          have HTS := Lib.hid (tab_succ k kk)
          generalize kk k = x at *
          generalize PL.getD k 0 = pp at *
          have hPl := (RP2.out.keeps KP.out (by simp)).lt
          clear hpl hpb
          go_wp2_with fail
          refine (HRT.out wr).mono ?_
          rintro e w3 ⟨rfl, k3⟩
          have HO3 := Lib.hid (World.ownsRow.keeps HO.out k3 (by simp))
          have K3 := Lib.hid (KP.out.trans k3)
          have s3 := K3.out.size
          clear k3
          go_wp2_with (at_builtin; refine wpList_append_own _ rfl _ _ 39 rfl w2.heap.size 38 i0 (.int .u32 0) 1 4 Tryd.underlying39 hi hz0 hz1 hz2 rfl (by decide) (.slice ao k cp) k (tab k kk) rfl (HO3.out.alloc _) ⟨w3.heap.size, 0, none⟩ 1 1 [uv x] rfl rfl ?c1 ?c2 ?c3 ?c4 ?c5 ?_)
          case c1 =>
            intro i u hu
            rw [Addr.add_off, Nat.zero_add, cell_alloc_new]
            simpa using hu
          case c2 => intro u hu; simp at hu; subst hu; rfl
          case c3 => unfold maxLen; omega
          case c4 => omega
          case c5 => simp; omega
          intro v4 w4 hown4 hg4 _
          have KP4 := Lib.hid ((K3.out.trans (Keeps.alloc [] w3 _)).owned2 (HO3.out.alloc _) hg4)
          obtain ⟨ao4, cp4, rfl⟩ := owns_shape2 hown4
          rw [← HTS.out] at hown4
          have HO4 := Lib.hid hown4
          clear hown4 hg4
          go_wp2
          go_roundw
          case rel => exact ⟨k + 1, ao4, cp4, by omega, by go_num, rfl, HO4, KP4⟩
          case measure => simp [intOf]; omega
        · obtain rfl : k = 64 := by omega
          obtain ⟨Kb, cK, hv, hKb, rK⟩ := Row.ofOwns HO.out (by intro e; injection e with _ e; omega)
          simp only [Value.slice.injEq, true_and] at hv
          obtain ⟨rfl, hcc⟩ := hv
          replace hcc := hcc.symm
          subst hcc
          rw [show ((64 : Nat) : Int) = (64 : Int) from rfl]
          obtain ⟨w3, rfl⟩ : ∃ w3 : World, w3 = wr := ⟨_, rfl⟩
          have RK := Lib.hid rK
          have RH3 := Lib.hid (RH.out.keeps KP.out (by simp))
          have K3 := Lib.hid (K2.out.trans KP.out)
          have W3 := Lib.hid (W2.out.keeps KP.out (by simp))
          have hKH : H < Kb := by have := RH.out.lt; omega
          have hFL := Filled_any w3 _ l M (HRD.out.keeps K3.out (by simp)) (by have := HNL.out; omega)
          obtain ⟨al, hal⟩ : ∃ al, al = l ++ padb l.length := ⟨_, rfl⟩
          have HAL := Lib.hid hal
          rw [← hal] at hFL
          obtain ⟨nb, hnb⟩ : ∃ nb, al.length = 64 * nb := ⟨al.length / 64, by rw [hal, List.length_append, padb_length]; omega⟩
          have hnb17 : nb ≤ 17 := by
            have h1 := HNL.out
            rw [hal, List.length_append, padb_length] at hnb
            omega
          have HNB := Lib.hid hnb
          rw [hnb] at hFL
          have HFL := Lib.hid hFL
          clear rK HO KP RH K2 W2 RP2 hKb hlt hal hnb hFL
          obtain ⟨na, hna⟩ : ∃ na, na = 64 * nb := ⟨_, rfl⟩
          rw [← hna] at HFL
          have HNA := Lib.hid hna
          have hna2 : na ≤ 1100 := by omega
          clear hna
          go_wp2_with fail
          refine HFL.out.mono ?_
          rintro e w4 ⟨Al, cA, rfl, hAl, rA, k4⟩
          have RA := Lib.hid rA
          have RK4 := Lib.hid (RK.out.keeps k4 (by simp))
          have RH4 := Lib.hid (RH3.out.keeps k4 (by simp))
          have W4 := Lib.hid (W3.out.keeps k4 (by simp))
          have K4 := Lib.hid (K3.out.trans k4)
          have hKA : Kb < Al := by have := RK.out.lt; omega
          have hAl4 := rA.lt
          have hcA : na ≤ cA := by have := rA.room; rw [List.length_map, HNB.out, ← HNA.out] at this; exact this
          clear rA k4 RK RH3 W3 K3 HFL hAl HRD HNL
          go_wp2
          -- block by block
          go_loopw [9, 10, 11, 12, 13, 14, 15] (fun ix _ _ _ _ _ _ wr => ∃ q a : Nat, q ≤ nb ∧ a = 64 * q ∧ ix = .int .i64 a ∧ Hid (Row wr H 38 (tab 8 (hs kk h0 al q).get) cH) ∧ Hid (Keeps [H] w4 wr)) (fun ix _ _ _ _ _ _ _ => na - (intOf ix).toNat)
          case atStart => exact ⟨0, 0, Nat.zero_le _, rfl, rfl, RH4, Lib.hid (Keeps.refl _ _)⟩
          case round =>
            obtain ⟨q, a, hq, haq, rfl, RH, KP⟩ := hrel
            have HAQ := Lib.hid haq
            by_cases hlt : q < nb
            · have hai : (a : Int) < (na : Int) := by have := HNA.out; omega
              have haa : a + 64 ≤ na := by have := HNA.out; omega
              have hcut : ∀ w, (Instr.sliceAt 22 (.slice (some ⟨Al, 0, none⟩) na cA) (some (.int .i64 a)) (some (.int .i64 ((a : Int) + 64))) none).run Tryd.prog w = .ok (.slice (some ⟨Al, a, none⟩) 64 (cA - a)) w := fun w => by
                rw [show (a : Int) + 64 = ((a + 64 : Nat) : Int) by omega, run_cut_lh w _ na cA a (a + 64) (by omega) (by omega)]
                unfold sliced
                rw [if_neg (by omega), show a + 64 - a = 64 by omega]
                simp only [Option.map_some, Addr.add_off, Nat.mul_one, Nat.zero_add]
              have RAr := Lib.hid (RA.out.keeps KP.out (by simp; omega))
              have RKr := Lib.hid (RK4.out.keeps KP.out (by simp; omega))
              have HSC := Lib.hid (schedule_any wr Al a (cA - a) (blockAt al q) (blockAt_length al q (by rw [HNB.out]; omega)) (fun i c hc => by
                have := seg_cells RAr.out q i c hc
                rw [← HAQ.out] at this
                exact this))
              have HSTEP := Lib.hid (show hs kk h0 al (q + 1) = (hs kk h0 al q).add (rds kk (sch (wordOf (blockAt al q))) (hs kk h0 al q) 64) from rfl)
              generalize hs kk h0 al q = st at *
              generalize sch (wordOf (blockAt al q)) = Wf at *
              have hHr := RH.out.lt
              clear haq
              go_wp2_with fail
              refine HSC.out.mono ?_
              rintro e w5 ⟨Wb, cW, rfl, hWb, rW, k5⟩
              have RW5 := Lib.hid rW
              have RH5 := Lib.hid (RH.out.keeps k5 (by simp))
              have RK5 := Lib.hid (RKr.out.keeps k5 (by simp))
              have K5 := Lib.hid (KP.out.trans (k5.mono (by simp)))
              have s5 := k5.size
              have HE := Lib.hid (show (w5.alloc (.cells #[] 38)).ownsRow w5.heap.size 38 1 (.slice (some ⟨w5.heap.size, 0, none⟩) 0 0) 0 [] from by
                have := (Whole.new w5 38 ([] ++ [])).owns (base := w5.heap.size) (Nat.le_refl _) (n := 0) (cap := 0) rfl rfl (by unfold maxLen; omega)
                exact this)
              have RH5a := Lib.hid (RH5.out.keeps (Keeps.alloc [] w5 (.cells #[] 38)) (by simp))
              clear rW k5 HSC RH KP RKr hcut
              go_wp2_with (at_builtin; refine wpList_append_own _ rfl _ _ 39 rfl w5.heap.size 38 i0 (.int .u32 0) 1 4 Tryd.underlying39 hi hz0 hz1 hz2 rfl (by decide) (.slice (some ⟨w5.heap.size, 0, none⟩) 0 0) 0 [] rfl HE.out ⟨H, 0, none⟩ 8 cH (tab 8 st.get) rfl rfl ?c1 ?c2 ?c3 ?c4 ?c5 ?_)
              case c1 =>
                intro i u hu
                rw [Addr.add_off, Nat.zero_add]
                exact RH5a.out.cell i hu
              case c2 => exact tab_ones 8 st.get
              case c3 => unfold maxLen; omega
              case c4 => omega
              case c5 => simp
              intro v6 w6 hown6 hg6 _
              obtain ⟨Sb, cS, hv6, hSb, rS⟩ := Row.ofOwns hown6 (by
                intro e
                rw [e] at hown6
                rcases hown6.2 with ⟨_, h⟩ | ⟨_, _, _, h, _⟩
                · exact absurd h (by decide)
                · cases h)
              subst hv6
              have k56 : Keeps [] w5 w6 := ((Keeps.refl [] w5).trans (Keeps.alloc [] w5 (.cells #[] 38))).owned2 HE.out hg6
              have RS6 := Lib.hid rS
              have RW6 := Lib.hid (RW5.out.keeps k56 (by simp))
              have RH6 := Lib.hid (RH5.out.keeps k56 (by simp))
              have RK6 := Lib.hid (RK5.out.keeps k56 (by simp))
              have K6 := Lib.hid (K5.out.trans (k56.mono (by simp)))
              have hSH : H < Sb := by omega
              clear hown6 hg6 rS k56 HE RH5a RH5 RW5 RK5 K5
              obtain ⟨wo, rfl⟩ : ∃ wo : World, wo = wr := ⟨_, rfl⟩
              go_wp2
              go_loopw [11, 12, 13, 14] (fun sv ix _ _ wr => ∃ t g cp : Nat, t ≤ 64 ∧ ix = .int .i64 t ∧ sv = .slice (some ⟨g, 0, none⟩) 8 cp ∧ Hid (Row wr g 38 (tab 8 (rds kk Wf st t).get) cp) ∧ H < g ∧ Hid (Keeps [] w6 wr)) (fun _ ix _ _ _ => 64 - (intOf ix).toNat)
              case atStart => exact ⟨0, Sb, cS, by decide, rfl, rfl, RS6, hSH, Lib.hid (Keeps.refl _ _)⟩
              case round =>
                obtain ⟨t, g, cp, ht, rfl, rfl, RS, hHg, KP⟩ := hrel
                by_cases hlt4 : t < 64
                · have hti : (t : Int) < 64 := by omega
                  have HNX := Lib.hid (show rds kk Wf st (t + 1) = rnd (rds kk Wf st t) (kk t) (Wf t) from rfl)
                  generalize rds kk Wf st t = z at *
                  have kc := (RK6.out.keeps KP.out (by simp)).cell t (tab_get 64 kk t hlt4)
                  have wc := (RW6.out.keeps KP.out (by simp)).cell t (tab_get 64 Wf t hlt4)
                  have c0 := RS.out.cell 0 (tab_get 8 z.get 0 (by decide))
                  have c1 := RS.out.cell 1 (tab_get 8 z.get 1 (by decide))
                  have c2 := RS.out.cell 2 (tab_get 8 z.get 2 (by decide))
                  have c3 := RS.out.cell 3 (tab_get 8 z.get 3 (by decide))
                  have c4 := RS.out.cell 4 (tab_get 8 z.get 4 (by decide))
                  have c5 := RS.out.cell 5 (tab_get 8 z.get 5 (by decide))
                  have c6 := RS.out.cell 6 (tab_get 8 z.get 6 (by decide))
                  have c7 := RS.out.cell 7 (tab_get 8 z.get 7 (by decide))
                  have HRT := rt_sum z (kk t) (Wf t)
                  have HRU := ru_sum z
                  have HRG := rnd_get z (kk t) (Wf t)
                  rw [← HNX.out] at HRG
                  generalize rt z (kk t) (Wf t) = one at *
                  generalize ru z = two at *
                  generalize z.get 0 = v0 at *
                  generalize z.get 1 = v1 at *
                  generalize z.get 2 = v2 at *
                  generalize z.get 3 = v3 at *
                  generalize z.get 4 = v4 at *
                  generalize z.get 5 = v5 at *
                  generalize z.get 6 = v6 at *
                  generalize z.get 7 = v7 at *
                  generalize kk t = kt at *
                  generalize Wf t = wt at *
                  have hgl := RS.out.lt
                  have hb1 := show bs1 v4 = rr v4 6 ^^^ rr v4 11 ^^^ rr v4 25 from rfl
                  have hc1 := show chs v4 v5 v6 = (v4 &&& v5) ^^^ (~~~ v4 &&& v6) from rfl
                  have hb0 := show bs0 v0 = rr v0 2 ^^^ rr v0 13 ^^^ rr v0 22 from rfl
                  have hm0 := show maj v0 v1 v2 = (v0 &&& v1) ^^^ (v0 &&& v2) ^^^ (v1 &&& v2) from rfl
                  rw [hb1, hc1] at HRT
                  rw [hb0, hm0] at HRU
                  clear hb1 hc1 hb0 hm0
                  have x1 := bits_xor32 (rr v4 6) (rr v4 11)
                  have x2 := bits_xor32 (rr v4 6 ^^^ rr v4 11) (rr v4 25)
                  have a1 := bits_and32 v4 v5
                  have n1 : bits .xor .u32 IntKind.u32.max (v4.toNat : Int) = ((~~~ v4).toNat : Int) := bits_not32 v4
                  have a2 := bits_and32 (~~~ v4) v6
                  have x3 := bits_xor32 (v4 &&& v5) (~~~ v4 &&& v6)
                  have T6 := Lib.hid (fun U => turned_any U v4 6 6 rfl turn6)
                  have T11 := Lib.hid (fun U => turned_any U v4 11 11 rfl turn11)
                  have T25 := Lib.hid (fun U => turned_any U v4 25 25 rfl turn25)
                  have y1 := bits_xor32 (rr v0 2) (rr v0 13)
                  have y2 := bits_xor32 (rr v0 2 ^^^ rr v0 13) (rr v0 22)
                  have d1 := bits_and32 v0 v1
                  have d2 := bits_and32 v0 v2
                  have d3 := bits_and32 v1 v2
                  have y3 := bits_xor32 (v0 &&& v1) (v0 &&& v2)
                  have y4 := bits_xor32 ((v0 &&& v1) ^^^ (v0 &&& v2)) (v1 &&& v2)
                  have T2 := Lib.hid (fun U => turned_any U v0 2 2 rfl turn2)
                  have T13 := Lib.hid (fun U => turned_any U v0 13 13 rfl turn13)
                  have T22 := Lib.hid (fun U => turned_any U v0 22 22 rfl turn22)
                  generalize rr v4 6 ^^^ rr v4 11 ^^^ rr v4 25 = E1 at *
                  generalize rr v4 6 ^^^ rr v4 11 = E2 at *
                  generalize rr v4 6 = e6 at *
                  generalize rr v4 11 = e11 at *
                  generalize rr v4 25 = e25 at *
                  generalize (v4 &&& v5) ^^^ (~~~ v4 &&& v6) = C1 at *
                  generalize ~~~ v4 &&& v6 = C2 at *
                  generalize ~~~ v4 = C3 at *
                  generalize v4 &&& v5 = C4 at *
                  generalize rr v0 2 ^^^ rr v0 13 ^^^ rr v0 22 = D1 at *
                  generalize rr v0 2 ^^^ rr v0 13 = D2 at *
                  generalize rr v0 2 = e2 at *
                  generalize rr v0 13 = e13 at *
                  generalize rr v0 22 = e22 at *
                  generalize (v0 &&& v1) ^^^ (v0 &&& v2) ^^^ (v1 &&& v2) = M1 at *
                  generalize (v0 &&& v1) ^^^ (v0 &&& v2) = M2 at *
                  generalize v0 &&& v1 = M3 at *
                  generalize v0 &&& v2 = M4 at *
                  generalize v1 &&& v2 = M5 at *
                  have s1 := add32 v7 E1
                  have s2 := add32 (v7 + E1) C1
                  have s3 := add32 (v7 + E1 + C1) kt
                  have s4 := add32 (v7 + E1 + C1 + kt) wt
                  have z1 := add32m v7 E1
                  have z2 := add32m (v7 + E1) C1
                  have z3 := add32m (v7 + E1 + C1) kt
                  have z4 := add32m (v7 + E1 + C1 + kt) wt
                  rw [HRT] at s4 z4
                  have r1 := add32 D1 M1
                  have r2 := add32m D1 M1
                  rw [HRU] at r1 r2
                  have q1 := add32 one two
                  have q2 := add32m one two
                  have q3 := add32 v3 one
                  have q4 := add32m v3 one
                  have HRG := Lib.hid HRG
                  clear HRT HRU
                  generalize v7 + E1 + C1 + kt = S3 at *
                  generalize v7 + E1 + C1 = S2 at *
                  generalize v7 + E1 = S1 at *
                  generalize one + two = ot at *
                  generalize v3 + one = vo at *
                  have hgl := RS.out.lt
                  have hsg : IntKind.u32.signed = false := rfl
                  unfold uv at kc wc c0 c1 c2 c3 c4 c5 c6 c7 T6 T11 T25 T2 T13 T22
                  go_wp2
                  go_quiet ((first | (go_at_call_of 19 (Value.int IntKind.u64 6); exact quiet_same0 (T6.out _)) | (go_at_call_of 19 (Value.int IntKind.u64 11); exact quiet_same0 (T11.out _)) | (go_at_call_of 19 (Value.int IntKind.u64 25); exact quiet_same0 (T25.out _))))
                  go_wp2
                  go_quiet ((first | (go_at_call_of 19 (Value.int IntKind.u64 2); (first | exact quiet_same0 (T2.out _) | exact quiet_none (T2.out _))) | (go_at_call_of 19 (Value.int IntKind.u64 13); (first | exact quiet_same0 (T13.out _) | exact quiet_none (T13.out _))) | (go_at_call_of 19 (Value.int IntKind.u64 22); (first | exact quiet_same0 (T22.out _) | exact quiet_none (T22.out _)))))
                  go_wp2
                  refine wp_region_tail 26 (by kernel_rfl) (by kernel_rfl) ?_
                  intro wz hwz
                  have kz : Keeps [] wr wz := by rw [hwz]; first | exact (Keeps.drewN _ _ _).trans (Keeps.drew _ _) | exact Keeps.drew _ _ | exact ((Keeps.drewN _ _ _).trans (Keeps.drewN _ _ _)).trans (Keeps.drew _ _)
                  have c0 := kz.cell c0 (by simp)
                  have c1 := kz.cell c1 (by simp)
                  have c2 := kz.cell c2 (by simp)
                  have c3 := kz.cell c3 (by simp)
                  have c4 := kz.cell c4 (by simp)
                  have c5 := kz.cell c5 (by simp)
                  have c6 := kz.cell c6 (by simp)
                  have KZ := Lib.hid (KP.out.trans kz)
                  clear kz hwz kc wc c7
                  simp only [List.take_succ_cons, List.take_zero, List.drop_succ_cons, List.drop_zero]
                  repeat still_step
                  refine wpStill_nil ?_
                  go_wp2
                  have RZ := Lib.hid (show Row (wz.alloc (.cells #[uv ot, uv v0, uv v1, uv v2, uv vo, uv v4, uv v5, uv v6] 38)) wz.heap.size 38 (tab 8 (rds kk Wf st (t + 1)).get) 8 by
                    rw [HRG.out]
                    exact ⟨by simp, _, Whole.new wz 38 [uv ot, uv v0, uv v1, uv v2, uv vo, uv v4, uv v5, uv v6], by simp, by simp⟩)
                  have hgz : H < wz.heap.size := Nat.lt_of_lt_of_le RH6.out.lt KZ.out.size
                  go_roundw
                  case rel => exact ⟨t + 1, wz.heap.size, 8, by omega, by go_num, rfl, RZ, hgz, Lib.hid (KZ.out.trans (Keeps.alloc [] _ _))⟩
                  case measure => simp [intOf]; omega
                · have ht64 : t = 64 := by omega
                  rw [ht64] at RS
                  have hti : ¬ (t : Int) < 64 := by omega
                  obtain ⟨w7, rfl⟩ : ∃ w7 : World, w7 = wr := ⟨_, rfl⟩
                  have RH7 := Lib.hid (RH6.out.keeps KP.out (by simp))
                  have K7 := Lib.hid (K6.out.trans (KP.out.mono (by simp)))
                  have hg7 := RS.out.lt
                  have hH7 := RH7.out.lt
                  generalize rds kk Wf st 64 = z at *
                  clear ht64 hlt4 ht KP RH6 RW6 RK6 K6 RS6
                  go_wp2
                  go_loopw [15] (fun ix wr => ∃ i : Nat, i ≤ 8 ∧ ix = .int .i64 i ∧ Hid (Row wr H 38 (tab 8 fun j => if j < i then st.get j + z.get j else st.get j) cH) ∧ Hid (Keeps [H] w7 wr)) (fun ix _ => 8 - (intOf ix).toNat)
                  case atStart => exact ⟨0, by decide, rfl, Lib.hid (by rw [add_tab_start]; exact RH7.out), Lib.hid (Keeps.refl _ _)⟩
                  case round =>
                    obtain ⟨i, hi8, rfl, RHi, KP⟩ := hrel
                    by_cases hlt5 : i < 8
                    · have hii : (i : Int) < 8 := by omega
                      have ch := RHi.out.cell i (tab_get 8 _ i hlt5)
                      rw [if_neg (Nat.lt_irrefl i)] at ch
                      have cs := (RS.out.keeps KP.out (by simp; omega)).cell i (tab_get 8 z.get i hlt5)
                      have fz := RHi.out.frozen i
                      have HAT := Lib.hid (add_tab st z i hlt5)
                      have q1 := add32 (st.get i) (z.get i)
                      have q2 := add32m (st.get i) (z.get i)
                      have hHi := RHi.out.lt
                      have hgi := (RS.out.keeps KP.out (by simp; omega)).lt
                      generalize st.get i + z.get i = sm at *
                      generalize st.get i = a1 at *
                      generalize z.get i = a2 at *
                      unfold uv at ch cs
                      go_wp2
                      refine wp_region_tail 12 (by kernel_rfl) (by kernel_rfl) ?_
                      intro wz hwz
                      have kz : Keeps [] wr wz := by rw [hwz]; exact Keeps.drew _ _
                      have ch := kz.cell ch (by simp)
                      have cs := kz.cell cs (by simp)
                      have RHz := Lib.hid (RHi.out.keeps kz (by simp))
                      have fz := RHz.out.frozen i
                      have KZ := Lib.hid (KP.out.trans (kz.mono (by simp)))
                      clear kz hwz
                      simp only [List.take_succ_cons, List.take_zero, List.drop_succ_cons, List.drop_zero]
                      repeat still_step
                      refine wpStill_nil ?_
                      go_wp2
                      go_roundw
                      case rel =>
                        refine ⟨i + 1, by omega, by go_num, Lib.hid ?_, Lib.hid (KZ.out.trans (Keeps.setCell _ (by simp) _))⟩
                        have := RHz.out.set i (uv sm)
                        rw [HAT.out] at this
                        exact this
                      case measure => simp [intOf]; omega
                    · obtain rfl : i = 8 := by omega
                      have RHE := Lib.hid (show Row wr H 38 (tab 8 (hs kk h0 al (q + 1)).get) cH by
                        rw [HSTEP.out, ← add_tab_end]
                        exact RHi.out)
                      have KE := Lib.hid (K7.out.trans KP.out)
                      go_wp2
                      go_roundw
                      case rel => exact ⟨q + 1, a + 64, by omega, by have := HAQ.out; omega, by go_num, RHE, KE⟩
                      case measure => simp [intOf]; omega
            · obtain rfl : q = nb := by omega
              have hai : ¬ (a : Int) < (na : Int) := by have := HNA.out; omega
              have KR := Lib.hid (K4.out.then KP.out (fun x hx => .inr (by simp at hx; omega)))
              have WR := Lib.hid (W4.out.keeps KP.out (by simp; omega))
              have hHr := RH.out.lt
              have HS := Lib.hid (show sumOf kk h0 l = outs (hs kk h0 al q) by
                unfold sumOf stOf
                rw [← HAL.out, HNB.out, Nat.mul_div_cancel_left q (by decide)])
              clear KP W4 K4 RA RK4 RH4 haq HAQ HNB HAL hlt hq hnb17
              generalize hs kk h0 al q = st at *
              go_upto_region 29 with (fail)
              generalize hU : World.alloc wr _ = U
              have u2 : Whole U wr.heap.size 27 ((fillK (outs st) 32 0).map bv) := by
                rw [← hU]; exact Whole.new wr 27 ((List.replicate 32 (0 : UInt8)).map bv)
              have kU : Keeps [] wr U := by rw [← hU]; exact Keeps.alloc [] _ _
              have U2 := Lib.hid u2
              have U1 := Lib.hid (WR.out.keeps kU (by simp))
              have U0 := Lib.hid (RH.out.keeps kU (by simp))
              have KU := Lib.hid (KR.out.trans kU)
              clear hU u2 kU RH WR KR
              generalize wr.heap.size = b2 at *
              go_wp2
              go_loopw [17] (fun i wr => ∃ k : Nat, k ≤ 32 ∧ i = .int .i64 k ∧ Hid (Whole wr b2 27 ((fillK (outs st) 32 k).map bv)) ∧ Hid (Row wr H 38 (tab 8 st.get) cH) ∧ Hid (Whole wr w.heap.size 27 ((List.replicate 32 (0 : UInt8)).map bv)) ∧ Hid (Keeps [] w wr)) (fun i _ => 32 - (intOf i).toNat)
              case atStart => exact ⟨0, Nat.zero_le _, rfl, U2, U0, U1, KU⟩
              case round =>
                obtain ⟨k, hk32, rfl, H2, HT, H1, KP⟩ := hrel
                by_cases hlt6 : k < 32
                · have hki : (k : Int) < 32 := by omega
                  have q1 : (k : Int) / 4 = ((k / 4 : Nat) : Int) := by omega
                  have q2 : (k : Int).tdiv 4 = ((k / 4 : Nat) : Int) := by rw [Int.tdiv_eq_ediv_of_nonneg (by omega)]; exact q1
                  have q3 : (k : Int) % 4 = ((k % 4 : Nat) : Int) := by omega
                  have q4 : (k : Int).tmod 4 = ((k % 4 : Nat) : Int) := by rw [Int.tmod_eq_emod_of_nonneg (by omega)]; exact q3
                  have q5 : k / 4 < 8 := by omega
                  have q6 : ((k / 4 : Nat) : Int) < 8 := by omega
                  have cw := HT.out.cell (k / 4) (tab_get 8 _ (k / 4) q5)
                  have r1 : ((k % 4 : Nat) : Int) * 8 = ((k % 4 * 8 : Nat) : Int) := by omega
                  have r2 : (24 : Int) - ((k % 4 * 8 : Nat) : Int) = ((24 - k % 4 * 8 : Nat) : Int) := by omega
                  have r3 : min (24 - k % 4 * 8) 32 = 24 - k % 4 * 8 := by omega
                  have r6 : k % 4 * 8 ≤ 24 := by omega
                  have hlo : (outs st)[k]? = some (outb st k) := outs_get st k hlt6
                  have r4 : ((st.get (k / 4)).toNat : Int) / (2 : Int) ^ (24 - k % 4 * 8) % 256 = ((outb st k).toNat : Int) := by
                    unfold outb
                    rw [byte_mod, Int.natCast_emod, Int.natCast_ediv, Int.natCast_pow]; rfl
                  have r5 : IntKind.u8.wrap (((st.get (k / 4)).toNat : Int) / (2 : Int) ^ (24 - k % 4 * 8)) = ((outb st k).toNat : Int) := r4
                  have c2 : wr.cell? ⟨b2, k, none⟩ = some (bv 0) := (H2.out.cell k).trans (by rw [List.getElem?_map, fillK_get _ _ _ hlt6 (by rw [outs_length]; omega)]; rfl)
                  have f2 := H2.out.frozen k
                  have hHk := HT.out.lt
                  have hs := H2.out.set k (bv (outb st k))
                  rw [← List.map_set, fillK_set _ _ _ _ hlt6 hlo] at hs
                  have kst := fun v => Keeps.setCell (S := [b2]) wr (p := ⟨b2, k, none⟩) (by simp) v
                  have HS2 := Lib.hid hs
                  have HT2 := Lib.hid (HT.out.keeps (kst (bv (outb st k))) (notMem1 (by omega)))
                  have HW2 := Lib.hid (H1.out.keeps (kst (bv (outb st k))) (notMem1 (by omega)))
                  have KP2 := Lib.hid (KP.out.then (kst (bv (outb st k))) (fun x hx => .inr (by simp at hx; omega)))
                  clear HT H2 H1 KP hs kst hlo
                  generalize outb st k = oc at *
                  generalize st.get (k / 4) = sw at *
                  generalize k / 4 = kq at *
                  generalize 24 - k % 4 * 8 = sh at *
                  generalize k % 4 * 8 = k8 at *
                  generalize k % 4 = kr at *
                  unfold bv at c2
                  unfold uv at cw
                  go_wp2
                  go_roundw
                  case rel => exact ⟨k + 1, by omega, by go_num, HS2, HT2, HW2, KP2⟩
                  case measure => simp [intOf]; omega
                · obtain rfl : k = 32 := by omega
                  have HF := Lib.hid (show Whole wr b2 27 ((outs st).map bv) by
                    have := H2.out
                    rw [fillK_end _ _ (outs_length st)] at this
                    exact this)
                  clear H2 HT
                  go_wp2_with (first | (refine wpList_load_row rfl 27 _ rfl b2 rfl 27 ((outs st).map bv).toArray (0, 0) _ HF.out Tryd.underlying27 rfl (by rw [szBytes32]; simp [outs_length]) ?_) | (refine wpList_store_row rfl 27 _ _ rfl w.heap.size ((outs st).map bv).toArray rfl rfl 27 ((List.replicate 32 (0 : UInt8)).map bv).toArray H1.out (by rw [szBytes32]; simp [outs_length]) (by simp [outs_length]) (bytes_one _) ?_))
                  exact bodyPost_ret (results_cell_row Tryd.results7 _ _ w.heap.size 27 ((outs st).map bv).toArray (0, 0) _ rfl (H1.out.setRow _) Tryd.underlying27 rfl (by rw [szBytes32]; simp [outs_length])) rfl ⟨by rw [HS.out], KP.out.then (Keeps.setRow (S := [w.heap.size]) _ (by simp) _) (fun x hx => .inr (by simp at hx; omega))⟩
end Go.Proofs.YtlnmbfddhdjioaaDoor
