/-
  FlashErase answers true: a mask of a sector's size.
-/
import Derived.Test.YtecoggcmebiaiaaLawErase
namespace Go.Proofs.Ytecoggcmebiaiaa
open Go.RowKit Go.Deep

theorem wear_at {S k : Nat} (hk : k < 8) (x : Int) : (([0, 0, 0, 0, 0, 0, 0, 0] : List Int).set S x)[k]? = some (if S = k then x else 0) := by
  rw [List.getElem?_set]
  by_cases h : S = k
  · subst h
    rw [if_pos rfl, if_pos rfl]
    exact if_pos hk
  · rw [if_neg h, if_neg h]
    match k, hk with
    | 0, _ => rfl
    | 1, _ => rfl
    | 2, _ => rfl
    | 3, _ => rfl
    | 4, _ => rfl
    | 5, _ => rfl
    | 6, _ => rfl
    | 7, _ => rfl

theorem wear_set_small {S : Nat} (x : Int) (hx : 0 ≤ x ∧ x < 9223372036854775807) : ∀ y ∈ ([0, 0, 0, 0, 0, 0, 0, 0] : List Int).set S x, 0 ≤ y ∧ y < 9223372036854775807 := by
  intro y hy
  rcases List.mem_or_eq_of_mem_set hy with h | h
  · have := wear_small rfl y h; exact this
  · subst h; exact hx

set_option maxRecDepth 100000 in
set_option maxHeartbeats 6000000 in
theorem FlashErase_full (w : World) (v1 : Value) (l : List PutD) (h1 : PutsAt w w.heap.size v1 l) (sec : Nat) (hsec : sec < 256) (Mm off cap : Nat) (mask : List UInt8) (hml : mask.length = 256) (hcap : 256 ≤ cap)
    (hmc : ∀ i c, mask[i]? = some c → w.cell? ⟨Mm, off + i, none⟩ = some (bv c)) :
    Calls Try.prog 6 #[v1, .int .u8 sec, .slice (some ⟨Mm, off, none⟩) 256 cap] w fun e w' => e = .returned (.bool true) ∧ Keeps [] w w' := by
  obtain ⟨S, hSe⟩ : ∃ S, sec % 8 = S := ⟨_, rfl⟩
  have hS : S < 8 := by omega
  have hSi : (sec : Int) % 8 = (S : Int) := by omega
  have HP := Lib.hid (plain_new.puts (l.take 20))
  have H1 := Lib.hid h1
  have HML := Lib.hid hml
  have HMC := Lib.hid hmc
  clear h1 hml hmc hSe
  go_enter Try.func6, Try.ntmps6
  go_wp2_with fail
  refine (after_any _ w.heap.size v1 l H1.out).mono ?_
  rintro e w1 ⟨F, B, W, M, rfl, gF, gB, gW, hF, hK⟩
  generalize puts (l.take 20) (FS.new 8) = s at *
  have HF1 := Lib.hid hF
  have HK1 := Lib.hid hK
  clear hF hK
  go_wp2_with fail
  refine (all_yes _ HF1.out HP.out.down HP.out.len).mono ?_
  rintro e w2 ⟨b0, k0, rfl, gb0, hR, hK⟩
  have HR0 := Lib.hid hR
  have HK2 := Lib.hid hK
  have HF2 := Lib.hid (HF1.out.keeps hK (by simp) (by simp) (by simp) (by simp))
  clear hR hK
  go_wp2_with fail
  refine (Copy_yes _ HF2.out).mono ?_
  rintro e w3 ⟨G, BG, WG, MG, rfl, gG, gBG, gWG, hG, hK, _, dMG⟩
  have HG3 := Lib.hid hG
  have HK3 := Lib.hid hK
  have HF3 := Lib.hid (HF2.out.keeps hK (by simp) (by simp) (by simp) (by simp))
  clear hG hK
  have s1 := HK1.out.size
  have s2 := HK2.out.size
  have s3 := HK3.out.size
  have l1 := HF1.out.lt
  have l3 := HG3.out.lt
  have lr := HR0.out.lt
  go_wp2_with fail
  refine (Erase_lit _ HF3.out S _ _ (wear_small HP.out.wear) (e0 HP.out hS)).mono ?_
  rintro e w4 ⟨rfl, hF, hK⟩
  have HF4 := Lib.hid hF
  have HK4 := Lib.hid hK
  have nM2 := HF2.out.nM
  have lF2 := HF2.out.lt
  have nMG : MG ≠ F ∧ MG ≠ B ∧ MG ≠ W := by omega
  have HG4 := Lib.hid (HG3.out.keeps hK (by simp; omega) (by simp; omega) (by simp; omega) (by simp; omega))
  have HR4 := Lib.hid ((HR0.out.keeps HK3.out (by simp)).keeps hK (by simp; omega))
  have K04 := Lib.hid (((HK1.out.trans HK2.out).trans HK3.out).then hK (fun x hx => by simp at hx; right; omega))
  have s4 := hK.size
  clear hF hK
  go_wp2_with fail
  refine (Arm_some _ HG4.out 0 HP.out.down (by omega) (by omega) ⟨Mm, off, none⟩ 256 cap mask HML.out hcap (by omega) (fun i c hi => by rw [Addr.add_off]; exact K04.out.cell (HMC.out i c hi) (by simp))).mono ?_
  rintro e w5 ⟨rfl, M5, gM5, hG, hK⟩
  have HG5 := Lib.hid hG
  have HF5 := Lib.hid (HF4.out.keepsNil HP.out.mask hK (by simp; omega) (by simp; omega) (by simp; omega))
  have HR5 := Lib.hid (HR4.out.keeps hK (by simp; omega))
  have K05 := Lib.hid (K04.out.then hK (fun x hx => by simp at hx; right; omega))
  have s5 := hK.size
  clear hG hK
  go_wp2_with fail
  refine (Erase_lit _ HG5.out S _ _ (wear_small HP.out.wear) (e1 HP.out hS mask (by rw [HML.out]; omega))).mono ?_
  rintro e w6 ⟨rfl, hG, hK⟩
  have HG6 := Lib.hid hG
  have HF6 := Lib.hid (HF5.out.keepsNil HP.out.mask hK (by simp; omega) (by simp; omega) (by simp; omega))
  have HR6 := Lib.hid (HR5.out.keeps hK (by simp; omega))
  have K06 := Lib.hid (K05.out.then hK (fun x hx => by simp at hx; right; omega))
  have s6 := hK.size
  clear hG hK
  go_wp2_with fail
  refine (Up_yes _ HG6.out).mono ?_
  rintro e w7 ⟨rfl, hG, hK⟩
  have HG7 := Lib.hid (show FlashAt w7 G BG WG M5 (E2 s S mask) from hG)
  have HF7 := Lib.hid (HF6.out.keepsNil HP.out.mask hK (by simp; omega) (by simp; omega) (by simp; omega))
  have HR7 := Lib.hid (HR6.out.keeps hK (by simp; omega))
  have K07 := Lib.hid (K06.out.then hK (fun x hx => by simp at hx; right; omega))
  have s7 := hK.size
  clear hG hK
  go_wp2_with fail
  refine (all_yes _ HF7.out HP.out.down (E0len HP.out)).mono ?_
  rintro e w8 ⟨b1, k1, rfl, gb1, hR, hK⟩
  have HN8 := Lib.hid hR
  have HG8 := Lib.hid (HG7.out.keeps hK (by simp) (by simp) (by simp) (by simp))
  have HF8 := Lib.hid (HF7.out.keeps hK (by simp) (by simp) (by simp) (by simp))
  have HR8 := Lib.hid (HR7.out.keeps hK (by simp))
  have K08 := Lib.hid (K07.out.trans hK)
  have s8 := hK.size
  clear hR hK
  go_wp2_with fail
  refine (all_yes _ HG8.out rfl (E2len HP.out mask)).mono ?_
  rintro e w9 ⟨b2, k2, rfl, gb2, hR, hK⟩
  have HO9 := Lib.hid hR
  have HG9 := Lib.hid (HG8.out.keeps hK (by simp) (by simp) (by simp) (by simp))
  have HF9 := Lib.hid (HF8.out.keeps hK (by simp) (by simp) (by simp) (by simp))
  have HR9 := Lib.hid (HR8.out.keeps hK (by simp))
  have HN9 := Lib.hid (HN8.out.keeps hK (by simp))
  have K09 := Lib.hid (K08.out.trans hK)
  have s9 := hK.size
  clear hR hK
  go_wp2
  go_loopw [77] (fun i wr => ∃ j : Nat, j ≤ 2048 ∧ i = .int .i64 j ∧ Keeps [] w9 wr) (fun i _ => 2048 - (intOf i).toNat)
  case atStart => exact ⟨0, Nat.zero_le _, rfl, Keeps.refl _ _⟩
  case round =>
    obtain ⟨j, hj, rfl, hKr⟩ := hrel
    have HKr := Lib.hid hKr
    clear hKr
    by_cases hlt : j < 2048
    · have hlt' : (j : Int) < 2048 := by omega
      have hj0 : (0 : Int) ≤ j := by omega
      have hsl : j < s.bs.length := by rw [HP.out.len]; exact hlt
      have hc0 : s.bs[j]? = some s.bs[j] := List.getElem?_eq_getElem hsl
      have r0 : wr.cell? ⟨b0, j, none⟩ = some (bv s.bs[j]) := HKr.out.cell (HR9.out.cell j (by rw [List.getElem?_map, hc0]; rfl)) (by simp)
      have r1 : wr.cell? ⟨b1, j, none⟩ = some (bv (if S * 256 ≤ j ∧ j < S * 256 + 256 then 255 else s.bs[j])) := HKr.out.cell (HN9.out.cell j (by rw [List.getElem?_map, show (E0 s S).bs = span s.bs (S * 256) 256 (gSet 255) from rfl, span_get _ _ _ _ _ _ hc0]; rfl)) (by simp)
      have r2 : wr.cell? ⟨b2, j, none⟩ = some (bv (if S * 256 ≤ j ∧ j < S * 256 + 256 then mask.getD (j - S * 256) 0 else s.bs[j])) := HKr.out.cell (HO9.out.cell j (by rw [List.getElem?_map, show (E2 s S mask).bs = span s.bs (S * 256) 256 (fun i c => gSet (mask.getD i 0) i c) from rfl, span_get _ _ _ _ _ _ hc0]; rfl)) (by simp)
      have hmi : j % 256 < mask.length := by rw [HML.out]; omega
      have r3 : wr.cell? ⟨Mm, off + j % 256, none⟩ = some (bv (mask.getD (j % 256) 0)) := HKr.out.cell (K09.out.cell (HMC.out (j % 256) (mask.getD (j % 256) 0) (by simp [List.getD, List.getElem?_eq_getElem hmi])) (by simp)) (by simp)
      generalize s.bs[j] = c at *
      clear hc0 hsl
      by_cases hin : S * 256 ≤ j ∧ j < S * 256 + 256
      · rw [if_pos hin] at r1 r2
        have hjm : j - S * 256 = j % 256 := by omega
        rw [hjm] at r2
        generalize mask.getD (j % 256) 0 = x at *
        have hb : ((j : Int) / 256 == (S : Int)) = true := by rw [beq_iff_eq]; omega
        have htm : Int.tmod (j : Int) 256 = ((j % 256 : Nat) : Int) := by rw [Int.tmod_eq_emod_of_nonneg hj0]; omega
        have hm0 : (0 : Int) ≤ ((j % 256 : Nat) : Int) := by omega
        have hm1 : ((j % 256 : Nat) : Int) < 256 := by omega
        have r1' : wr.cell? ⟨b1, j, none⟩ = some (.int .u8 255) := r1
        unfold bv at r0 r2 r3
        clear r1 hin hjm hmi
        go_wp2
        go_quiet (fail)
        go_wp2
        go_roundw
        case rel => exact ⟨j + 1, by omega, by go_num, HKr.out.trans (Keeps.drewN _ _ _)⟩
        case measure => simp [intOf]; omega
      · rw [if_neg hin] at r1 r2
        have hb : ((j : Int) / 256 == (S : Int)) = false := by rw [beq_eq_false_iff_ne]; omega
        unfold bv at r0 r1 r2
        clear hin hmi r3
        go_wp2
        go_quiet (fail)
        go_wp2
        go_roundw
        case rel => exact ⟨j + 1, by omega, by go_num, HKr.out.trans (Keeps.drewN _ _ _)⟩
        case measure => simp [intOf]; omega
    · have hge1 : ¬ ((j : Int) < 2048) := by omega
      go_wp2
      have hGr := HG9.out.keeps HKr.out (by simp) (by simp) (by simp) (by simp)
      have hFr := HF9.out.keeps HKr.out (by simp) (by simp) (by simp) (by simp)
      have hNr := HN9.out.keeps HKr.out (by simp)
      have HGr := Lib.hid hGr
      have HFr := Lib.hid hFr
      have HNr := Lib.hid hNr
      have KR := Lib.hid (K09.out.trans HKr.out)
      clear hGr hFr hNr
      obtain ⟨wo, rfl⟩ : ∃ wo : World, wo = wr := ⟨_, rfl⟩
      go_loop [131] (fun i => ∃ k : Nat, k ≤ 8 ∧ i = .int .i64 k) (fun i => 8 - (intOf i).toNat)
      case atStart => exact ⟨0, by omega, rfl⟩
      case round =>
        obtain ⟨k, hk, rfl⟩ := hrel
        by_cases hk8 : k < 8
        · have hk8' : (k : Int) < 8 := by omega
          by_cases hkS : S = k
          · have q1 := Lib.hid (show (E0 s S).wear[k]? = some 1 by show (s.wear.set S 1)[k]? = _; rw [HP.out.wear, wear_at hk8, if_pos hkS])
            have q2 := Lib.hid (show (E2 s S mask).wear[k]? = some 1 by show (s.wear.set S 1)[k]? = _; rw [HP.out.wear, wear_at hk8, if_pos hkS])
            have hb : ((k : Int) == (S : Int)) = true := by rw [beq_iff_eq]; omega
            have hkS' := Lib.hid hkS
            clear hkS
            go_wp2_with fail
            refine (Wear_yes _ HFr.out k 1 q1.out).mono ?_
            rintro e w' ⟨rfl, rfl⟩
            go_wp2_with fail
            refine (Wear_yes _ HGr.out k 1 q2.out).mono ?_
            rintro e w' ⟨rfl, rfl⟩
            go_wp2
            go_round
            case rel => exact ⟨k + 1, by omega, by go_num⟩
            case measure => simp [intOf]; omega
          · have q1 := Lib.hid (show (E0 s S).wear[k]? = some 0 by show (s.wear.set S 1)[k]? = _; rw [HP.out.wear, wear_at hk8, if_neg hkS])
            have q2 := Lib.hid (show (E2 s S mask).wear[k]? = some 0 by show (s.wear.set S 1)[k]? = _; rw [HP.out.wear, wear_at hk8, if_neg hkS])
            have hb : ((k : Int) == (S : Int)) = false := by rw [beq_eq_false_iff_ne]; omega
            go_wp2_with fail
            refine (Wear_yes _ HFr.out k 0 q1.out).mono ?_
            rintro e w' ⟨rfl, rfl⟩
            go_wp2_with fail
            refine (Wear_yes _ HGr.out k 0 q2.out).mono ?_
            rintro e w' ⟨rfl, rfl⟩
            go_wp2
            go_round
            case rel => exact ⟨k + 1, by omega, by go_num⟩
            case measure => simp [intOf]; omega
        · have hge2 : ¬ ((k : Int) < 8) := by omega
          go_wp2_with fail
          refine (Erase_lit _ HGr.out S _ _ (by show ∀ y ∈ s.wear.set S 1, _; rw [HP.out.wear]; exact wear_set_small 1 (by decide)) (e3 HP.out hS mask)).mono ?_
          rintro e w10 ⟨rfl, hG, hK⟩
          have HG10 := Lib.hid hG
          have sr := HKr.out.size
          have HN10 := Lib.hid (HNr.out.keeps hK (by simp; omega))
          have K10 := Lib.hid (KR.out.then hK (fun x hx => by simp at hx; right; omega))
          clear hG hK
          go_wp2_with fail
          refine (all_yes _ HG10.out rfl (E3len HP.out mask)).mono ?_
          rintro e w11 ⟨b3, k3, rfl, gb3, hR, hK⟩
          rw [E3bs] at hR
          have HO11 := Lib.hid hR
          have HN11 := Lib.hid (HN10.out.keeps hK (by simp))
          have HG11 := Lib.hid (HG10.out.keeps hK (by simp) (by simp) (by simp) (by simp))
          have K11 := Lib.hid (K10.out.trans hK)
          clear hR hK
          go_wp2_with fail
          refine (Is_same _ _ _ _ _ _ (HO11.out.readsLen (E0len HP.out)) (HN11.out.readsLen (E0len HP.out))).mono ?_
          rintro e w11' ⟨rfl, rfl⟩
          go_wp2_with fail
          refine (Wear_yes _ HG11.out S 2 (by show (s.wear.set S 2)[S]? = _; rw [HP.out.wear, wear_at hS, if_pos rfl])).mono ?_
          rintro e w11' ⟨rfl, rfl⟩
          go_wp2_with fail
          refine (awake_any _).mono ?_
          rintro e w12 ⟨rfl, hK12⟩
          go_wp2
          go_ret
          exact ⟨rfl, K11.out.trans hK12⟩

theorem FlashErase_any (w : World) (v1 : Value) (l : List PutD) (h1 : PutsAt w w.heap.size v1 l) (sec : Int) (hsec : (Lit.int .u8 sec).wf = true) (vm : Value) (mask : List UInt8) (Mm : Nat) (hr : Reads w vm mask Mm) :
    Calls Try.prog 6 #[v1, .int .u8 sec, vm] w fun e w' => e = .returned (.bool true) ∧ Keeps [] w w' := by
  by_cases hn : mask.length = 256
  · obtain ⟨off, cap, rfl, hcap, hc⟩ := hr.at (by intro e; rw [e] at hn; cases hn)
    obtain ⟨c, rfl⟩ := byte_of_wf hsec
    rw [hn]
    exact FlashErase_full w v1 l h1 c.toNat c.toNat_lt Mm off cap mask hn (by omega) hc
  · obtain ⟨ao, cap, rfl⟩ := readsShape hr
    exact FlashErase_short w v1 l h1 sec ao mask.length cap hn
end Go.Proofs.Ytecoggcmebiaiaa
