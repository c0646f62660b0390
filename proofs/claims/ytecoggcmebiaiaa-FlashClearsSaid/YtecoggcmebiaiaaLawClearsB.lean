/-
  FlashClears answers true, whatever it is given.
-/
import Derived.Test.YtecoggcmebiaiaaLawClears
namespace Go.Proofs.Ytecoggcmebiaiaa
open Go.RowKit Go.Deep

set_option maxRecDepth 100000 in
set_option maxHeartbeats 1000000 in
theorem FlashClears_long (w : World) (v1 : Value) (l : List PutD) (h1 : PutsAt w w.heap.size v1 l) (q : Int) (pa : Option Addr) (pn pc : Nat) (ao : Option Addr) (n cap : Nat) (hn : 400 < n) :
    Calls Try.prog 4 #[v1, .agg #[.int .u16 q, .slice pa pn pc], .slice ao n cap] w fun e w' => e = .returned (.bool true) ∧ Keeps [] w w' := by
  have hb : (400 : Int) < n := by omega
  have H1 := Lib.hid (h1.keeps (Keeps.alloc [] w (.cells #[.int .u16 q, .slice pa pn pc] 49)) (by simp))
  clear h1 hn
  go_enter Try.func4, Try.ntmps4
  go_wp2_with fail
  refine (after_any _ w.heap.size v1 l H1.out).mono ?_
  rintro e w1 ⟨F, B, W, M, rfl, gF, gB, gW, hF, hK⟩
  have HK1 := Lib.hid hK
  clear hF hK
  go_wp2_with (go_at_call 10; refine (awake_any _).mono ?_; rintro e w2 ⟨rfl, hK2⟩)
  go_ret
  exact ⟨rfl, ((Keeps.alloc [] w _).trans HK1.out).trans hK2⟩

set_option maxRecDepth 100000 in
set_option maxHeartbeats 6000000 in
theorem FlashClears_short (w : World) (v1 : Value) (l : List PutD) (h1 : PutsAt w w.heap.size v1 l) (p : PutD) (hp : p.ok w w.heap.size) (pa : Option Addr) (pn pc : Nat) (hpv : p.v = .slice pa pn pc)
    (ao : Option Addr) (n cap : Nat) (mask : List UInt8) (Mm : Nat) (hr : Reads w (.slice ao n cap) mask Mm) (hMm : mask ≠ [] → Mm < w.heap.size) (hml : mask.length = n) (hn : n ≤ 400) :
    Calls Try.prog 4 #[v1, .agg #[.int .u16 p.word, .slice pa pn pc], .slice ao n cap] w fun e w' => e = .returned (.bool true) ∧ Keeps [] w w' := by
  have hb : decide ((400 : Int) < n) = false := by simp; omega
  have KA := Lib.hid (Keeps.alloc [] w (.cells #[.int .u16 p.word, .slice pa pn pc] 49))
  have H1 := Lib.hid (h1.keeps KA.out (by simp))
  have HPK := Lib.hid hp
  have HP := Lib.hid (plain_new.puts (l.take 20))
  have HML := Lib.hid hml
  have HPV := Lib.hid hpv
  have HR := Lib.hid hr
  have HMM := Lib.hid hMm
  have hpl := p.place_le
  have hbl := p.len_le
  clear h1 hml hp hpv hr hMm
  go_enter Try.func4, Try.ntmps4
  go_wp2_with fail
  refine (after_any _ w.heap.size v1 l H1.out).mono ?_
  rintro e w1 ⟨F, B, W, M, rfl, gF, gB, gW, hF, hK⟩
  generalize puts (l.take 20) (FS.new 8) = s at *
  have HF1 := Lib.hid hF
  have HK1 := Lib.hid (KA.out.trans hK)
  have bx0 : w1.cell? ⟨w.heap.size, 0, none⟩ = some (.int .u16 p.word) := hK.cell (by rw [cell_alloc_new]; rfl) (by simp)
  have bx1 : w1.cell? ⟨w.heap.size, 1, none⟩ = some (.slice pa pn pc) := hK.cell (by rw [cell_alloc_new]; rfl) (by simp)
  clear hF hK
  simp only [World.size_alloc] at gF gB gW
  go_wp2_with fail
  rw [← HPV.out]
  refine (at_some p _ w.heap.size (HPK.out.keeps HK1.out (by simp))).mono ?_
  rintro e w2 ⟨bb, cc, rfl, gbb, hR, hK⟩
  have HB2 := Lib.hid hR
  have HK2 := Lib.hid (HK1.out.trans hK)
  have HF2 := Lib.hid (HF1.out.keeps hK (by simp) (by simp) (by simp) (by simp))
  have s1 := HK1.out.size
  have s2 := hK.size
  have lF := HF1.out.lt
  have nM := HF1.out.nM
  clear hR hK bx0 bx1
  go_wp2_with fail
  refine (all_yes _ HF2.out HP.out.down HP.out.len).mono ?_
  rintro e w3 ⟨b0, k0, rfl, gb0, hR, hK⟩
  have HW3 := Lib.hid hR
  have HB3 := Lib.hid (HB2.out.keeps hK (by simp))
  have HK3 := Lib.hid (HK2.out.trans hK)
  have HF3 := Lib.hid (HF2.out.keeps hK (by simp) (by simp) (by simp) (by simp))
  have s3 := hK.size
  have lb0 := hR.lt
  have lbb := HB2.out.lt
  clear hR hK
  go_wp2_with fail
  refine (Copy_yes _ HF3.out).mono ?_
  rintro e w4 ⟨G, BG, WG, MG, rfl, gG, gBG, gWG, hG, hK, _, dMG⟩
  have HG4 := Lib.hid hG
  have HW4 := Lib.hid (HW3.out.keeps hK (by simp))
  have HB4 := Lib.hid (HB3.out.keeps hK (by simp))
  have HK4 := Lib.hid (HK3.out.trans hK)
  have HF4 := Lib.hid (HF3.out.keeps hK (by simp) (by simp) (by simp) (by simp))
  have s4 := hK.size
  have lG := hG.lt
  clear hG hK
  have hprog := HP.out.program p.place p.bytes hpl.2 (by rw [p.bytes_length]; omega) (by rw [p.bytes_length]; omega)
  have hcall := Program_yes w4 HG4.out p.place _ p.bytes bb HB4.out.reads ⟨by omega, by omega⟩ (by rw [p.bytes_length]; omega)
  rw [hprog, p.bytes_length] at hcall
  have HC := Lib.hid hcall
  clear hcall hprog
  go_wp2_with fail
  refine HC.out.mono ?_
  rintro e w5 ⟨rfl, hG, hK⟩
  have HG5 := Lib.hid hG
  have HW5 := Lib.hid (HW4.out.keeps hK (by simp; omega))
  have HB5 := Lib.hid (HB4.out.keeps hK (by simp; omega))
  have HK5 := Lib.hid (HK4.out.then hK (fun x hx => by simp at hx; right; omega))
  have HF5 := Lib.hid (HF4.out.keepsNil HP.out.mask hK (by simp; omega) (by simp; omega) (by simp; omega))
  have s5 := hK.size
  clear hG hK HC
  have HPlen := Lib.hid p.bytes_length
  by_cases hz : p.len = 0
  · have hzi : ((p.len : Int) == 0) = true := by rw [beq_iff_eq]; omega
    have HZ := Lib.hid (show (s.put p.place p.bytes).bs = s.bs by
      have : p.bytes = [] := List.eq_nil_of_length_eq_zero (by rw [p.bytes_length]; exact hz)
      rw [this]; exact span_zero _ _ _)
    have HPG := Lib.hid (HP.out.put p.place p.bytes)
    have Hz := Lib.hid hz
    clear hz
    go_wp2_with fail
    refine (all_yes _ HG5.out HPG.out.down HPG.out.len).mono ?_
    rintro e w6 ⟨b1, k1, rfl, gb1, hR, hK⟩
    rw [HZ.out] at hR
    have HN6 := Lib.hid hR
    have HW6 := Lib.hid (HW5.out.keeps hK (by simp))
    have HK6 := Lib.hid (HK5.out.trans hK)
    clear hR hK
    go_wp2_with fail
    refine (Is_same _ _ _ _ _ _ (HN6.out.readsLen HP.out.len) (HW6.out.readsLen HP.out.len)).mono ?_
    rintro e w6' ⟨rfl, rfl⟩
    go_wp2_with fail
    refine (awake_any _).mono ?_
    rintro e w7 ⟨rfl, hK7⟩
    go_wp2
    go_ret
    exact ⟨rfl, HK6.out.trans hK7⟩
  · have hzi : ((p.len : Int) == 0) = false := by rw [beq_eq_false_iff_ne]; omega
    have HNE := Lib.hid (show p.bytes ≠ [] by intro e; have := p.bytes_length; rw [e] at this; exact hz this.symm)
    clear hz
    have HPG := Lib.hid (HP.out.put p.place p.bytes)
    go_wp2_with fail
    refine (Arm_any _ HF5.out 0 HP.out.down (by omega) (by omega) _ mask Mm (HR.out.keeps HK5.out (by simp)) (by have := HML.out; omega)).mono ?_
    rintro e w6 ⟨rfl, M6, gM6, hF, hK⟩
    have HF6 := Lib.hid hF
    have HG6 := Lib.hid (HG5.out.keepsNil HPG.out.mask hK (by simp; omega) (by simp; omega) (by simp; omega))
    have HW6 := Lib.hid (HW5.out.keeps hK (by simp; omega))
    have HB6 := Lib.hid (HB5.out.keeps hK (by simp; omega))
    have HK6 := Lib.hid (HK5.out.then hK (fun x hx => by simp at hx; right; omega))
    have s6 := hK.size
    clear hF hK
    have hcall := Program_yes w6 HF6.out p.place _ p.bytes bb HB6.out.reads ⟨by omega, by omega⟩ (by rw [p.bytes_length]; omega)
    rw [t1 HP.out p.place p.bytes mask hpl.2 (by rw [p.bytes_length]; omega) (by rw [p.bytes_length]; omega) HNE.out (by have := HML.out; omega), p.bytes_length] at hcall
    have HC := Lib.hid hcall
    clear hcall
    go_wp2_with fail
    refine HC.out.mono ?_
    rintro e w7 ⟨rfl, hF, hK⟩
    have HF7 := Lib.hid hF
    have HG7 := Lib.hid (HG6.out.keepsNil HPG.out.mask hK (by simp; omega) (by simp; omega) (by simp; omega))
    have HW7 := Lib.hid (HW6.out.keeps hK (by simp; omega))
    have HB7 := Lib.hid (HB6.out.keeps hK (by simp; omega))
    have HK7 := Lib.hid (HK6.out.then hK (fun x hx => by simp at hx; right; omega))
    have s7 := hK.size
    clear hF hK HC
    go_wp2_with fail
    refine (Up_yes _ HF7.out).mono ?_
    rintro e w8 ⟨rfl, hF, hK⟩
    have HF8 := Lib.hid (show FlashAt w8 F B W M6 (T2 s p.place p.bytes mask) from hF)
    have HG8 := Lib.hid (HG7.out.keepsNil HPG.out.mask hK (by simp; omega) (by simp; omega) (by simp; omega))
    have HW8 := Lib.hid (HW7.out.keeps hK (by simp; omega))
    have HB8 := Lib.hid (HB7.out.keeps hK (by simp; omega))
    have HK8 := Lib.hid (HK7.out.then hK (fun x hx => by simp at hx; right; omega))
    have s8 := hK.size
    clear hF hK
    have HPT := Lib.hid (T2plain HP.out p.place p.bytes mask)
    go_wp2_with fail
    refine (all_yes _ HF8.out HPT.out.down HPT.out.len).mono ?_
    rintro e w9 ⟨b1, k1, rfl, gb1, hR, hK⟩
    have HN9 := Lib.hid hR
    have HF9 := Lib.hid (HF8.out.keeps hK (by simp) (by simp) (by simp) (by simp))
    have HG9 := Lib.hid (HG8.out.keeps hK (by simp) (by simp) (by simp) (by simp))
    have HW9 := Lib.hid (HW8.out.keeps hK (by simp))
    have HB9 := Lib.hid (HB8.out.keeps hK (by simp))
    have HK9 := Lib.hid (HK8.out.trans hK)
    have s9 := hK.size
    clear hR hK
    go_wp2
    go_loopw [78] (fun i wr => ∃ j : Nat, j ≤ 2048 ∧ i = .int .i64 j ∧ Keeps [] w9 wr) (fun i _ => 2048 - (intOf i).toNat)
    case atStart => exact ⟨0, Nat.zero_le _, rfl, Keeps.refl _ _⟩
    case round =>
      obtain ⟨j, hj, rfl, hKr⟩ := hrel
      have HKr := Lib.hid hKr
      clear hKr
      by_cases hlt : j < 2048
      · have hlt' : (j : Int) < 2048 := by omega
        have hj0 : (0 : Int) ≤ j := by omega
        have hsl : j < s.bs.length := by rw [HP.out.len]; exact hlt
        have hc0 : s.bs[j]? = some s.bs[j] := List.getElem?_eq_getElem hsl
        have r0 : wr.cell? ⟨b0, j, none⟩ = some (bv s.bs[j]) := HKr.out.cell (HW9.out.cell j (by rw [List.getElem?_map, hc0]; rfl)) (by simp)
        have r1 : wr.cell? ⟨b1, j, none⟩ = some (bv (if p.place ≤ j ∧ j < p.place + p.bytes.length then gClear p.bytes (mask.getD (j - p.place) 0) (j - p.place) s.bs[j] else s.bs[j])) := HKr.out.cell (HN9.out.cell j (by rw [List.getElem?_map, show (T2 s p.place p.bytes mask).bs = span s.bs p.place p.bytes.length (fun i c => gClear p.bytes (mask.getD i 0) i c) from rfl, span_get _ _ _ _ _ _ hc0]; rfl)) (by simp)
        rw [HPlen.out] at r1
        generalize s.bs[j] = c at *
        clear hc0 hsl
        by_cases hin : p.place ≤ j ∧ j < p.place + p.len
        · rw [if_pos hin] at r1
          have hxl : j - p.place < p.bytes.length := by rw [HPlen.out]; omega
          have hx : p.bytes[j - p.place]? = some (p.bytes.getD (j - p.place) 0) := by simp [List.getD, List.getElem?_eq_getElem hxl]
          have r2 : wr.cell? ⟨bb, j - p.place, none⟩ = some (bv (p.bytes.getD (j - p.place) 0)) := HKr.out.cell (HB9.out.cell _ (by rw [List.getElem?_map, hx]; rfl)) (by simp)
          unfold gClear at r1
          generalize p.bytes.getD (j - p.place) 0 = x at *
          generalize mask.getD (j - p.place) 0 = tt at *
          have z1 := andNot_u8 (clears c tt x) c
          rw [clears_none] at z1
          have z2 : bits .andNot .u8 (bits .and .u8 (c.toNat : Int) (x.toNat : Int)) ((clears c tt x).toNat : Int) = 0 := by rw [and_u8, andNot_u8, clears_keeps]; rfl
          have z1' : bits .andNot .u8 ((clears c tt x).toNat : Int) (c.toNat : Int) = 0 := z1
          generalize clears c tt x = nw at *
          have g1 : (p.place : Int) ≤ j := by omega
          have g2 : (j : Int) < p.place + p.len := by omega
          have hsub : (j : Int) - p.place = ((j - p.place : Nat) : Int) := by omega
          have hi1 : j - p.place < p.len := by omega
          unfold bv at r0 r1 r2
          clear hin hx hxl z1
          go_wp2
          go_quiet (fail)
          go_wp2
          go_roundw
          case rel => exact ⟨j + 1, by omega, by go_num, HKr.out.trans (Keeps.drewN _ _ _)⟩
          case measure => simp [intOf]; omega
        · rw [if_neg hin] at r1
          by_cases hge : (p.place : Int) ≤ j
          · have hge2 : ¬ ((j : Int) < p.place + p.len) := by omega
            have hd1 : decide ((j : Int) < p.place + p.len) = false := by simp; omega
            clear hin
            have z1 := andNot_self c
            have z2 : bits .andNot .u8 (bits .and .u8 (c.toNat : Int) 255) (c.toNat : Int) = 0 := by rw [and_255]; exact z1
            have z3 := and_255 c
            unfold bv at r0 r1
            go_wp2
            go_quiet (fail)
            go_wp2
            go_roundw
            case rel => exact ⟨j + 1, by omega, by go_num, HKr.out.trans (Keeps.drewN _ _ _)⟩
            case measure => simp [intOf]; omega
          · have hge3 : decide ((p.place : Int) ≤ j) = false := by simp; omega
            clear hin
            have z1 := andNot_self c
            have z2 : bits .andNot .u8 (bits .and .u8 (c.toNat : Int) 255) (c.toNat : Int) = 0 := by rw [and_255]; exact z1
            have z3 := and_255 c
            unfold bv at r0 r1
            go_wp2
            go_quiet (fail)
            go_wp2
            go_roundw
            case rel => exact ⟨j + 1, by omega, by go_num, HKr.out.trans (Keeps.drewN _ _ _)⟩
            case measure => simp [intOf]; omega
      · have hge1 : ¬ ((j : Int) < 2048) := by omega
        have HFr := Lib.hid (HF9.out.keeps HKr.out (by simp) (by simp) (by simp) (by simp))
        have HGr := Lib.hid (HG9.out.keeps HKr.out (by simp) (by simp) (by simp) (by simp))
        have HBr := Lib.hid (HB9.out.keeps HKr.out (by simp))
        have KR := Lib.hid (HK9.out.trans HKr.out)
        have sr := HKr.out.size
        have hcall := Program_yes wr HFr.out p.place _ p.bytes bb HBr.out.reads ⟨by omega, by omega⟩ (by rw [p.bytes_length]; omega)
        rw [HPT.out.program p.place p.bytes hpl.2 (by rw [p.bytes_length]; omega) (by rw [p.bytes_length]; omega), p.bytes_length] at hcall
        have HC := Lib.hid hcall
        clear hcall
        go_wp2_with fail
        refine HC.out.mono ?_
        rintro e w10 ⟨rfl, hF, hK⟩
        have HF10 := Lib.hid hF
        have HG10 := Lib.hid (HGr.out.keepsNil HPG.out.mask hK (by simp; omega) (by simp; omega) (by simp; omega))
        have K10 := Lib.hid (KR.out.then hK (fun x hx => by simp at hx; right; omega))
        have HPT2 := Lib.hid (HPT.out.put p.place p.bytes)
        clear hF hK HC
        go_wp2_with fail
        refine (all_yes _ HF10.out HPT2.out.down HPT2.out.len).mono ?_
        rintro e w11 ⟨b2, k2, rfl, gb2, hR, hK⟩
        rw [T2put] at hR
        have HN11 := Lib.hid hR
        have HG11 := Lib.hid (HG10.out.keeps hK (by simp) (by simp) (by simp) (by simp))
        have K11 := Lib.hid (K10.out.trans hK)
        clear hR hK
        go_wp2_with fail
        refine (all_yes _ HG11.out HPG.out.down HPG.out.len).mono ?_
        rintro e w12 ⟨b3, k3, rfl, gb3, hR, hK⟩
        have HO12 := Lib.hid hR
        have HN12 := Lib.hid (HN11.out.keeps hK (by simp))
        have K12 := Lib.hid (K11.out.trans hK)
        clear hR hK
        go_wp2_with fail
        refine (Is_same _ _ _ _ _ _ (HN12.out.readsLen HPG.out.len) (HO12.out.readsLen HPG.out.len)).mono ?_
        rintro e w12' ⟨rfl, rfl⟩
        go_wp2_with fail
        refine (awake_any _).mono ?_
        rintro e w13 ⟨rfl, hK13⟩
        go_wp2
        go_ret
        exact ⟨rfl, K12.out.trans hK13⟩

theorem FlashClears_any (w : World) (v1 : Value) (l : List PutD) (h1 : PutsAt w w.heap.size v1 l) (p : PutD) (hp : p.ok w w.heap.size) (vm : Value) (mask : List UInt8) (Mm : Nat) (hr : Reads w vm mask Mm) (hMm : mask ≠ [] → Mm < w.heap.size) :
    Calls Try.prog 4 #[v1, .agg #[.int .u16 p.word, p.v], vm] w fun e w' => e = .returned (.bool true) ∧ Keeps [] w w' := by
  obtain ⟨pa, pc, hpv⟩ := readsShape hp.reads
  obtain ⟨ao, cap, rfl⟩ := readsShape hr
  by_cases hn : 400 < mask.length
  · rw [hpv]
    exact FlashClears_long w v1 l h1 _ pa _ pc ao _ cap hn
  · have := FlashClears_short w v1 l h1 p hp pa p.b.length pc hpv ao mask.length cap mask Mm hr hMm rfl (by omega)
    rw [hpv]
    exact this
end Go.Proofs.Ytecoggcmebiaiaa
