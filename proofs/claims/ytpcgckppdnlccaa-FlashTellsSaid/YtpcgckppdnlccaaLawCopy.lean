/-
  FlashCopy answers true, whatever it is given.
-/
import Derived.Test.YtpcgckppdnlccaaPutB
namespace Go.Proofs.Ytpcgckppdnlccaa
open Go.RowKit Go.Deep

theorem Is_same (w : World) (va vb : Value) (a : List UInt8) (Ma Mb : Nat) (ha : Reads w va a Ma) (hb : Reads w vb a Mb) :
    Calls Try.prog 15 #[va, vb] w fun e w' => e = .returned (.bool true) ∧ w = w' :=
  (Is_any w va vb a a Ma Mb ha hb).mono fun _ _ h => ⟨by rw [h.1]; simp, h.2⟩

theorem FS.let_spend {s : FS} {a n : Nat} {g : UInt8 → Nat → UInt8 → UInt8} (h : s.armed = true) (hl : s.left ≠ 0) :
    s.let a n g = ({ s with bs := span s.bs a n (g 255), left := s.left - 1 }, 0) := by
  unfold FS.let; rw [if_neg (fun q => hl q.2)]; simp [h]

theorem Row.readsLen {w : World} {b : Nat} {T : TypeId} {l : List UInt8} {cap n : Nat} (h : Row w b T (l.map bv) cap) (hn : l.length = n) : Reads w (.slice (some ⟨b, 0, none⟩) n cap) l b := by
  subst hn; exact h.reads

theorem Down_is {F B W M : Nat} {s : FS} (w : World) (hF : FlashAt w F B W M s) (d : Bool) (hd : s.down = d) :
    Calls Try.prog 16 #[.pointer (some ⟨F, 0, none⟩)] w fun e w' => e = .returned (.bool d) ∧ w = w' := by
  subst hd; exact Down_yes w hF

def C1 (s : FS) : FS := s.arm 1 [255, 255, 255, 255]
def C2 (s : FS) : FS := { C1 s with wear := [0, 1, 0, 0, 0, 0, 0, 0], bs := span (C1 s).bs 256 256 (gSet 255), left := 0 }
def C3 (s : FS) : FS := ((C2 s).let 0 4 (gClear [0, 0, 0, 0])).1
section
variable {s : FS} (h : Plain s)
include h
theorem c1len : (C1 s).bs.length = 2048 := h.len
theorem c1mask : (C1 s).mask = [255, 255, 255, 255] := by show ([255, 255, 255, 255] : List UInt8).take s.bs.length = _; rw [h.len]; rfl
theorem c1wear : (C1 s).wear = [0, 0, 0, 0, 0, 0, 0, 0] := h.wear
theorem c1erase : (C1 s).erase 1 = (C2 s, 0) := by
  rw [FS.erase_let rfl (by rw [c1wear h]; decide), FS.let_spend rfl (by show (1 : Int) ≠ 0; decide)]
  simp only [c1wear h]
  rfl
theorem c2len : (C2 s).bs.length = 2048 := by show (span _ _ _ _).length = _; rw [span_length, c1len h]
theorem c2program : (C2 s).program 0 [0, 0, 0, 0] = (C3 s, 12) := by
  rw [FS.program_let (FS.mayProgram_ok rfl (by unfold FS.has; rw [c2len h]; decide) (by decide) (by decide)) (by decide)]
  refine Prod.ext rfl ?_
  rw [FS.let_torn rfl rfl]
end
theorem c3down (s : FS) : (C3 s).down = true := by unfold C3; rw [FS.let_torn rfl rfl]

set_option maxRecDepth 100000 in
set_option maxHeartbeats 4000000 in
theorem FlashCopy_any (w : World) (v1 v2 : Value) (l ms : List PutD) (h1 : PutsAt w w.heap.size v1 l) (h2 : PutsAt w w.heap.size v2 ms) :
    Calls Try.prog 8 #[v1, v2] w fun e w' => e = .returned (.bool true) ∧ Keeps [] w w' := by
  obtain ⟨ao, n, cap, m, rfl, hn, hln, hm, hmin, hp⟩ := h2.open 20 20 rfl
  have hm1 : m ≤ n := by omega
  have hm4 := make4
  have hP := (plain_new.puts (l.take 20))
  have HP := Lib.hid hP
  have H1 := Lib.hid h1
  have Hln := Lib.hid hln
  have Hp := Lib.hid hp
  clear hP h1 h2 hln hp hm
  rcases hmin with ⟨hc, he, hsl2⟩ | ⟨hc, he, hsl2⟩
  all_goals
    have He := Lib.hid he
    clear he
    go_enter Try.func8, Try.ntmps8
    go_wp2_with fail
    refine (after_any _ w.heap.size v1 l H1.out).mono ?_
    rintro e w1 ⟨F, B, W, M, rfl, gF, gB, gW, hF, hK⟩
    have HF1 := Lib.hid hF
    have HK1 := Lib.hid hK
    clear hF hK
    go_wp2_with fail
    refine (Arm_lit _ HF1.out 1 [255, 255, 255, 255] _ 4 rfl rfl (by decide) HP.out.down (by decide) (by decide)).mono ?_
    rintro e w2 ⟨rfl, M2, gM2, hF, hK⟩
    have HF2 := Lib.hid (show FlashAt w2 F B W M2 (C1 (puts (l.take 20) (FS.new 8))) from hF)
    have HK2 := Lib.hid hK
    clear hF hK
    go_wp2_with fail
    refine (Copy_yes _ HF2.out).mono ?_
    rintro e w3 ⟨G, BG, WG, MG, rfl, gG, gBG, gWG, hG, hK, lMG, dMG⟩
    have HG3 := Lib.hid hG
    have HK3 := Lib.hid hK
    have LMG := Lib.hid lMG
    clear hG hK lMG dMG
    go_wp2_with fail
    refine (all_yes _ (HF2.out.keeps HK3.out (by simp) (by simp) (by simp) (by simp)) rfl (c1len HP.out)).mono ?_
    rintro e w4 ⟨b1, k1, rfl, gb1, hR, hK⟩
    have HR1 := Lib.hid hR
    have HK4 := Lib.hid hK
    clear hR hK
    go_wp2_with fail
    refine (all_yes _ (HG3.out.keeps HK4.out (by simp) (by simp) (by simp) (by simp)) rfl (c1len HP.out)).mono ?_
    rintro e w5 ⟨b2, k2, rfl, gb2, hR, hK⟩
    have HR2 := Lib.hid hR
    have HK5 := Lib.hid hK
    clear hR hK
    go_wp2_with fail
    refine (Is_same _ _ _ _ _ _ (HR2.out.readsLen (c1len HP.out)) ((HR1.out.readsLen (c1len HP.out)).keeps HK5.out (by simp))).mono ?_
    rintro e w5' ⟨rfl, rfl⟩
    go_wp2
    go_loopw [36] (fun i wr => ∃ (k : Nat) (sg : FS), k ≤ m ∧ i = .int .i64 k ∧ FlashAt wr G BG WG MG sg ∧ sg.wear = [0, 0, 0, 0, 0, 0, 0, 0] ∧ Keeps [G, BG] w5 wr) (fun i _ => m - (intOf i).toNat)
    case atStart => exact ⟨0, _, Nat.zero_le _, rfl, (HG3.out.keeps HK4.out (by simp) (by simp) (by simp) (by simp)).keeps HK5.out (by simp) (by simp) (by simp) (by simp), c1wear HP.out, Keeps.refl _ _⟩
    case round =>
      have s1 := HK1.out.size
      have s2 := HK2.out.size
      have s3 := HK3.out.size
      have s4 := HK4.out.size
      have s5 := HK5.out.size
      have ltF := HF1.out.lt
      have ltM := HF2.out.maskLt (by rw [c1mask HP.out]; decide)
      have lG := HG3.out.lt
      obtain ⟨k, sg, hk, rfl, hGr, hwe, hKr⟩ := hrel
      have kw : Keeps [G, BG] w wr := ((((((HK1.out.then HK2.out (fun x hx => by simp at hx; right; omega)).trans HK3.out).trans HK4.out).trans HK5.out).mono (by simp)).trans hKr)
      have KW := Lib.hid kw
      have HKr := Lib.hid hKr
      have HGr := Lib.hid hGr
      have HWE := Lib.hid hwe
      clear kw hKr hGr hwe
      by_cases hlt : k < m
      · have hkn : k < ms.length := by have := Hln.out; omega
        have hlt0 := hlt
        rw [He.out] at hlt0
        have hlt' : (k : Int) < _ := Int.ofNat_lt.2 hlt0
        obtain ⟨b, off, hao, hbb, ok, q0, q1⟩ := Hp.out k ms[k] (List.getElem?_eq_getElem hkn)
        have ok1 := ok.keeps KW.out (by intro x hx; simp at hx; omega)
        have r0 := KW.out.cell q0 (by simp; omega)
        have r1 := KW.out.cell q1 (by simp; omega)
        generalize ms[k] = p at *
        obtain ⟨ap, cv, hv⟩ := readsShape ok1.reads
        rw [hv] at r1
        have HV := Lib.hid hv
        have HOK := Lib.hid ok1
        have hpl := p.place_le
        have hbl := p.len_le
        clear ok ok1 q0 q1 hv
        subst hao
        go_wp2_with fail
        rw [← HV.out]
        refine (at_some p _ w.heap.size (HOK.out.keeps (Keeps.alloc [] wr _) (by simp))).mono ?_
        rintro e w6 ⟨bb, cc, rfl, hb2, hR2, hK2⟩
        have hk2 : Keeps [] wr w6 := (Keeps.alloc [] wr _).trans hK2
        have hF2 := HGr.out.keeps hk2 (by simp) (by simp) (by simp) (by simp)
        have lr := HGr.out.lt
        simp only [World.size_alloc] at hb2
        have hcall := Program_yes w6 hF2 p.place _ p.bytes bb hR2.reads ⟨by omega, by omega⟩ (by rw [p.bytes_length]; omega)
        rw [p.bytes_length] at hcall
        have HC := Lib.hid hcall
        have HK6 := Lib.hid hk2
        clear hcall hk2 hF2 hR2 hK2
        go_wp2_with fail
        refine HC.out.mono ?_
        rintro e w7 ⟨rfl, hG7, hK7⟩
        have HG7 := Lib.hid hG7
        have HK7 := Lib.hid ((HKr.out.trans (HK6.out.mono (by simp))).trans hK7)
        clear hG7 hK7
        go_wp2
        go_roundw
        case rel => exact ⟨k + 1, _, by omega, by go_num, HG7.out, by rw [FS.program_wear]; exact HWE.out, HK7.out⟩
        case measure => simp [intOf]; omega
      · obtain rfl : k = m := by omega
        first
        | have hge1 : ¬ ((k : Int) < n) := by have := He.out; omega
        | have hge1 : ¬ ((k : Int) < 20) := by have := He.out; omega
        have hFr := ((((HF2.out.keeps HK3.out (by simp) (by simp) (by simp) (by simp)).keeps HK4.out (by simp) (by simp) (by simp) (by simp)).keeps HK5.out (by simp) (by simp) (by simp) (by simp)).keeps HKr.out (by simp; omega) (by simp; omega) (by simp; omega) (by simp; omega))
        have hRr := ((HR1.out.keeps HK5.out (by simp)).keeps HKr.out (by simp; omega))
        have hrr := HKr.out.size
        have HFr := Lib.hid hFr
        have HRr := Lib.hid hRr
        clear hFr hRr
        go_wp2_with fail
        refine (Erase_yes _ HGr.out 3 (wear_small HWE.out)).mono ?_
        rintro e w8 ⟨rfl, hG, hK⟩
        have HK8 := Lib.hid hK
        have HF8 := Lib.hid (HFr.out.keeps hK (by simp; omega) (by simp; omega) (by simp; omega) (by simp; omega))
        have HR8 := Lib.hid (HRr.out.keeps hK (by simp; omega))
        have s8 := hK.size
        clear hG hK
        go_wp2_with fail
        refine (all_yes _ HF8.out rfl (c1len HP.out)).mono ?_
        rintro e w9 ⟨b3, k3, rfl, gb3, hR, hK⟩
        have HR9 := Lib.hid hR
        have HK9 := Lib.hid hK
        have HF9 := Lib.hid (HF8.out.keeps hK (by simp) (by simp) (by simp) (by simp))
        have s9 := hK.size
        clear hR hK
        go_wp2_with fail
        refine (Is_same _ _ _ _ _ _ (HR9.out.readsLen (c1len HP.out)) ((HR8.out.readsLen (c1len HP.out)).keeps HK9.out (by simp))).mono ?_
        rintro e w9' ⟨rfl, rfl⟩
        go_wp2_with fail
        refine (Wear_yes _ HF9.out 3 0 (by rw [c1wear HP.out]; rfl)).mono ?_
        rintro e w9' ⟨rfl, rfl⟩
        go_wp2_with fail
        refine (Down_is _ HF9.out false rfl).mono ?_
        rintro e w9' ⟨rfl, rfl⟩
        go_wp2_with fail
        refine (Copy_yes _ HF9.out).mono ?_
        rintro e w10 ⟨J, BJ, WJ, MJ, rfl, gJ, gBJ, gWJ, hJ, hK, lMJ, dMJ⟩
        have HJ := Lib.hid hJ
        have HF10 := Lib.hid (HF9.out.keeps hK (by simp) (by simp) (by simp) (by simp))
        have HK10 := Lib.hid hK
        have s10 := hK.size
        obtain ⟨eMJ, lMJ'⟩ := lMJ (by rw [c1mask HP.out]; decide)
        have EMJ := Lib.hid eMJ
        clear eMJ
        have lJ := hJ.lt
        have lF := HF9.out.lt
        have lM := HF9.out.maskLt (by rw [c1mask HP.out]; decide)
        have nM := HF9.out.nM
        clear hJ hK lMJ dMJ
        go_wp2_with fail
        refine (Erase_lit _ HF10.out 1 _ _ (wear_small (c1wear HP.out)) (c1erase HP.out)).mono ?_
        rintro e w11 ⟨rfl, hF, hK⟩
        have HJ11 := Lib.hid (HJ.out.keeps hK (by simp; omega) (by simp; omega) (by simp; omega) (by rw [EMJ.out]; simp; omega))
        have HF11 := Lib.hid hF
        have HK11 := Lib.hid hK
        have s11 := hK.size
        clear hF hK
        go_wp2_with fail
        refine (Erase_lit _ HJ11.out 1 _ _ (wear_small (c1wear HP.out)) (c1erase HP.out)).mono ?_
        rintro e w12 ⟨rfl, hJ, hK⟩
        have HF12 := Lib.hid (HF11.out.keeps hK (by simp; omega) (by simp; omega) (by simp; omega) (by simp; omega))
        have HJ12 := Lib.hid hJ
        have HK12 := Lib.hid hK
        have s12 := hK.size
        clear hJ hK
        go_wp2_with fail
        refine (Program_lit _ HF12.out 0 [0, 0, 0, 0] _ 4 _ _ rfl rfl (by decide) (c2program HP.out)).mono ?_
        rintro e w13 ⟨rfl, hF, hK⟩
        have HJ13 := Lib.hid (HJ12.out.keeps hK (by simp; omega) (by simp; omega) (by simp; omega) (by rw [EMJ.out]; simp; omega))
        have HF13 := Lib.hid hF
        have HK13 := Lib.hid hK
        clear hF hK
        go_wp2_with fail
        refine (Program_lit _ HJ13.out 0 [0, 0, 0, 0] _ 4 _ _ rfl rfl (by decide) (c2program HP.out)).mono ?_
        rintro e w14 ⟨rfl, hJ, hK⟩
        have HF14 := Lib.hid (HF13.out.keeps hK (by simp; omega) (by simp; omega) (by simp; omega) (by simp; omega))
        have HJ14 := Lib.hid hJ
        have HK14 := Lib.hid hK
        clear hJ hK
        go_wp2_with fail
        refine (Up_yes _ HJ14.out).mono ?_
        rintro e w15 ⟨rfl, hJ, hK⟩
        have HF15 := Lib.hid (HF14.out.keeps hK (by simp; omega) (by simp; omega) (by simp; omega) (by simp; omega))
        have HK15 := Lib.hid hK
        clear hJ hK
        go_wp2_with fail
        refine (Down_is _ HF15.out true (c3down _)).mono ?_
        rintro e w15' ⟨rfl, rfl⟩
        go_wp2_with fail
        refine (awake_any _).mono ?_
        rintro e w16 ⟨rfl, hK16⟩
        go_wp2
        go_ret
        refine ⟨rfl, ?_⟩
        have q1 : Keeps [] w wr := KW.out.news (fun x hx => by simp at hx; right; omega)
        have q2 := q1.then HK8.out (fun x hx => by simp at hx; right; omega)
        have q3 := (q2.trans HK9.out).trans HK10.out
        have q4 := q3.then HK11.out (fun x hx => by simp at hx; right; omega)
        have q5 := q4.then HK12.out (fun x hx => by simp at hx; right; omega)
        have q6 := q5.then HK13.out (fun x hx => by simp at hx; right; omega)
        have q7 := q6.then HK14.out (fun x hx => by simp at hx; right; omega)
        have q8 := q7.then HK15.out (fun x hx => by simp at hx; right; omega)
        exact q8.trans hK16
end Go.Proofs.Ytpcgckppdnlccaa
