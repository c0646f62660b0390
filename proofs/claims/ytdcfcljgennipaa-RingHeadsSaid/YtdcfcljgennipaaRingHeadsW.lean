/-
  RingHeads, walked.
-/
import Derived.Test.YtdcfcljgennipaaRingHeadsA
import Derived.Test.YtdcfcljgennipaaArgs
namespace Go.Proofs.Ytdcfcljgennipaa
open Go.RowKit

/-- The flash with bytes behind the room of a head; with the head; with a byte of it spoilt. -/
def hdS1 (s : FS) (K : Nat) (b : List UInt8) : FS := { s with bs := put s.bs (K * 256 + 20) b }
def hdS2 (s : FS) (K : Nat) (b : List UInt8) (x : BitVec 32) : FS := (hdS1 s K b).withHead K x
def hdS3 (s : FS) (K : Nat) (b : List UInt8) (x : BitVec 32) (i : Nat) : FS := { hdS2 s K b x with bs := (hdS2 s K b x).bs.set (K * 256 + i) 0 }

section
variable {s : FS} (h : NewN 16 s) {K : Nat} (hK : K ≤ 13) {b : List UInt8} (hb : b.length ≤ 200) (hb4 : b.length % 4 = 0) (x : BitVec 32)
include h hK hb

theorem hd_len1 : (hdS1 s K b).bs.length = 4096 := by
  have := put_length s.bs (K * 256 + 20) b (by rw [h.len]; omega)
  rw [h.len] at this
  exact this
omit hK hb in
theorem hd_wear1 : (hdS1 s K b).wear.length = 16 := by show s.wear.length = 16; rw [h.wear]; rfl
theorem hd_room1 : room (hdS1 s K b).bs (K * 256) 20 :=
  room_ahead (room.of_blank (fun c hc => h.all c (List.mem_of_mem_drop hc)) (by rw [h.len]; omega)) (by rw [h.len]; omega) (Nat.le_refl _)
theorem hd_open1 : (hdS1 s K b).opened K x = (hdS2 s K b x, 0) :=
  opened_blank K x (by rw [hd_wear1 h]; omega) (by rw [hd_len1 h hK hb, hd_wear1 h]) h.down h.armed (hd_room1 h hK hb)
theorem hd_len2 : (hdS2 s K b x).bs.length = 4096 := by
  unfold hdS2
  rw [withHead_len _ _ _ (by rw [hd_len1 h hK hb]; omega), hd_len1 h hK hb]
theorem hd_stands : stands (hdS2 s K b x).bs (K * 256) (recB (headP x)) := by
  have hl := head_length x
  have h1 := hd_len1 h hK hb
  exact stands_put (hdS1 s K b).bs (K * 256) (recB (headP x)) (by omega)
theorem hd_open2 : (hdS2 s K b x).opened K x = (hdS2 s K b x, 0) :=
  opened_same K x (by show K < s.wear.length; rw [h.wear]; simp; omega) (by rw [hd_len2 h hK hb x]; show _ = 256 * s.wear.length; rw [h.wear]; rfl) h.down h.armed (hd_stands h hK hb x)
theorem hd_h0 : hdrAt (hdS2 s K b x).bs K = ⟨K, 1, x⟩ := by
  unfold hdrAt hdrOf hdS2
  rw [withHead_same _ _ _ (by rw [hd_len1 h hK hb]; omega)]
theorem hd_h1 : hdrAt (hdS2 s K b x).bs (K + 1) = ⟨(K : Int) + 1, 0, 0#32⟩ := by
  have e : sec (hdS2 s K b x).bs (K + 1) = sec s.bs (K + 1) := by
    unfold hdS2
    rw [withHead_other _ _ _ _ (by rw [hd_len1 h hK hb]; omega) (by omega)]
    refine sec_ext fun i hi => ?_
    show (put s.bs (K * 256 + 20) b)[(K + 1) * 256 + i]? = _
    rw [put_get _ _ _ (by rw [h.len]; omega), if_neg (by omega)]
  unfold hdrAt hdrOf
  rw [e, hdrL_blank (blank_sec h.all _)]
  rfl
theorem hd_part : (hdS2 s K b x).part ((K * 256 : Nat) : Int) 20 = recB (headP x) := by
  show ((hdS2 s K b x).bs.drop (K * 256)).take 20 = _
  apply List.ext_getElem?
  intro i
  have hl := head_length x
  rw [List.getElem?_take, List.getElem?_drop]
  by_cases hi : i < 20
  · rw [if_pos hi, List.getElem?_eq_getElem (show i < (recB (headP x)).length by omega)]
    exact hd_stands h hK hb x i _ (List.getElem?_eq_getElem (by omega))
  · rw [if_neg hi, List.getElem?_eq_none (by omega)]
include hb4 in
theorem hd_program1 : s.program ((K * 256 + 20 : Nat) : Int) b = (hdS1 s K b, 0) :=
  program_any (K * 256 + 20) b h.down h.armed (by omega) hb4 (by rw [h.len]; omega) (room.of_blank (fun c hc => h.all c (List.mem_of_mem_drop hc)) (by rw [h.len]; omega))
theorem hd_program2 (i : Nat) (hi : i < 20) : (hdS2 s K b x).program ((K * 256 + i / 4 * 4 : Nat) : Int) (spoilB (i % 4)) = (hdS3 s K b x i, 0) := by
  have := program_spoilt (s := hdS2 s K b x) (K * 256 + i / 4 * 4) (i % 4) (by omega) h.down h.armed (by omega) (by rw [hd_len2 h hK hb x]; omega)
  rw [this]
  unfold hdS3
  rw [show K * 256 + i / 4 * 4 + i % 4 = K * 256 + i by omega]
theorem hd_h3 (i : Nat) (d : UInt8) (hd : (recB (headP x))[i]? = some d) (h0 : d ≠ 0) : hdrAt (hdS3 s K b x i).bs K = ⟨K, 2, 0#32⟩ := by
  have hl := head_length x
  have hi : i < 20 := by have := (List.getElem?_eq_some_iff.1 hd).1; omega
  have e : sec (hdS3 s K b x i).bs K = (recB (headP x)).set i 0 ++ (sec (hdS1 s K b).bs K).drop 20 := by
    show sec ((hdS2 s K b x).bs.set (K * 256 + i) 0) K = _
    rw [sec_set _ _ _ (by omega)]
    unfold hdS2 FS.withHead
    rw [sec_put_same _ _ _ (by omega) (by rw [hd_len1 h hK hb]; omega), hl, List.set_append_left _ _ (by omega)]
  unfold hdrAt hdrOf
  rw [e, head_spoilt x i d hd h0]
theorem hd_len3 (i : Nat) : (hdS3 s K b x i).bs.length = 4096 := by
  show ((hdS2 s K b x).bs.set _ _).length = _
  rw [List.length_set, hd_len2 h hK hb x]
end

/-- Where a header of a list lies. -/
theorem HdrsAt.at {w : World} {g n cap : Nat} {hs : List Hdr} (h : HdrsAt w (.slice (some ⟨g, 0, none⟩) n cap) hs) (i : Nat) (x : Hdr) (hx : hs[i]? = some x) :
    w.cell? ⟨g, i * 3, none⟩ = some (.int .i64 x.sector) ∧ w.cell? ⟨g, i * 3 + 1, none⟩ = some (.int .u8 (x.kind.toNat : Int)) ∧ w.cell? ⟨g, i * 3 + 2, none⟩ = some (.int .u32 (x.num.toNat : Int)) := by
  obtain ⟨ao, cp, hv, _, hc⟩ := h
  simp at hv
  obtain ⟨rfl, rfl, rfl⟩ := hv
  obtain ⟨g', hg, _, h0⟩ := hc i x hx
  simp at hg
  subst hg
  exact h0

theorem look3 (bs : List UInt8) (K : Nat) : lookL bs K 3 = [hdrAt bs K, hdrAt bs (K + 1), hdrAt bs (K + 2)] := rfl

set_option maxRecDepth 100000 in
set_option maxHeartbeats 2000000 in
theorem RingHeads_long (w : World) (a0 : Int) (x : BitVec 32) (a : Option Addr) (n cap : Nat) (at' : Int) (hn : 200 < n) (h0 : 0 ≤ a0 ∧ a0 ≤ 255) :
    Calls Try.prog 8 #[.int .u8 a0, uv x, .slice a n cap, .int .u8 at'] w fun e w' => e = .returned (.bool true) ∧ Keeps [] w w' := by
  obtain ⟨A, rfl⟩ := Int.eq_ofNat_of_zero_le h0.1
  have hA : A < 256 := by omega
  obtain ⟨K, hK⟩ : ∃ K, K = A % 14 := ⟨_, rfl⟩
  have e1 : (A : Int) % 14 = (K : Int) := by omega
  have e2 : (A : Int).tmod 14 = (K : Int) := by rw [Int.tmod_eq_emod_of_nonneg (by omega)]; exact e1
  have hK2 : K ≤ 13 := by omega
  unfold uv
  generalize (x.toNat : Int) = y at *
  clear hK h0
  go_enter Try.func8, Try.ntmps8
  go_wp2_with fail
  refine (New_ok w 16 (by decide) (by decide)).mono ?_
  rintro e w1 ⟨F, B, W, M, rfl, hF0, hB0, hW0, hF, k1⟩
  have K1 := Lib.hid k1
  clear hF k1
  go_wp2_with (go_at_call 29; refine (awake5_any _).mono ?_; rintro e w2 ⟨rfl, k2⟩; have K2 := Lib.hid k2; clear k2)
  go_ret
  exact ⟨rfl, K1.out.trans K2.out⟩

set_option maxRecDepth 100000 in
set_option maxHeartbeats 2000000 in
theorem RingHeads_short (w : World) (a0 : Int) (x : BitVec 32) (v : Value) (l : List UInt8) (Ml : Nat) (at' : Int) (hr : Reads w v l Ml) (hM : l ≠ [] → Ml < w.heap.size) (hl : l.length ≤ 200) (h0 : 0 ≤ a0 ∧ a0 ≤ 255) (h1 : 0 ≤ at' ∧ at' ≤ 255) :
    Calls Try.prog 8 #[.int .u8 a0, uv x, v, .int .u8 at'] w fun e w' => e = .returned (.bool true) ∧ Keeps [] w w' := by
  have hfld := fld_hkind
  have hgd := hdr_guard
  have hsm := hdr_equal
  obtain ⟨A, rfl⟩ := Int.eq_ofNat_of_zero_le h0.1
  obtain ⟨T, rfl⟩ := Int.eq_ofNat_of_zero_le h1.1
  have hA : A < 256 := by omega
  have hT : T < 256 := by omega
  obtain ⟨K, hK⟩ : ∃ K, K = A % 14 := ⟨_, rfl⟩
  have e1 : (A : Int) % 14 = (K : Int) := by omega
  have e2 : (A : Int).tmod 14 = (K : Int) := by rw [Int.tmod_eq_emod_of_nonneg (by omega)]; exact e1
  have hK2 : K ≤ 13 := by omega
  obtain ⟨i, hi⟩ : ∃ i, i = T % 20 := ⟨_, rfl⟩
  obtain ⟨j, hj⟩ : ∃ j, j = i % 4 := ⟨_, rfl⟩
  have hj1 : (i : Int) % 4 = (j : Int) := by omega
  have hj2 : (i : Int).tmod 4 = (j : Int) := by rw [Int.tmod_eq_emod_of_nonneg (by omega)]; exact hj1
  have hj4 : j < 4 := by omega
  obtain ⟨q, hq⟩ : ∃ q, q = i / 4 := ⟨_, rfl⟩
  have hq1 : (i : Int) / 4 = (q : Int) := by omega
  have hq2 : (i : Int).tdiv 4 = (q : Int) := by rw [Int.tdiv_eq_ediv_of_nonneg (by omega)]; exact hq1
  obtain ⟨r, hrq⟩ : ∃ r, r = i / 4 * 4 := ⟨_, rfl⟩
  have hq3 : (q : Int) * 4 = (r : Int) := by omega
  have hr20 : r < 20 := by omega
  have HJ := Lib.hid hj
  have HRQ := Lib.hid hrq
  clear hj hq hrq
  have f1 : (T : Int) % 20 = (i : Int) := by omega
  have f2 : (T : Int).tmod 20 = (i : Int) := by rw [Int.tmod_eq_emod_of_nonneg (by omega)]; exact f1
  have hi2 : i < 20 := by omega
  obtain ⟨n, hn⟩ : ∃ n, n = l.length := ⟨_, rfl⟩
  obtain ⟨n4, hn4⟩ : ∃ n4, n4 = n / 4 * 4 := ⟨_, rfl⟩
  obtain ⟨q4, hq4⟩ : ∃ q4, q4 = n / 4 := ⟨_, rfl⟩
  have g1 : (n : Int) / 4 = (q4 : Int) := by omega
  have g2 : (n : Int).tdiv 4 = (q4 : Int) := by rw [Int.tdiv_eq_ediv_of_nonneg (by omega)]; exact g1
  have g3 : (q4 : Int) * 4 = (n4 : Int) := by omega
  have hn4b : (n4 : Int) ≤ 200 := by omega
  obtain ⟨a, cap, rfl, hcap⟩ := hr.shape
  obtain ⟨p4, c4, hcut, r4⟩ := hr.head n4 (by omega)
  have hl4 : (l.take n4).length = n4 := by rw [List.length_take]; omega
  rw [hl4] at hcut r4
  have HR4 := Lib.hid r4
  obtain ⟨b, hb⟩ : ∃ b, b = l.take n4 := ⟨_, rfl⟩
  rw [← hb] at HR4 hl4
  have hMb : b ≠ [] → Ml < w.heap.size := fun hne => hM (fun e => hne (by rw [hb, e]; simp))
  have hbl : b.length ≤ 200 := by omega
  have hb4 : b.length % 4 = 0 := by omega
  rw [← hn] at hcut hcap hl ⊢
  have hcut2 : ∀ w, (Instr.slice 22 (.slice a n cap) none (some (.int .i64 n4)) none).run Try.prog w = .ok (.slice p4 n4 c4) w := fun w => by
    have := hcut w
    rwa [run_sliceAt_slice _ _ _ _ _ _ underBytes] at this
  have HB := Lib.hid hbl
  have HB4 := Lib.hid hb4
  have HBL := Lib.hid hl4
  clear hK h0 h1 hi hn hr r4 hb hbl hb4 hl4 hn4 hq4
  have HOP := Lib.hid (show ∀ (U : World) (F B W M : Nat) (s : FS), FlashAt U F B W M s → Calls Try.prog 38 #[.pointer (some ⟨F, 0, none⟩), .int .i64 K, uv x] U fun e w' => e = .returned (.int .i64 (s.opened K x).2) ∧ FlashAt w' F B W M (s.opened K x).1 ∧ Keeps [F, B] U w' from fun U F B W M s h => Open_any U h K (by omega) x)
  have HY := Lib.hid (show uv x = .int .u32 (x.toNat : Int) from rfl)
  unfold uv at HOP ⊢
  go_enter Try.func8, Try.ntmps8
  go_wp2_with fail
  refine (New_ok w 16 (by decide) (by decide)).mono ?_
  rintro e w1 ⟨F, B, W, M, rfl, hF0, hB0, hW0, hF, k1⟩
  have hs0 := newN 16
  generalize FS.new 16 = s at *
  have HF := Lib.hid hF
  have K1 := Lib.hid k1
  have hlt := hF.lt
  have HE := Lib.hid hs0
  clear hF k1 hs0
  go_wp2_with (go_at_call 44; refine (Head_any _).mono ?_; rintro e w2 ⟨rfl, k2⟩; have K2 := Lib.hid k2; clear k2)
  have HF2 := Lib.hid (HF.out.keeps K2.out (by simp) (by simp) (by simp) (by simp))
  obtain ⟨M', r', hM'⟩ := (HR4.out.keeps (K1.out.trans K2.out) (by simp)).away (base := w.heap.size) hMb [F, B] (by simp; omega)
  simp at hM'
  have hP := Program_yes w2 HF2.out ((K * 256 + 20 : Nat) : Int) _ b M' r' ⟨hM'.1, hM'.2⟩ (by have := HB.out; omega)
  rw [hd_program1 HE.out hK2 HB.out HB4.out, show ((K * 256 + 20 : Nat) : Int) = (K : Int) * 256 + 20 by omega] at hP
  have HP := Lib.hid hP
  have s2 := K2.out.size
  clear r' hM' hP HR4 hMb HF
  go_wp2_with fail
  refine HP.out.mono ?_
  rintro e w3 ⟨rfl, hF3, k3⟩
  have HF3 := Lib.hid hF3
  have K3 := Lib.hid ((K1.out.trans K2.out).then k3 (fun x hx => .inr (by simp at hx; omega)))
  have s3 := k3.size
  clear hF3 k3 HP HF2
  have hO := HOP.out w3 F B W M _ HF3.out
  rw [hd_open1 HE.out hK2 HB.out x] at hO
  have HO := Lib.hid hO
  clear hO
  go_wp2_with fail
  refine HO.out.mono ?_
  rintro e w4 ⟨rfl, hF4, k4⟩
  have HF4 := Lib.hid hF4
  have K4 := Lib.hid (K3.out.then k4 (fun x hx => .inr (by simp at hx; omega)))
  have s4 := k4.size
  clear hF4 k4 HO HF3
  have hO := HOP.out w4 F B W M _ HF4.out
  rw [hd_open2 HE.out hK2 HB.out x] at hO
  have HO := Lib.hid hO
  clear hO
  go_wp2_with fail
  refine HO.out.mono ?_
  rintro e w5 ⟨rfl, hF5, k5⟩
  have HF5 := Lib.hid hF5
  have K5 := Lib.hid (K4.out.then k5 (fun x hx => .inr (by simp at hx; omega)))
  have s5 := k5.size
  clear hF5 k5 HO HF4
  -- it is live
  have hL := Look_ok w5 HF5.out HE.out.down K 3 (by decide) (by show _ ≤ s.wear.length; rw [HE.out.wear]; simp; omega)
  rw [look3, hd_h0 HE.out hK2 HB.out x, hd_h1 HE.out hK2 HB.out x] at hL
  have HL := Lib.hid hL
  clear hL
  go_wp2_with fail
  refine HL.out.mono ?_
  rintro e w6 ⟨g, cp, rfl, hg, hh, k6⟩
  obtain ⟨a0, a1, a2⟩ := hh.at 0 _ rfl
  obtain ⟨_, b1, _⟩ := hh.at 1 _ rfl
  have a0 : w6.cell? ⟨g, 0, none⟩ = some (.int .i64 (K : Int)) := a0
  have a1 : w6.cell? ⟨g, 1, none⟩ = some (.int .u8 1) := a1
  have a2 : w6.cell? ⟨g, 2, none⟩ = some (.int .u32 (x.toNat : Int)) := a2
  have b1 : w6.cell? ⟨g, 4, none⟩ = some (.int .u8 0) := b1
  have HF6 := Lib.hid (HF5.out.keeps k6 (by simp) (by simp) (by simp) (by simp))
  have K6 := Lib.hid (K5.out.trans k6)
  have s6 := k6.size
  clear hh k6 HL HF5
  go_wp2_with (go_at_call 44; refine (Head_any _).mono ?_; rintro e w7 ⟨rfl, k7⟩; have K7 := Lib.hid k7; clear k7)
  have HF7 := Lib.hid (HF6.out.keeps K7.out (by simp) (by simp) (by simp) (by simp))
  have s7 := K7.out.size
  have hR := Read_ok w7 HF7.out ((K * 256 : Nat) : Int) 20 HE.out.down (by unfold FS.has; rw [hd_len2 HE.out hK2 HB.out x]; omega)
  rw [hd_part HE.out hK2 HB.out x, show ((K * 256 : Nat) : Int) = (K : Int) * 256 by omega] at hR
  have HR := Lib.hid hR
  clear hR HF6 a0 a1 a2 b1
  go_wp2_with fail
  refine HR.out.mono ?_
  rintro e w8 ⟨bh, ch, rfl, hbh, hrow, k8⟩
  obtain ⟨d, hd⟩ : ∃ d, (recB (headP x))[i]? = some d := ⟨_, List.getElem?_eq_getElem (by rw [head_length]; exact hi2)⟩
  have cd : w8.cell? ⟨bh, i, none⟩ = some (.int .u8 (d.toNat : Int)) := hrow.cell i (by rw [List.getElem?_map, hd]; rfl)
  have HF8 := Lib.hid (HF7.out.keeps k8 (by simp) (by simp) (by simp) (by simp))
  have K8 := Lib.hid ((K6.out.trans K7.out).trans k8)
  have s8 := k8.size
  have hi3 : (i : Int) < 20 := by omega
  have HD := Lib.hid hd
  clear hrow k8 HR HF7 hd
  simp only [show (20 : Int).toNat = 20 from rfl]
  by_cases hd0 : d = 0
  · subst hd0
    have cd : w8.cell? ⟨bh, i, none⟩ = some (.int .u8 0) := cd
    go_wp2_with (go_at_call 29; refine (awake5_any _).mono ?_; rintro e w9 ⟨rfl, k9⟩; have K9 := Lib.hid k9; clear k9)
    go_ret
    exact ⟨rfl, K8.out.trans K9.out⟩
  · have hdz : (((d.toNat : Int) == 0) : Bool) = false := by
      simp
      intro e
      exact hd0 (UInt8.toNat_inj.1 (by rw [e]; rfl))
    have HD0 := Lib.hid hd0
    have hAll := lowAll_any w8 255 4 (by decide) (by decide)
    rw [show ((255 : UInt8).toNat : Int) = 255 from rfl, show ((4 : Nat) : Int) = 4 from rfl] at hAll
    have HAll := Lib.hid hAll
    clear hd0 hAll
    generalize (d.toNat : Int) = dz at *
    go_wp2_with fail
    refine HAll.out.mono ?_
    rintro e w9 ⟨bb, kk, rfl, hbb, hrow, k9⟩
    have cj : w9.cell? ⟨bb, j, none⟩ = some (.int .u8 255) := hrow.cell j (by rw [List.getElem?_map, List.getElem?_replicate, if_pos hj4]; rfl)
    have fj := hrow.frozen j
    have hset := hrow.set j (bv 0)
    rw [← List.map_set] at hset
    have HSET := Lib.hid (show Row (w9.setCell ⟨bb, j, none⟩ (.int .u8 0)) bb 5 ((spoilB j).map bv) kk from hset)
    have k9' : Keeps [] w8 (w9.setCell ⟨bb, j, none⟩ (.int .u8 0)) := k9.then (Keeps.setCell (S := [bb]) _ (by simp) _) (fun x hx => .inr (by simp at hx; omega))
    have HK9 := Lib.hid k9'
    have hji : (j : Int) < 4 := by omega
    clear hrow hset k9 k9' HAll
    go_upto_region 19 with (fail)
    generalize hU : World.setCell _ _ _ = U
    have hrU : Row U bb 5 ((spoilB j).map bv) kk := by rw [← hU]; exact HSET.out
    have kU : Keeps [] w8 U := by rw [← hU]; exact HK9.out
    have hrd := hrU.reads
    have hsl : (spoilB j).length = 4 := by simp [spoilB]
    rw [hsl] at hrd
    have HFU := Lib.hid (HF8.out.keeps kU (by simp) (by simp) (by simp) (by simp))
    have KU := Lib.hid (K8.out.trans kU)
    have sU := kU.size
    have hP := Program_yes U HFU.out ((K * 256 + i / 4 * 4 : Nat) : Int) _ (spoilB (i % 4)) bb (by rw [← HJ.out]; exact hrd) ⟨by omega, by omega⟩ (by rw [← HJ.out, hsl]; decide)
    rw [hd_program2 HE.out hK2 HB.out x i hi2, ← HRQ.out, show ((K * 256 + r : Nat) : Int) = (K : Int) * 256 + r by omega] at hP
    have HP := Lib.hid hP
    clear hU hrU kU hrd hP HSET HK9 cj fj cd
    go_wp2_with fail
    refine HP.out.mono ?_
    rintro e w11 ⟨rfl, hF11, k11⟩
    have HF11 := Lib.hid hF11
    have K11 := Lib.hid (KU.out.then k11 (fun x hx => .inr (by simp at hx; omega)))
    clear hF11 k11 HP HFU
    have hL := Look_ok w11 HF11.out HE.out.down K 3 (by decide) (by show _ ≤ s.wear.length; rw [HE.out.wear]; simp; omega)
    rw [look3, hd_h3 HE.out hK2 HB.out x i d HD.out HD0.out] at hL
    have HL := Lib.hid hL
    clear hL
    go_wp2_with fail
    refine HL.out.mono ?_
    rintro e w12 ⟨g2, cp2, rfl, hg2, hh, k12⟩
    obtain ⟨a0, a1, a2⟩ := hh.at 0 _ rfl
    have a0 : w12.cell? ⟨g2, 0, none⟩ = some (.int .i64 (K : Int)) := a0
    have a1 : w12.cell? ⟨g2, 1, none⟩ = some (.int .u8 2) := a1
    have a2 : w12.cell? ⟨g2, 2, none⟩ = some (.int .u32 0) := a2
    have K12 := Lib.hid (K11.out.trans k12)
    clear hh k12 HL HF11
    go_wp2_with (go_at_call 29; refine (awake5_any _).mono ?_; rintro e w13 ⟨rfl, k13⟩; have K13 := Lib.hid k13; clear k13)
    go_ret
    exact ⟨rfl, K12.out.trans K13.out⟩

theorem RingHeads_all (w : World) (a0 y at' : Int) (v : Value) (l : List UInt8) (Ml : Nat) (hr : Reads w v l Ml) (hM : l ≠ [] → Ml < w.heap.size) (h0 : (Lit.int .u8 a0).wf = true) (hy : (Lit.int .u32 y).wf = true) (h1 : (Lit.int .u8 at').wf = true) :
    Calls Try.prog 8 #[.int .u8 a0, .int .u32 y, v, .int .u8 at'] w fun e w' => e = .returned (.bool true) ∧ Keeps [] w w' := by
  obtain ⟨x, rfl⟩ := u32_of_wf hy
  by_cases hl : l.length ≤ 200
  · exact RingHeads_short w a0 x v l Ml at' hr hM hl (bounds_u8 h0) (bounds_u8 h1)
  · obtain ⟨a, cap, rfl, _⟩ := hr.shape
    exact RingHeads_long w a0 x a _ cap at' (by omega) (bounds_u8 h0)
end Go.Proofs.Ytdcfcljgennipaa
