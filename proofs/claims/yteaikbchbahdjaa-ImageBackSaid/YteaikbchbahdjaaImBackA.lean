/-
  ImageBack, walked.
-/
import Derived.Test.YteaikbchbahdjaaImRows
namespace Go.Proofs.Yteaikbchbahdjaa
open Go.RowKit Go.Deep
set_option linter.unusedVariables false

set_option maxRecDepth 100000 in
set_option maxHeartbeats 2000000 in
theorem ImageBack_long (w : World) (a b : Option Addr) (n m c d : Nat) (h : 15 < n ∨ 15 < m) : Calls Try.prog 4 #[.slice a n c, .slice b m d] w fun e w' => e = .returned (.bool true) ∧ Keeps [] w w' := by
  by_cases hn : 15 < n
  · have hn' : (15 : Int) < (n : Int) := by omega
    clear h
    go_enter Try.func4, Try.ntmps4
    go_wp2_with (go_at_call 8; refine (awake10_any _).mono ?_; rintro e w' ⟨rfl, hk⟩)
    go_ret
    exact ⟨rfl, hk⟩
  · have hn' : ¬ (15 : Int) < (n : Int) := by omega
    have hm' : (15 : Int) < (m : Int) := by omega
    clear h
    go_enter Try.func4, Try.ntmps4
    go_wp2_with (go_at_call 8; refine (awake10_any _).mono ?_; rintro e w' ⟨rfl, hk⟩)
    go_ret
    exact ⟨rfl, hk⟩

theorem enc_eq_all {l m : List Wd} (hl : rightL l = true) (hm : rightL m = true) : (encL l == encL m) = allB l m := by
  rw [Bool.eq_iff_iff, beq_iff_eq, all_iff]
  exact ⟨fun h => enc_inj hl hm h, fun h => by rw [h]⟩

theorem bytes_append (x y : List UInt8) : ByteArray.mk x.toArray ++ ByteArray.mk y.toArray = ByteArray.mk (x ++ y).toArray := by
  apply ByteArray.ext
  simp

theorem rightL_append {l m : List Wd} (hl : rightL l = true) (hm : rightL m = true) : rightL (l ++ m) = true := by
  unfold rightL at *
  rw [List.all_append, hl, hm]; rfl

set_option maxRecDepth 100000 in
set_option maxHeartbeats 4000000 in
theorem ImageBack_wrong (w : World) (P : Nat → Prop) (a b : Option Addr) (n m c d : Nat) (l k : List Wd) (hl : WordsIn w P (.slice a n c) l) (hk : WordsIn w P (.slice b m d) k) (hn : n = l.length) (hm : m = k.length) (h15 : n ≤ 15) (h16 : m ≤ 15)
    (hr : rightL l = false ∨ rightL k = false) : Calls Try.prog 4 #[.slice a n c, .slice b m d] w fun e w' => e = .returned (.bool true) ∧ Keeps [] w w' := by
  have HL := Lib.hid hl
  have HK := Lib.hid hk
  have HR1 := Lib.hid fun (W : World) (hw : Keeps [] w W) => right10_any W P _ l (hl.next hw) _ rfl
  have HR2 := Lib.hid fun (W : World) (hw : Keeps [] w W) => right10_any W P _ k (hk.next hw) _ rfl
  have hn' : ¬ (15 : Int) < (n : Int) := by omega
  have hm' : ¬ (15 : Int) < (m : Int) := by omega
  clear hl hk
  by_cases hc : rightL l = false ∧ rightL k = false
  · obtain ⟨h1, h2⟩ := hc
    have HX1 := Lib.hid fun (W : World) (hw : Keeps [] w W) => Encode_wrong W P _ l (HL.out.next hw) (fits_few (by omega)) h1
    have HX2 := Lib.hid fun (W : World) (hw : Keeps [] w W) => Encode_wrong W P _ k (HK.out.next hw) (fits_few (by omega)) h2
    rw [h1] at HR1
    rw [h2] at HR2
    clear hr h1 h2 HL HK hn hm h15 h16
    go_enter Try.func4, Try.ntmps4
    go_wp2_with (first
      | (go_at_call_of 15 (#[Value.slice a n c]); refine (HX1.out _ (Keeps.refl _ _)).mono ?_; rintro e w1 ⟨rfl, hk1⟩; have K1 := Lib.hid hk1; clear hk1)
      | (go_at_call_of 15 (#[Value.slice b m d]); refine (HX2.out _ K1.out).mono ?_; rintro e w2 ⟨rfl, hk2⟩; have K2 := Lib.hid (K1.out.trans hk2); clear hk2)
      | (go_at_call_of 22 (#[Value.slice a n c]); refine (HR1.out _ K2.out).mono ?_; rintro e w3 ⟨rfl, hk3⟩; have K3 := Lib.hid (K2.out.trans hk3); clear hk3)
      | (go_at_call_of 22 (#[Value.slice b m d]); refine (HR2.out _ K3.out).mono ?_; rintro e w4 ⟨rfl, hk4⟩; have K4 := Lib.hid (K3.out.trans hk4); clear hk4)
      | (go_at_call 8; refine (awake10_any _).mono ?_; rintro e w5 ⟨rfl, hk5⟩; have K5 := Lib.hid (K4.out.trans hk5); clear hk5))
    go_ret
    exact ⟨rfl, K5.out⟩
  have hc0 := hc
  clear hc
  by_cases hc : rightL l = false ∧ rightL k = true
  · obtain ⟨h1, h2⟩ := hc
    have HX1 := Lib.hid fun (W : World) (hw : Keeps [] w W) => Encode_wrong W P _ l (HL.out.next hw) (fits_few (by omega)) h1
    have HX2 := Lib.hid fun (W : World) (hw : Keeps [] w W) => Encode_right W P _ k (HK.out.next hw) (fits_few (by omega)) h2
    rw [h1] at HR1
    rw [h2] at HR2
    clear hr h1 h2 HL HK hn hm h15 h16
    go_enter Try.func4, Try.ntmps4
    go_wp2_with (first
      | (go_at_call_of 15 (#[Value.slice a n c]); refine (HX1.out _ (Keeps.refl _ _)).mono ?_; rintro e w1 ⟨rfl, hk1⟩; have K1 := Lib.hid hk1; clear hk1)
      | (go_at_call_of 15 (#[Value.slice b m d]); refine (HX2.out _ K1.out).mono ?_; rintro e w2 ⟨v2, rfl, _, hk2⟩; have K2 := Lib.hid (K1.out.trans hk2); clear hk2)
      | (go_at_call_of 22 (#[Value.slice a n c]); refine (HR1.out _ K2.out).mono ?_; rintro e w3 ⟨rfl, hk3⟩; have K3 := Lib.hid (K2.out.trans hk3); clear hk3)
      | (go_at_call_of 22 (#[Value.slice b m d]); refine (HR2.out _ K3.out).mono ?_; rintro e w4 ⟨rfl, hk4⟩; have K4 := Lib.hid (K3.out.trans hk4); clear hk4)
      | (go_at_call 8; refine (awake10_any _).mono ?_; rintro e w5 ⟨rfl, hk5⟩; have K5 := Lib.hid (K4.out.trans hk5); clear hk5))
    go_ret
    exact ⟨rfl, K5.out⟩
  have hc1 := hc
  clear hc
  by_cases hc : rightL l = true ∧ rightL k = false
  · obtain ⟨h1, h2⟩ := hc
    have HX1 := Lib.hid fun (W : World) (hw : Keeps [] w W) => Encode_right W P _ l (HL.out.next hw) (fits_few (by omega)) h1
    have HX2 := Lib.hid fun (W : World) (hw : Keeps [] w W) => Encode_wrong W P _ k (HK.out.next hw) (fits_few (by omega)) h2
    rw [h1] at HR1
    rw [h2] at HR2
    clear hr h1 h2 HL HK hn hm h15 h16
    go_enter Try.func4, Try.ntmps4
    go_wp2_with (first
      | (go_at_call_of 15 (#[Value.slice a n c]); refine (HX1.out _ (Keeps.refl _ _)).mono ?_; rintro e w1 ⟨v1, rfl, _, hk1⟩; have K1 := Lib.hid hk1; clear hk1)
      | (go_at_call_of 15 (#[Value.slice b m d]); refine (HX2.out _ K1.out).mono ?_; rintro e w2 ⟨rfl, hk2⟩; have K2 := Lib.hid (K1.out.trans hk2); clear hk2)
      | (go_at_call_of 22 (#[Value.slice a n c]); refine (HR1.out _ K2.out).mono ?_; rintro e w3 ⟨rfl, hk3⟩; have K3 := Lib.hid (K2.out.trans hk3); clear hk3)
      | (go_at_call_of 22 (#[Value.slice b m d]); refine (HR2.out _ K3.out).mono ?_; rintro e w4 ⟨rfl, hk4⟩; have K4 := Lib.hid (K3.out.trans hk4); clear hk4)
      | (go_at_call 8; refine (awake10_any _).mono ?_; rintro e w5 ⟨rfl, hk5⟩; have K5 := Lib.hid (K4.out.trans hk5); clear hk5))
    go_ret
    exact ⟨rfl, K5.out⟩
  have hc2 := hc
  clear hc
  exfalso
  rcases hr with h | h
  · cases h2 : rightL k with
    | true => exact hc1 ⟨h, h2⟩
    | false => exact hc0 ⟨h, h2⟩
  · cases h2 : rightL l with
    | true => exact hc2 ⟨h2, h⟩
    | false => exact hc0 ⟨h2, h⟩

set_option maxRecDepth 100000 in
set_option maxHeartbeats 4000000 in
theorem ImageBack_right (w : World) (a b : Option Addr) (n m c d : Nat) (l k : List Wd) (hl : WordsIn w (fun q => q < w.heap.size) (.slice a n c) l) (hk : WordsIn w (fun q => q < w.heap.size) (.slice b m d) k) (hn : n = l.length) (hm : m = k.length) (h15 : n ≤ 15) (h16 : m ≤ 15)
    (hr1 : rightL l = true) (hr2 : rightL k = true) (hz1 : a = none → c = 0) (hz2 : b = none → d = 0) : Calls Try.prog 4 #[.slice a n c, .slice b m d] w fun e w' => e = .returned (.bool true) ∧ Keeps [] w w' := by
  obtain ⟨L, a', c', B, o, hL1, hL2, hv1, hL3, hL4, hL5⟩ := hl.pairs
  obtain ⟨K, b', d', B2, o2, hK1, hK2, hv2, hK3, hK4, hK5⟩ := hk.pairs
  injection hv1 with e1 e2 e3
  clear e2
  subst e1 e3
  injection hv2 with e1 e2 e3
  clear e2
  subst e1 e3
  rw [← hn] at hL2
  rw [← hm] at hK2
  have HE1 := Lib.hid (Encode_right w _ _ l hl (fits_few (by omega)) hr1)
  have HE2 := Lib.hid fun (W : World) (hw : Keeps [] w W) => Encode_right W _ _ k (hk.next hw) (fits_few (by omega)) hr2
  have HR1 := Lib.hid fun (W : World) (hw : Keeps [] w W) => right10_any W _ _ l (hl.next hw) true hr1
  have HR2 := Lib.hid fun (W : World) (hw : Keeps [] w W) => right10_any W _ _ k (hk.next hw) true hr2
  have HDE := Lib.hid fun (W : World) (v : Value) (M : Nat) (h : Reads W v (encL l) M) => Decode_ok W v (encL l) M h (by have := sizeL_le hr1; unfold sizeL at this; omega) l (dec_right l hr1)
  have HBO := Lib.hid fun (W : World) (v : Value) (h : WordsIn W (fun _ => True) v (l ++ k)) => Encode_right W _ v (l ++ k) h (fits_few (by rw [List.length_append]; omega)) (rightL_append hr1 hr2)
  have HAL := Lib.hid fun (W : World) (hw : Keeps [] w W) => All_any W _ _ _ _ l k (hl.next hw) (hk.next hw) _ rfl
  have HWL := Lib.hid hl
  have HLL := Lib.hid (show L.map (·.1) = l from hL1)
  have HKL := Lib.hid (show K.map (·.1) = k from hK1)
  have HLB := Lib.hid hL3
  have HKB := Lib.hid hK3
  have HLS := Lib.hid hL4
  have HKS := Lib.hid hK4
  have HLC := Lib.hid hL5
  have HKC := Lib.hid hK5
  have HLN := Lib.hid hL2
  have HKN := Lib.hid hK2
  have HN := Lib.hid hn
  have HM := Lib.hid hm
  have HZ1 := Lib.hid hz1
  have HZ2 := Lib.hid hz2
  have HEQ := Lib.hid (enc_eq_all hr1 hr2)
  have HEA := Lib.hid (encL_append l k)
  have HRT := Lib.hid hr1
  have HRT2 := Lib.hid hr2
  have hn' : ¬ (15 : Int) < (n : Int) := by omega
  have hm' : ¬ (15 : Int) < (m : Int) := by omega
  have HB1 := Lib.hid (show n ≠ 0 → a = some ⟨B, o, none⟩ from fun hne => (hL3 (fun e => hne (by rw [hn, e]; rfl))).1)
  have HB2 := Lib.hid (show m ≠ 0 → b = some ⟨B2, o2, none⟩ from fun hne => (hK3 (fun e => hne (by rw [hm, e]; rfl))).1)
  have HO1 := Lib.hid (show ∀ p ∈ L, ∃ a n c, p.2 = .slice a n c from fun p hp => by obtain ⟨a, cp, M, off, hv, _⟩ := hL4 p hp; exact ⟨_, _, _, hv⟩)
  have HO2 := Lib.hid (show ∀ p ∈ K, ∃ a n c, p.2 = .slice a n c from fun p hp => by obtain ⟨a, cp, M, off, hv, _⟩ := hK4 p hp; exact ⟨_, _, _, hv⟩)
  have HC1 := Lib.hid (show ∀ W, Keeps [] w W → ∀ j u, (L.flatMap wcells)[j]? = some u → W.cell? ⟨B, o + j, none⟩ = some u from fun W hk j u hu => hk.cell (hL5 j u hu) (by simp))
  have HC2 := Lib.hid (show ∀ W, Keeps [] w W → ∀ j u, (K.flatMap wcells)[j]? = some u → W.cell? ⟨B2, o2 + j, none⟩ = some u from fun W hk j u hu => hk.cell (hK5 j u hu) (by simp))
  have HFIN := Lib.hid (show ∀ (base : Nat) (W : World) (v : Value), Keeps [] w W → W.ownsRow base 27 3 v (n + m) (L.flatMap wcells ++ K.flatMap wcells) → WordsIn W (fun _ => True) v (l ++ k) from fun base W v hb ho => by
    rw [← hL1, ← hK1, ← List.map_append]
    refine row_words (P := fun q => q < w.heap.size) (base := base) ?_ (by rw [List.length_append, hL2, hK2]; unfold maxLen; omega) (fun p hp => ?_)
    · rw [List.length_append, List.flatMap_append, hL2, hK2]; exact ho
    · rcases List.mem_append.1 hp with hp | hp
      · exact (hL4 p hp).keeps hb (fun _ _ => List.not_mem_nil)
      · exact (hK4 p hp).keeps hb (fun _ _ => List.not_mem_nil))
  have hnm : n + m ≤ 2000000 := by omega
  have hn0 : 0 + n ≤ 2000000 := by omega
  clear hl hk hL1 hL2 hL3 hL4 hL5 hK1 hK2 hK3 hK4 hK5 hn hm hz1 hz2 hr1 hr2
  go_enter Try.func4, Try.ntmps4
  go_upto_region 5 with (first
    | (go_at_call_of 15 (#[Value.slice a n c]); refine HE1.out.mono ?_; rintro e w1 ⟨v1, rfl, ho1, hk1⟩; have K1 := Lib.hid hk1; have HP1 := Lib.hid ho1; clear hk1 ho1)
    | (go_at_call_of 15 (#[Value.slice b m d]); refine (HE2.out _ K1.out).mono ?_; rintro e w2 ⟨v2, rfl, ho2, hk2⟩; have K2 := Lib.hid (K1.out.trans hk2); have HP2 := Lib.hid ho2; have HP1' := Lib.hid (World.ownsRow.keeps HP1.out hk2 (fun _ _ => List.not_mem_nil)); clear hk2 ho2))
  go_upto_region 9 with (first
    | (go_at_call_of 22 (#[Value.slice a n c]); refine (HR1.out _ K2.out).mono ?_; rintro e w3 ⟨rfl, hk3⟩; have K3 := Lib.hid hk3; clear hk3)
    | (go_at_call_of 22 (#[Value.slice b m d]); refine (HR2.out _ (K2.out.trans K3.out)).mono ?_; rintro e w4 ⟨rfl, hk4⟩; have K4 := Lib.hid (K3.out.trans hk4); clear hk4))
  obtain ⟨M1, hr1, _⟩ := owns_reads2 HP1'.out
  obtain ⟨M2, hr2, _⟩ := owns_reads2 HP2.out
  obtain ⟨a1, c1, hv1, _⟩ := hr1.shape
  obtain ⟨a2, c2, hv2, _⟩ := hr2.shape
  have HRA := Lib.hid (hr1.keeps K4.out (by simp))
  have HRB := Lib.hid (hr2.keeps K4.out (by simp))
  have KW4 := Lib.hid (K2.out.trans K4.out)
  subst hv1 hv2
  clear hr1 hr2 HP1 HP1' HP2 K1 K3 K2 K4 HE1 HE2 HR1 HR2
  go_upto_region 10 with (go_at_call 17; refine (HDE.out _ _ _ HRA.out).mono ?_; rintro e w5 ⟨L5, v5, hL5, rfl, hw5, hl5, hk5⟩; have HL5 := Lib.hid hL5; have HW5 := Lib.hid hw5; have K5 := Lib.hid hk5; clear hL5 hw5 hl5 hk5)
  have HX := Lib.hid (HW5.out.words (by have := congrArg List.length HL5.out; rw [List.length_map, ← HN.out] at this; unfold maxLen; omega))
  rw [HL5.out] at HX
  have KW5 := Lib.hid (KW4.out.trans K5.out)
  have hw5s := KW5.out.size
  clear HW5 HL5
  have HSE := Lib.hid (show w5.heap.size ≤ (w5.alloc (.cells #[] 27)).heap.size by simp)
  have HE5 := Lib.hid (show (w5.alloc (.cells #[] 27)).ownsRow w5.heap.size 27 3 (.slice (some ⟨w5.heap.size, 0, none⟩) 0 0) 0 [] from World.ownsRow_made w5 #[] 0 (Nat.le_refl _) (by decide) (by simp))
  go_upto_region 11 with (first
    | (go_at_call 15; refine (HBO.out _ _ HWB.out).mono ?_; rintro e w8 ⟨v8, rfl, ho8, hk8⟩; have HP8 := Lib.hid ho8; have K8 := Lib.hid ((show Keeps [] w5 w7 from Keeps.ofBelow B7.out).trans hk8); clear ho8 hk8)
    | (at_builtin; refine wpList_append_in rfl _ _ rfl w5.heap.size v6 n (L.flatMap wcells) rfl HO6.out b m d B2 o2 K rfl HKN.out HB2.out HZ2.out (HC2.out _ (KW5.out.trans (Keeps.ofBelow B6.out))) HO2.out hnm HS6.out ?_; intro v7 w7 ho7 hk7; have B7 := Lib.hid (below_owned B6.out HO6.out hk7 (Nat.le_refl _)); have HWB := Lib.hid (HFIN.out w5.heap.size w7 v7 (KW5.out.trans (Keeps.ofBelow B7.out)) ho7); clear ho7 hk7)
    | (at_builtin; refine wpList_append_in rfl _ _ rfl w5.heap.size (.slice (some ⟨w5.heap.size, 0, none⟩) 0 0) 0 [] rfl HE5.out a n c B o L rfl HLN.out HB1.out HZ1.out (HC1.out _ (KW5.out.trans (Keeps.alloc [] _ _))) HO1.out hn0 HSE.out ?_; intro v6 w6 ho6 hk6; rw [Nat.zero_add, List.nil_append] at ho6; have HO6 := Lib.hid ho6; have B6 := Lib.hid (below_owned (below_keeps (Below.refl w5.heap.size w5) (Keeps.alloc [] w5 (.cells #[] 27)) (Nat.le_refl _)) HE5.out hk6 (Nat.le_refl _)); have HS6 := Lib.hid B6.out.size; clear ho6 hk6))
  obtain ⟨M8, hr8, _⟩ := owns_reads2 HP8.out
  have HR8 := Lib.hid hr8
  clear hr8 HP8 HO6 B6 B7 HWB HE5 HSE HS6 HFIN HC1 HC2 HB1 HB2 HO1 HO2 HLB HKB HLS HKS HLC HKC HLN HKN HZ1 HZ2 HBO HDE
  have KW8 := Lib.hid (KW5.out.trans K8.out)
  have K48 := Lib.hid (K5.out.trans K8.out)
  have HX8 := Lib.hid (HX.out.next K8.out)
  generalize hla : (encL l).length = la at *
  generalize hlb : (encL k).length = lb at *
  have HLB2 := Lib.hid hlb
  have HLA := Lib.hid (show sizeL l = la from hla)
  have HALLT := Lib.hid (List.take_length (l := l))
  have HSB := Lib.hid (show la ≤ 4035 * l.length by rw [← hla]; exact sizeL_le HRT.out)
  have HSB2 := Lib.hid (show lb ≤ 4035 * k.length by rw [← hlb]; exact sizeL_le HRT2.out)
  clear hla hlb HX
  go_wp2
  go_loopw [13, 15, 83] (fun z _ i wr => ∃ j : Nat, j ≤ n ∧ i = .int .i64 j ∧ z = .int .i64 (sizeL (l.take j) : Nat) ∧ Keeps [] w8 wr) (fun _ _ i _ => n - (intOf i).toNat)
  case atStart => exact ⟨0, Nat.zero_le _, rfl, rfl, Keeps.refl _ _⟩
  case round =>
    obtain ⟨j, hj, rfl, rfl, hkw⟩ := hrel
    have KR := Lib.hid hkw
    clear hkw
    by_cases hlt : j < n
    · have hnl : l ≠ [] := by intro e; have := HN.out; rw [e] at this; simp at this; omega
      obtain ⟨B7, o7, cap', hv', _, _, _, _, hx⟩ := HWL.out.at hnl
      injection hv' with e1 e2 e3
      subst e1
      clear e2 e3
      obtain ⟨x, hget⟩ : ∃ x, l[j]? = some x := ⟨_, List.getElem?_eq_getElem (by have := HN.out; omega)⟩
      obtain ⟨ax, cx, Mx, ox, p0, p1, p2, _⟩ := hx j x hget
      have p0 := (KW8.out.trans KR.out).cell p0 (by simp)
      have p1 := (KW8.out.trans KR.out).cell p1 (by simp)
      have p2 := (KW8.out.trans KR.out).cell p2 (by simp)
      have hxr : rightW x = true := by
        have := HRT.out
        unfold rightL at this
        exact List.all_eq_true.1 this x (List.mem_of_getElem? hget)
      have HSZ := Lib.hid fun (W : World) => Size_any W x ax cx (sizeW x : Int) (by unfold sizeR; rw [if_pos hxr])
      have HST := Lib.hid (sizeL_take hget)
      have hb1 := sizeW_le hxr
      have hb2 : sizeL (l.take j) ≤ 100000 := by
        have h1 : rightL (l.take j) = true := by
          have := HRT.out
          unfold rightL at this ⊢
          rw [List.all_eq_true] at this ⊢
          exact fun y hy => this y (List.mem_of_mem_take hy)
        have := sizeL_le h1
        rw [List.length_take] at this
        omega
      clear hx hget hxr hnl
      unfold wvl str bv at *
      generalize ByteArray.mk x.name.toArray = t at *
      generalize (x.flags.toNat : Int) = f at *
      generalize x.code.length = cl at *
      generalize sizeL (l.take j) = z at *
      generalize sizeW x = y at *
      go_wp2_with (go_at_call 12; refine (HSZ.out _).mono ?_; rintro e w9 ⟨rfl, hk9⟩; have K9 := Lib.hid hk9; clear hk9)
      go_roundw
      case rel => first | exact ⟨j + 1, by omega, by go_num, by rw [HST.out]; go_num, (KR.out.trans (Keeps.alloc [] _ _)).trans K9.out⟩ | ((repeat apply Exists.intro); exact ⟨⟨j + 1, by omega, by go_num, by rw [HST.out]; go_num, (KR.out.trans (Keeps.alloc [] _ _)).trans K9.out⟩, rfl⟩)
      case measure => simp [intOf]; omega
    · have hjn : j = n := by omega
      have et : l.take j = l := by rw [hjn, HN.out]; exact HALLT.out
      have hsz : sizeL (l.take j) = la := by rw [et]; exact HLA.out
      rw [hsz]
      have hjx : ¬ (j : Int) < (n : Int) := by omega
      clear et hsz hlt hjn hj
      have hcA : ∀ W, Keeps [] wr W → (convert 23 9 (.slice a1 la c1)).run Try.prog W = .ok (.string ⟨(encL l).toArray⟩) W := fun W hk => conv_reads (HRA.out.keeps ((K48.out.trans KR.out).trans hk) (by simp))
      have hcB : ∀ W, Keeps [] wr W → (convert 23 9 (.slice a2 lb c2)).run Try.prog W = .ok (.string ⟨(encL k).toArray⟩) W := fun W hk => conv_reads (HRB.out.keeps ((K48.out.trans KR.out).trans hk) (by simp))
      have hcC : ∀ W, Keeps [] wr W → (convert 23 9 v8).run Try.prog W = .ok (.string ⟨(encL (l ++ k)).toArray⟩) W := fun W hk => conv_reads (HR8.out.keeps (KR.out.trans hk) (by simp))
      have hadd : ByteArray.mk (encL l).toArray ++ ByteArray.mk (encL k).toArray = ByteArray.mk (encL (l ++ k)).toArray := by rw [HEA.out]; exact bytes_append _ _
      have heq : ((ByteArray.mk (encL l).toArray).toList == (ByteArray.mk (encL k).toArray).toList) = allB l k := by rw [str_ne]; exact HEQ.out
      have HA1 := Lib.hid fun (W : World) (hk : Keeps [] wr W) => All_any W _ _ _ _ l l (HX8.out.next (KR.out.trans hk)) (HWL.out.next ((KW8.out.trans KR.out).trans hk)) true ((all_iff _ _).2 rfl)
      have HA2 := Lib.hid fun (W : World) (hk : Keeps [] wr W) => HAL.out W ((KW8.out.trans KR.out).trans hk)
      have KWR := Lib.hid (KW8.out.trans KR.out)
      have hszA : (ByteArray.mk (encL l).toArray).size = la := by rw [str_size]; exact HLA.out
      have hszB : (ByteArray.mk (encL k).toArray).size = lb := by rw [str_size]; exact HLB2.out
      have hll : ¬ (9223372036854775807 : Int) < (la : Int) + (lb : Int) := by have := HSB.out; have := HSB2.out; have := HN.out; have := HM.out; omega
      have hll2 : ((la + lb : Nat) : Int) ≤ 9223372036854775807 := by omega
      have hso : ∀ W, (Op.stringOp .add (ByteArray.mk (encL l).toArray) (ByteArray.mk (encL k).toArray)).run Try.prog W = .ok (.string ⟨(encL (l ++ k)).toArray⟩) W := fun W => by
        have hmx : IntKind.i64.max = 9223372036854775807 := rfl
        unfold Op.stringOp
        simp only [hszA, hszB, hadd, hmx]
        rw [if_neg (by omega)]
        rfl
      generalize ByteArray.mk (encL l).toArray = sA at *
      generalize ByteArray.mk (encL k).toArray = sB at *
      generalize ByteArray.mk (encL (l ++ k)).toArray = sC at *
      generalize allB l k = q at *
      go_wp2
      go_region_held3 (fun W' => Keeps [] wr W') (first | assumption | exact Keeps.refl [] _ | exact Keeps.drew [] _ | exact Keeps.trans (by assumption) (by assumption) | exact (Keeps.drew [] _).trans (by assumption)) (first
        | (go_at_call_of 19 (#[v5, Value.slice a n c]); refine (HA1.out _ (by first | assumption | exact Keeps.refl [] _ | exact Keeps.drew [] _)).mono ?_; rintro e w10 ⟨rfl, hk10⟩)
        | (go_at_call_of 19 (#[Value.slice a n c, Value.slice b m d]); refine (HA2.out _ (by first | assumption | exact Keeps.refl [] _ | exact Keeps.drew [] _ | exact Keeps.trans (by assumption) (by assumption) | exact (Keeps.drew [] _).trans (by assumption))).mono ?_; rintro e w11 ⟨rfl, hk11⟩)
        | (go_at_call 8; refine (awake10_any _).mono ?_; rintro e w12 ⟨rfl, hk12⟩))
      go_wp2
      go_ret
      exact ⟨rfl, (((KWR.out.trans (Keeps.drew [] _)).trans hk10).trans hk11).trans hk12⟩

theorem ImageBack_any (w : World) (a b : Option Addr) (n m c d : Nat) (l k : List Wd) (hl : WordsIn w (fun q => q < w.heap.size) (.slice a n c) l) (hk : WordsIn w (fun q => q < w.heap.size) (.slice b m d) k) (hz1 : a = none → c = 0) (hz2 : b = none → d = 0) :
    Calls Try.prog 4 #[.slice a n c, .slice b m d] w fun e w' => e = .returned (.bool true) ∧ Keeps [] w w' := by
  have hn : n = l.length := by obtain ⟨a', c', hv, _⟩ := hl.shape; injection hv
  have hm : m = k.length := by obtain ⟨a', c', hv, _⟩ := hk.shape; injection hv
  by_cases h : 15 < n ∨ 15 < m
  · exact ImageBack_long w a b n m c d h
  cases hr1 : rightL l with
  | false => exact ImageBack_wrong w _ a b n m c d l k hl hk hn hm (by omega) (by omega) (.inl hr1)
  | true =>
    cases hr2 : rightL k with
    | false => exact ImageBack_wrong w _ a b n m c d l k hl hk hn hm (by omega) (by omega) (.inr hr2)
    | true => exact ImageBack_right w a b n m c d l k hl hk hn hm (by omega) (by omega) hr1 hr2 hz1 hz2

section
variable {H : Type} {enc : TypeId × Value → H} {W : World} {b0 : Nat} {spare : Nat → Bool} {held : Bool}
/-- A list of words that is nil has no room. -/
theorem words10_nil {fuel n c : Nat} {a : Option Addr} {x : DataW H × List MemPlace} (h : DataW.trod enc Try.prog W b0 spare held fuel 22 [.slice a n c] = some x) : a = none → c = 0 := by
  intro ha
  subst ha
  rcases structs_read Try.underlying22 Try.underlying27 (by kernel_rfl) (by kernel_rfl) h with hv | ⟨a, len, cap, hv, _⟩
  · injection hv
  · injection hv with e1 _ _
    cases e1
end
end Go.Proofs.Yteaikbchbahdjaa
