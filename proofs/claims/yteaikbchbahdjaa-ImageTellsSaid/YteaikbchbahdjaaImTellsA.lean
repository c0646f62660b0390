/-
  ImageTells, walked.
-/
import Derived.Test.YteaikbchbahdjaaImRefDec
namespace Go.Proofs.Yteaikbchbahdjaa
open Go.RowKit Go.Deep
set_option linter.unusedVariables false

set_option maxRecDepth 100000 in
set_option maxHeartbeats 2000000 in
theorem ImageTells_long (w : World) (a b : Option Addr) (n m c d : Nat) (s : ByteArray) (h : 20 < n ∨ 3000 < m) : Calls Try.prog 3 #[.slice a n c, .slice b m d, .string s] w fun e w' => e = .returned (.bool true) ∧ Keeps [] w w' := by
  by_cases hn : 20 < n
  · have hn' : (20 : Int) < (n : Int) := by omega
    clear h
    go_enter Try.func3, Try.ntmps3
    go_wp2_with (go_at_call 8; refine (awake10_any _).mono ?_; rintro e w' ⟨rfl, hk⟩)
    go_ret
    exact ⟨rfl, hk⟩
  · have hn' : ¬ (20 : Int) < (n : Int) := by omega
    have hm' : (3000 : Int) < (m : Int) := by omega
    clear h
    go_enter Try.func3, Try.ntmps3
    go_wp2_with (go_at_call 8; refine (awake10_any _).mono ?_; rintro e w' ⟨rfl, hk⟩)
    go_ret
    exact ⟨rfl, hk⟩

theorem r10AlikeK (w : World) (a b : List UInt8) (ha : a.length ≤ maxLen) : Calls Try.prog 14 #[str a, str b] w fun e w' => e = .returned (.bool (alikeB a b)) ∧ Keeps [] w w' :=
  (r10Alike_any w a b ha).mono fun e w' ⟨he, n, hn⟩ => ⟨he, by rw [hn]; exact Keeps.drewN _ _ _⟩
theorem imAlikeK (w : World) (a b : List UInt8) (ha : a.length ≤ maxLen) : Calls Try.prog 13 #[str a, str b] w fun e w' => e = .returned (.bool (alikeB a b)) ∧ Keeps [] w w' :=
  (Alike_any w a b ha).mono fun e w' ⟨he, n, hn⟩ => ⟨he, by rw [hn]; exact Keeps.drewN _ _ _⟩

theorem r10Encode_nil (w : World) (a : Option Addr) (c : Nat) : Calls Try.prog 16 #[.slice a 0 c] w fun e w' => e = .returned (.tuple #[.slice none 0 0, .int .i64 0]) ∧ Keeps [] w w' := by
  go_enter Try.func16, Try.ntmps16
  go_wp2
  go_loopw [4, 5] (fun vv i wr => vv = .slice none 0 0 ∧ i = .int .i64 0 ∧ wr = w) (fun _ i _ => 0)
  case atStart => exact ⟨rfl, rfl, rfl⟩
  case round =>
    obtain ⟨rfl, rfl, rfl⟩ := hrel
    go_wp2
    go_ret2
    exact ⟨rfl, Keeps.refl _ _⟩

/-- Either all words are right, and their bytes are answered, or not. -/
theorem r10Encode_both (w : World) (P : Nat → Prop) (a : Option Addr) (n c : Nat) (l : List Wd) (h : WordsIn w P (.slice a n c) l) (hf : fits10 l) :
    Calls Try.prog 16 #[.slice a n c] w fun e w' => (rightL l = true ∧ ∃ v', e = .returned (.tuple #[v', .int .i64 0]) ∧ w'.ownsRow w.heap.size 5 1 v' (encL l).length ((encL l).map bv) ∧ Keeps [] w w') ∨
      (rightL l = false ∧ e = .returned (.tuple #[.slice none 0 0, .int .i64 100]) ∧ Keeps [] w w') := by
  by_cases hl : l = []
  · subst hl
    have hn : n = 0 := by obtain ⟨a', c', hv, _⟩ := h.shape; injection hv
    subst hn
    exact (r10Encode_nil w a c).mono fun e w' ⟨he, hk⟩ => .inl ⟨rfl, _, he, World.ownsRow_nil _ _ _ _, hk⟩
  · obtain ⟨B, o, cp, _, _, _, _, hB, _⟩ := h.at hl
    exact r10Encode_any w P _ l h hf (by omega)

theorem r10Encode_right (w : World) (P : Nat → Prop) (a : Option Addr) (n c : Nat) (l : List Wd) (h : WordsIn w P (.slice a n c) l) (hf : fits10 l) (hr : rightL l = true) :
    Calls Try.prog 16 #[.slice a n c] w fun e w' => ∃ v', e = .returned (.tuple #[v', .int .i64 0]) ∧ w'.ownsRow w.heap.size 5 1 v' (encL l).length ((encL l).map bv) ∧ Keeps [] w w' :=
  (r10Encode_both w P a n c l h hf).mono fun e w' h => by
    rcases h with ⟨_, h⟩ | ⟨h, _⟩
    · exact h
    · rw [hr] at h; cases h

theorem r10Encode_wrong (w : World) (P : Nat → Prop) (a : Option Addr) (n c : Nat) (l : List Wd) (h : WordsIn w P (.slice a n c) l) (hf : fits10 l) (hr : rightL l = false) :
    Calls Try.prog 16 #[.slice a n c] w fun e w' => e = .returned (.tuple #[.slice none 0 0, .int .i64 100]) ∧ Keeps [] w w' :=
  (r10Encode_both w P a n c l h hf).mono fun e w' h => by
    rcases h with ⟨h, _⟩ | ⟨_, h⟩
    · rw [hr] at h; cases h
    · exact h

theorem r10Decode_ok (w : World) (v : Value) (b : List UInt8) (M : Nat) (hr : Reads w v b M) (hb : b.length ≤ 1000000) (m : List Wd) (hd : decL b = some m) :
    Calls Try.prog 18 #[v] w fun e w' => ∃ l v', l.map (·.1) = m ∧ e = .returned (.tuple #[v', .int .i64 0]) ∧ WordsOwn false w' w.heap.size v' l ∧ m.length ≤ b.length ∧ Keeps [] w w' :=
  (r10Decode_said w v b M hr hb).mono fun e w' h => by
    rcases h with ⟨l, v', h1, h2, h3, h4, h5⟩ | ⟨h, _⟩
    · rw [hd] at h1
      injection h1 with h1
      exact ⟨l, v', h1.symm, h2, h3, by rw [h1, List.length_map]; exact h4, h5⟩
    · rw [hd] at h; cases h

theorem r10Decode_bad (w : World) (v : Value) (b : List UInt8) (M : Nat) (hr : Reads w v b M) (hb : b.length ≤ 1000000) (hd : decL b = none) :
    Calls Try.prog 18 #[v] w fun e w' => e = .returned (.tuple #[.slice none 0 0, .int .i64 100]) ∧ Keeps [] w w' :=
  (r10Decode_said w v b M hr hb).mono fun e w' h => by
    rcases h with ⟨l, v', h1, _⟩ | ⟨_, h⟩
    · rw [hd] at h1; cases h1
    · exact h

theorem words_len {t : Bool} {w : World} {base : Nat} {v : Value} {L : List (Wd × Value)} {m : List Wd} (h : WordsOwn t w base v L) (hm : L.map (·.1) = m) (hl : m.length ≤ 1000000) : WordsIn w (fun k => base ≤ k ∧ k < w.heap.size) v m := by
  have hz : L.length ≤ maxLen := by have := congrArg List.length hm; rw [List.length_map] at this; unfold maxLen; omega
  rw [← hm]; exact h.words hz

theorem sizeL_len (l : List Wd) : l.length ≤ sizeL l := by
  induction l with
  | nil => simp
  | cons x l ih => have := sizeW_pos x; rw [sizeL_cons, List.length_cons]; omega

set_option maxRecDepth 100000 in
set_option maxHeartbeats 8000000 in
theorem ImageTells_short (w : World) (a b : Option Addr) (n m c d : Nat) (l : List Wd) (hl : WordsIn w (fun q => q < w.heap.size) (.slice a n c) l) (bs : List UInt8) (M : Nat) (hr : Reads w (.slice b m d) bs M) (nm : List UInt8)
    (hn : n = l.length) (hm : m = bs.length) (h1 : n ≤ 20) (h2 : m ≤ 3000) : Calls Try.prog 3 #[.slice a n c, .slice b m d, str nm] w fun e w' => e = .returned (.bool true) ∧ Keeps [] w w' := by
  have HWL := Lib.hid hl
  have HRB := Lib.hid hr
  have HN := Lib.hid hn
  have HM := Lib.hid hm
  have hn' : ¬ (20 : Int) < (n : Int) := by omega
  have hm' : ¬ (3000 : Int) < (m : Int) := by omega
  have HFT := Lib.hid (show fits10 l from fits_few (by omega))
  have HA := Lib.hid fun (W : World) (x : List UInt8) (hx : x.length ≤ maxLen) => imAlikeK W x nm hx
  have HB := Lib.hid fun (W : World) (x : List UInt8) (hx : x.length ≤ maxLen) => r10AlikeK W x nm hx
  have HF1 := Lib.hid fun (W : World) (hk : Keeps [] w W) => Find_any W _ _ l (hl.next hk) nm _ rfl
  have HF2 := Lib.hid fun (W : World) (hk : Keeps [] w W) => r10Find_any W _ _ l (hl.next hk) nm _ rfl
  have hb6 : bs.length ≤ 1000000 := by omega
  clear hl hr hn hm
  unfold str at HA HB HF1 HF2 ⊢
  generalize ByteArray.mk nm.toArray = sn at *
  go_enter Try.func3, Try.ntmps3
  go_wp2
  go_loopw [8, 9, 29] (fun _ _ i wr => ∃ k : Nat, k ≤ n ∧ i = .int .i64 k ∧ Keeps [] w wr) (fun _ _ i _ => n - (intOf i).toNat)
  case atStart => exact ⟨0, Nat.zero_le _, rfl, Keeps.refl _ _⟩
  case round =>
    obtain ⟨k, hk, rfl, hkw⟩ := hrel
    have KW := Lib.hid hkw
    clear hkw
    by_cases hlt : k < n
    · have hnl : l ≠ [] := by intro e; have := HN.out; rw [e] at this; simp at this; omega
      obtain ⟨B7, o7, cap', hv', _, _, _, _, hx⟩ := HWL.out.at hnl
      injection hv' with f1 f2 f3
      subst f1
      clear f2 f3
      obtain ⟨x, hget⟩ : ∃ x, l[k]? = some x := ⟨_, List.getElem?_eq_getElem (by have := HN.out; omega)⟩
      obtain ⟨a5, c5, M5, o5, p0, p1, p2, hu5, _, hxn, _⟩ := hx k x hget
      have p0 := KW.out.cell p0 (by simp)
      have p1 := KW.out.cell p1 (by simp)
      have p2 := KW.out.cell p2 (by simp)
      have HR1 := Lib.hid fun (W : World) => Right_any W x a5 c5 _ rfl
      have HR2 := Lib.hid fun (W : World) => r10Right_any W x a5 c5 _ rfl
      have HSZ := Lib.hid fun (W : World) => Size_any W x a5 c5 _ rfl
      have HAX := Lib.hid fun (W : World) => HA.out W x.name hxn
      have HBX := Lib.hid fun (W : World) => HB.out W x.name hxn
      have HBY := Lib.hid fun (hrx : rightW x = true) (W : World) (hk : Keeps [] wr W) => r10Bytes_any W x a5 c5 M5 o5 (hu5.keeps (KW.out.trans hk) (by simp)) hrx
      have HSR := Lib.hid fun (hrx : rightW x = true) => (show sizeR x = (bytesW x).length by rw [bytesW_length]; unfold sizeR; rw [if_pos hrx])
      have HSW := Lib.hid fun (hrx : rightW x = false) => (show sizeR x = 0 by unfold sizeR; rw [if_neg (by rw [hrx]; simp)])
      clear hx hget hnl hu5 hxn
      unfold wvl str bv at *
      generalize ByteArray.mk x.name.toArray = t at *
      generalize (x.flags.toNat : Int) = f at *
      generalize x.code.length = cl at *
      generalize alikeB x.name nm = ak at *
      by_cases hcl : 1100 < cl
      · have hcl' : (1100 : Int) < (cl : Int) := by omega
        go_wp2_with (go_at_call 8; refine (awake10_any _).mono ?_; rintro e w4 ⟨rfl, hk4⟩; have K4 := Lib.hid hk4; clear hk4)
        go_ret
        exact ⟨rfl, (KW.out.trans (Keeps.alloc [] _ _)).trans K4.out⟩
      · have hcl' : ¬ (1100 : Int) < (cl : Int) := by omega
        go_upto_region 6 with fail
        generalize hV : World.alloc wr _ = V
        have WX := Lib.hid (show Whole V wr.heap.size 27 [.string t, .int .u8 f, .slice a5 cl c5] by rw [← hV]; exact Whole.new wr _ _)
        have KV := Lib.hid (show Keeps [] wr V by rw [← hV]; exact Keeps.alloc _ _ _)
        have g0 := WX.out.cell 0
        have g1 := WX.out.cell 1
        have g2 := WX.out.cell 2
        simp only [List.getElem?_cons_zero, List.getElem?_cons_succ] at g0 g1 g2
        clear hV p0 p1 p2
        cases hrx : rightW x with
        | true =>
          have HB1 := Lib.hid (HBY.out hrx)
          have hsr := HSR.out hrx
          rw [hrx] at HR1 HR2
          rw [hsr] at HSZ
          clear hrx hsr HSR HSW HBY
          generalize hY : (bytesW x).length = y at *
          have HY := Lib.hid hY
          clear hY
          go_upto_region 11 with (first
            | (go_at_call 9; refine (HR2.out _).mono ?_; rintro e w4 ⟨rfl, hk4⟩; have K4 := Lib.hid (KV.out.trans hk4); have g0 := hk4.cell g0 (by simp); have g1 := hk4.cell g1 (by simp); have g2 := hk4.cell g2 (by simp); clear hk4)
            | (go_at_call 10; refine (HB1.out _ K4.out).mono ?_; rintro e w5 ⟨v5, rfl, ho5, hk5⟩; obtain ⟨a6, c6, rfl⟩ := owns_shape2 ho5; have K5 := Lib.hid (K4.out.trans hk5); have h0 := hk5.cell g0 (by simp); have h1' := hk5.cell g1 (by simp); have h2' := hk5.cell g2 (by simp); clear hk5 ho5))
          have hc0 : ∀ W, Keeps [] w5 W → W.cell? ⟨wr.heap.size, 0, none⟩ = some (.string t) := fun W hk => hk.cell h0 (by simp)
          have hc1 : ∀ W, Keeps [] w5 W → W.cell? ⟨wr.heap.size, 1, none⟩ = some (.int .u8 f) := fun W hk => hk.cell h1' (by simp)
          have hc2 : ∀ W, Keeps [] w5 W → W.cell? ⟨wr.heap.size, 2, none⟩ = some (.slice a5 cl c5) := fun W hk => hk.cell h2' (by simp)
          go_region_held3 (fun W' => Keeps [] w5 W') (first | assumption | exact Keeps.refl [] _ | exact Keeps.drew [] _ | exact Keeps.trans (by assumption) (by assumption) | exact (Keeps.drew [] _).trans (by assumption)) (first
            | (go_at_call 11; refine (HR1.out _).mono ?_; rintro e wA ⟨rfl, hkA⟩)
            | (go_at_call 9; refine (HR2.out _).mono ?_; rintro e wB ⟨rfl, hkB⟩)
            | (go_at_call 12; refine (HSZ.out _).mono ?_; rintro e wC ⟨rfl, hkC⟩)
            | (go_at_call 13; refine (HAX.out _).mono ?_; rintro e wD ⟨rfl, hkD⟩)
            | (go_at_call 14; refine (HBX.out _).mono ?_; rintro e wE ⟨rfl, hkE⟩))
          go_wp2
          go_roundw
          case rel => first | exact ⟨k + 1, by omega, by go_num, (KW.out.trans K5.out).trans (((((Keeps.drew [] _).trans hkA).trans hkB).trans hkC).trans hkD |>.trans hkE)⟩ | ((repeat apply Exists.intro); exact ⟨⟨k + 1, by omega, by go_num, (KW.out.trans K5.out).trans (((((Keeps.drew [] _).trans hkA).trans hkB).trans hkC).trans hkD |>.trans hkE)⟩, rfl⟩)
          case measure => simp [intOf]; omega
        | false =>
          have hsw := HSW.out hrx
          rw [hrx] at HR1 HR2
          rw [hsw] at HSZ
          clear hrx hsw HSR HSW HBY
          go_upto_region 11 with (first
            | (go_at_call 9; refine (HR2.out _).mono ?_; rintro e w5 ⟨rfl, hk4⟩; have K5 := Lib.hid (KV.out.trans hk4); have h0 := hk4.cell g0 (by simp); have h1' := hk4.cell g1 (by simp); have h2' := hk4.cell g2 (by simp); clear hk4))
          have hc0 : ∀ W, Keeps [] w5 W → W.cell? ⟨wr.heap.size, 0, none⟩ = some (.string t) := fun W hk => hk.cell h0 (by simp)
          have hc1 : ∀ W, Keeps [] w5 W → W.cell? ⟨wr.heap.size, 1, none⟩ = some (.int .u8 f) := fun W hk => hk.cell h1' (by simp)
          have hc2 : ∀ W, Keeps [] w5 W → W.cell? ⟨wr.heap.size, 2, none⟩ = some (.slice a5 cl c5) := fun W hk => hk.cell h2' (by simp)
          go_region_held3 (fun W' => Keeps [] w5 W') (first | assumption | exact Keeps.refl [] _ | exact Keeps.drew [] _ | exact Keeps.trans (by assumption) (by assumption) | exact (Keeps.drew [] _).trans (by assumption)) (first
            | (go_at_call 11; refine (HR1.out _).mono ?_; rintro e wA ⟨rfl, hkA⟩)
            | (go_at_call 9; refine (HR2.out _).mono ?_; rintro e wB ⟨rfl, hkB⟩)
            | (go_at_call 12; refine (HSZ.out _).mono ?_; rintro e wC ⟨rfl, hkC⟩)
            | (go_at_call 13; refine (HAX.out _).mono ?_; rintro e wD ⟨rfl, hkD⟩)
            | (go_at_call 14; refine (HBX.out _).mono ?_; rintro e wE ⟨rfl, hkE⟩))
          go_wp2
          go_roundw
          case rel => first | exact ⟨k + 1, by omega, by go_num, (KW.out.trans K5.out).trans (((((Keeps.drew [] _).trans hkA).trans hkB).trans hkC).trans hkD |>.trans hkE)⟩ | ((repeat apply Exists.intro); exact ⟨⟨k + 1, by omega, by go_num, (KW.out.trans K5.out).trans (((((Keeps.drew [] _).trans hkA).trans hkB).trans hkC).trans hkD |>.trans hkE)⟩, rfl⟩)
          case measure => simp [intOf]; omega
    · have hkx : ¬ (k : Int) < (n : Int) := by omega
      have HFa := Lib.hid fun (W : World) (hk : Keeps [] wr W) => HF1.out W (KW.out.trans hk)
      have HFb := Lib.hid fun (W : World) (hk : Keeps [] wr W) => HF2.out W (KW.out.trans hk)
      have HRW := Lib.hid (HRB.out.keeps KW.out (by simp))
      have HLW := Lib.hid (HWL.out.next KW.out)
      generalize findI l nm = fi at *
      clear hlt hk HA HB HF1 HF2
      cases hrl : rightL l with
      | true =>
        cases hdd : decL bs with
        | some ms =>
          have hms : ms.length ≤ 1000000 := by
            have h1 := (dec_back hdd).2
            have h2 : bs.length = sizeL ms := by rw [h1]; rfl
            have h3 := sizeL_len ms
            omega
          have HE1 := Lib.hid (Encode_right wr _ _ l HLW.out HFT.out hrl)
          have HE2 := Lib.hid fun (W : World) (hk : Keeps [] wr W) => r10Encode_right W _ a n c l (HLW.out.next hk) HFT.out hrl
          have HD1 := Lib.hid fun (W : World) (hk : Keeps [] wr W) => Decode_ok W _ bs M (HRW.out.keeps hk (by simp)) hb6 ms hdd
          have HD2 := Lib.hid fun (W : World) (hk : Keeps [] wr W) => r10Decode_ok W _ bs M (HRW.out.keeps hk (by simp)) hb6 ms hdd
          clear hrl hdd HLW HRW HRB HWL HFT
          go_upto_region 18 with (first
            | (go_at_call 15; refine HE1.out.mono ?_; rintro e wE1 ⟨x1, rfl, ho1, hk1⟩; have HO1 := Lib.hid ho1; have KA := Lib.hid hk1; clear ho1 hk1)
            | (go_at_call 16; refine (HE2.out _ KA.out).mono ?_; rintro e wE2 ⟨x2, rfl, ho2, hk2⟩; have HO1' := Lib.hid (World.ownsRow.keeps HO1.out hk2 (fun _ _ => List.not_mem_nil)); have HO2 := Lib.hid ho2; have KB := Lib.hid (KA.out.trans hk2); clear ho2 hk2)
            | (go_at_call 17; refine (HD1.out _ KB.out).mono ?_; rintro e wD1 ⟨L1, y1, hL1, rfl, hw1, hl1, hk3⟩; have HX1 := Lib.hid (words_len hw1 hL1 (by omega)); have KC := Lib.hid (KB.out.trans hk3); have KBC := Lib.hid hk3; clear hL1 hw1 hl1 hk3)
            | (go_at_call 18; refine (HD2.out _ KC.out).mono ?_; rintro e wD2 ⟨L2, y2, hL2, rfl, hw2, hl2, hk4⟩; have HX2 := Lib.hid (words_len hw2 hL2 (by omega)); have HX1' := Lib.hid (HX1.out.next hk4); have KD := Lib.hid (KC.out.trans hk4); have KBD := Lib.hid (KBC.out.trans hk4); clear hL2 hw2 hl2 hk4))
          obtain ⟨MA, hrA, _⟩ := owns_reads2 HO1'.out
          obtain ⟨MB, hrB, _⟩ := owns_reads2 HO2.out
          have cvA := conv_reads (hrA.keeps KBD.out (by simp))
          have cvB := conv_reads (hrB.keeps KBD.out (by simp))
          clear hrA hrB HO1 HO1' HO2
          generalize ByteArray.mk (encL l).toArray = sE at *
          have HAL := Lib.hid (All_any wD2 _ _ _ _ ms ms HX1'.out HX2.out true ((all_iff _ _).2 rfl))
          go_wp2_with (first
            | (go_at_call 19; refine HAL.out.mono ?_; rintro e w6 ⟨rfl, hk6⟩; have K6 := Lib.hid (KD.out.trans hk6); clear hk6)
            | (go_at_call 20; refine (HFa.out _ K6.out).mono ?_; rintro e w7 ⟨rfl, hk7⟩; have K7 := Lib.hid (K6.out.trans hk7); clear hk7)
            | (go_at_call 21; refine (HFb.out _ K7.out).mono ?_; rintro e w8 ⟨rfl, hk8⟩; have K8 := Lib.hid (K7.out.trans hk8); clear hk8)
            | (go_at_call 8; refine (awake10_any _).mono ?_; rintro e w9 ⟨rfl, hk9⟩; have K9 := Lib.hid (K8.out.trans hk9); clear hk9))
          go_ret
          exact ⟨rfl, KW.out.trans K9.out⟩
        | none =>
          have HE1 := Lib.hid (Encode_right wr _ _ l HLW.out HFT.out hrl)
          have HE2 := Lib.hid fun (W : World) (hk : Keeps [] wr W) => r10Encode_right W _ a n c l (HLW.out.next hk) HFT.out hrl
          have HD1 := Lib.hid fun (W : World) (hk : Keeps [] wr W) => Decode_bad W _ bs M (HRW.out.keeps hk (by simp)) hb6 hdd
          have HD2 := Lib.hid fun (W : World) (hk : Keeps [] wr W) => r10Decode_bad W _ bs M (HRW.out.keeps hk (by simp)) hb6 hdd
          clear hrl hdd HLW HRW HRB HWL HFT
          go_upto_region 18 with (first
            | (go_at_call 15; refine HE1.out.mono ?_; rintro e wE1 ⟨x1, rfl, ho1, hk1⟩; have HO1 := Lib.hid ho1; have KA := Lib.hid hk1; clear ho1 hk1)
            | (go_at_call 16; refine (HE2.out _ KA.out).mono ?_; rintro e wE2 ⟨x2, rfl, ho2, hk2⟩; have HO1' := Lib.hid (World.ownsRow.keeps HO1.out hk2 (fun _ _ => List.not_mem_nil)); have HO2 := Lib.hid ho2; have KB := Lib.hid (KA.out.trans hk2); clear ho2 hk2)
            | (go_at_call 17; refine (HD1.out _ KB.out).mono ?_; rintro e wD1 ⟨rfl, hk3⟩; have KC := Lib.hid (KB.out.trans hk3); have KBC := Lib.hid hk3; clear hk3)
            | (go_at_call 18; refine (HD2.out _ KC.out).mono ?_; rintro e wD2 ⟨rfl, hk4⟩; have KD := Lib.hid (KC.out.trans hk4); have KBD := Lib.hid (KBC.out.trans hk4); clear hk4))
          obtain ⟨MA, hrA, _⟩ := owns_reads2 HO1'.out
          obtain ⟨MB, hrB, _⟩ := owns_reads2 HO2.out
          have cvA := conv_reads (hrA.keeps KBD.out (by simp))
          have cvB := conv_reads (hrB.keeps KBD.out (by simp))
          clear hrA hrB HO1 HO1' HO2
          generalize ByteArray.mk (encL l).toArray = sE at *
          have HAL := Lib.hid (All_any wD2 (fun _ => True) (fun _ => True) _ _ [] [] (WordsIn.nil _ _) (WordsIn.nil _ _) true rfl)
          go_wp2_with (first
            | (go_at_call 19; refine HAL.out.mono ?_; rintro e w6 ⟨rfl, hk6⟩; have K6 := Lib.hid (KD.out.trans hk6); clear hk6)
            | (go_at_call 20; refine (HFa.out _ K6.out).mono ?_; rintro e w7 ⟨rfl, hk7⟩; have K7 := Lib.hid (K6.out.trans hk7); clear hk7)
            | (go_at_call 21; refine (HFb.out _ K7.out).mono ?_; rintro e w8 ⟨rfl, hk8⟩; have K8 := Lib.hid (K7.out.trans hk8); clear hk8)
            | (go_at_call 8; refine (awake10_any _).mono ?_; rintro e w9 ⟨rfl, hk9⟩; have K9 := Lib.hid (K8.out.trans hk9); clear hk9))
          go_ret
          exact ⟨rfl, KW.out.trans K9.out⟩
      | false =>
        cases hdd : decL bs with
        | some ms =>
          have hms : ms.length ≤ 1000000 := by
            have h1 := (dec_back hdd).2
            have h2 : bs.length = sizeL ms := by rw [h1]; rfl
            have h3 := sizeL_len ms
            omega
          have HE1 := Lib.hid (Encode_wrong wr _ _ l HLW.out HFT.out hrl)
          have HE2 := Lib.hid fun (W : World) (hk : Keeps [] wr W) => r10Encode_wrong W _ a n c l (HLW.out.next hk) HFT.out hrl
          have HD1 := Lib.hid fun (W : World) (hk : Keeps [] wr W) => Decode_ok W _ bs M (HRW.out.keeps hk (by simp)) hb6 ms hdd
          have HD2 := Lib.hid fun (W : World) (hk : Keeps [] wr W) => r10Decode_ok W _ bs M (HRW.out.keeps hk (by simp)) hb6 ms hdd
          clear hrl hdd HLW HRW HRB HWL HFT
          go_upto_region 18 with (first
            | (go_at_call 15; refine HE1.out.mono ?_; rintro e wE1 ⟨rfl, hk1⟩; have KA := Lib.hid hk1; clear hk1)
            | (go_at_call 16; refine (HE2.out _ KA.out).mono ?_; rintro e wE2 ⟨rfl, hk2⟩; have KB := Lib.hid (KA.out.trans hk2); clear hk2)
            | (go_at_call 17; refine (HD1.out _ KB.out).mono ?_; rintro e wD1 ⟨L1, y1, hL1, rfl, hw1, hl1, hk3⟩; have HX1 := Lib.hid (words_len hw1 hL1 (by omega)); have KC := Lib.hid (KB.out.trans hk3); have KBC := Lib.hid hk3; clear hL1 hw1 hl1 hk3)
            | (go_at_call 18; refine (HD2.out _ KC.out).mono ?_; rintro e wD2 ⟨L2, y2, hL2, rfl, hw2, hl2, hk4⟩; have HX2 := Lib.hid (words_len hw2 hL2 (by omega)); have HX1' := Lib.hid (HX1.out.next hk4); have KD := Lib.hid (KC.out.trans hk4); have KBD := Lib.hid (KBC.out.trans hk4); clear hL2 hw2 hl2 hk4))
          have cvA := conv_reads (Reads.nil wD2 0)
          have HAL := Lib.hid (All_any wD2 _ _ _ _ ms ms HX1'.out HX2.out true ((all_iff _ _).2 rfl))
          go_wp2_with (first
            | (go_at_call 19; refine HAL.out.mono ?_; rintro e w6 ⟨rfl, hk6⟩; have K6 := Lib.hid (KD.out.trans hk6); clear hk6)
            | (go_at_call 20; refine (HFa.out _ K6.out).mono ?_; rintro e w7 ⟨rfl, hk7⟩; have K7 := Lib.hid (K6.out.trans hk7); clear hk7)
            | (go_at_call 21; refine (HFb.out _ K7.out).mono ?_; rintro e w8 ⟨rfl, hk8⟩; have K8 := Lib.hid (K7.out.trans hk8); clear hk8)
            | (go_at_call 8; refine (awake10_any _).mono ?_; rintro e w9 ⟨rfl, hk9⟩; have K9 := Lib.hid (K8.out.trans hk9); clear hk9))
          go_ret
          exact ⟨rfl, KW.out.trans K9.out⟩
        | none =>
          have HE1 := Lib.hid (Encode_wrong wr _ _ l HLW.out HFT.out hrl)
          have HE2 := Lib.hid fun (W : World) (hk : Keeps [] wr W) => r10Encode_wrong W _ a n c l (HLW.out.next hk) HFT.out hrl
          have HD1 := Lib.hid fun (W : World) (hk : Keeps [] wr W) => Decode_bad W _ bs M (HRW.out.keeps hk (by simp)) hb6 hdd
          have HD2 := Lib.hid fun (W : World) (hk : Keeps [] wr W) => r10Decode_bad W _ bs M (HRW.out.keeps hk (by simp)) hb6 hdd
          clear hrl hdd HLW HRW HRB HWL HFT
          go_upto_region 18 with (first
            | (go_at_call 15; refine HE1.out.mono ?_; rintro e wE1 ⟨rfl, hk1⟩; have KA := Lib.hid hk1; clear hk1)
            | (go_at_call 16; refine (HE2.out _ KA.out).mono ?_; rintro e wE2 ⟨rfl, hk2⟩; have KB := Lib.hid (KA.out.trans hk2); clear hk2)
            | (go_at_call 17; refine (HD1.out _ KB.out).mono ?_; rintro e wD1 ⟨rfl, hk3⟩; have KC := Lib.hid (KB.out.trans hk3); have KBC := Lib.hid hk3; clear hk3)
            | (go_at_call 18; refine (HD2.out _ KC.out).mono ?_; rintro e wD2 ⟨rfl, hk4⟩; have KD := Lib.hid (KC.out.trans hk4); have KBD := Lib.hid (KBC.out.trans hk4); clear hk4))
          have cvA := conv_reads (Reads.nil wD2 0)
          have HAL := Lib.hid (All_any wD2 (fun _ => True) (fun _ => True) _ _ [] [] (WordsIn.nil _ _) (WordsIn.nil _ _) true rfl)
          go_wp2_with (first
            | (go_at_call 19; refine HAL.out.mono ?_; rintro e w6 ⟨rfl, hk6⟩; have K6 := Lib.hid (KD.out.trans hk6); clear hk6)
            | (go_at_call 20; refine (HFa.out _ K6.out).mono ?_; rintro e w7 ⟨rfl, hk7⟩; have K7 := Lib.hid (K6.out.trans hk7); clear hk7)
            | (go_at_call 21; refine (HFb.out _ K7.out).mono ?_; rintro e w8 ⟨rfl, hk8⟩; have K8 := Lib.hid (K7.out.trans hk8); clear hk8)
            | (go_at_call 8; refine (awake10_any _).mono ?_; rintro e w9 ⟨rfl, hk9⟩; have K9 := Lib.hid (K8.out.trans hk9); clear hk9))
          go_ret
          exact ⟨rfl, KW.out.trans K9.out⟩

theorem ImageTells_any (w : World) (v : Value) (l : List Wd) (h : WordsIn w (fun k => k < w.heap.size) v l) (u : Value) (b : List UInt8) (M : Nat) (hr : Reads w u b M) (hM : b ≠ [] → M < w.heap.size) (hb : b.length ≤ maxLen) (nm : List UInt8) (hs : nm.length ≤ maxLen) :
    Calls Try.prog 3 #[v, u, str nm] w fun e w' => e = .returned (.bool true) ∧ Keeps [] w w' := by
  obtain ⟨a, c, rfl, _⟩ := h.shape
  obtain ⟨a2, c2, rfl, _⟩ := hr.shape
  by_cases hh : 20 < l.length ∨ 3000 < b.length
  · exact ImageTells_long w a a2 _ _ c c2 _ hh
  · exact ImageTells_short w a a2 _ _ c c2 l h b M hr nm rfl rfl (by omega) (by omega)
end Go.Proofs.Yteaikbchbahdjaa
