/-
  Words as bytes: the bytes of all words (the program's and the document's).
-/
import Derived.Test.YteaikbchbahdjaaImBytes
namespace Go.Proofs.Yteaikbchbahdjaa
open Go.RowKit Go.Deep
set_option linter.unusedVariables false

theorem rightL_take {l : List Wd} {k : Nat} {x : Wd} (h : l[k]? = some x) : rightL (l.take (k + 1)) = (rightL (l.take k) && rightW x) := by
  unfold rightL
  rw [List.take_add_one, h]; simp
theorem rightL_bad {l : List Wd} {k : Nat} {x : Wd} (h : l[k]? = some x) (hx : rightW x = false) : rightL l = false := by
  unfold rightL
  rw [List.all_eq_false]
  exact ⟨x, List.mem_of_getElem? h, by simp [hx]⟩
theorem sizeL_take {l : List Wd} {k : Nat} {x : Wd} (h : l[k]? = some x) : sizeL (l.take (k + 1)) = sizeL (l.take k) + sizeW x := by
  rw [List.take_add_one, h, sizeL_append]
  show _ + sizeL [x] = _
  rw [sizeL_cons]; rfl
theorem encL_take {l : List Wd} {k : Nat} {x : Wd} (h : l[k]? = some x) : encL (l.take (k + 1)) = encL (l.take k) ++ bytesW x := by
  rw [List.take_add_one, h, encL_append]
  congr 1
  show encL [x] = _
  simp [encL]

theorem made_none (z : Nat) (hz : z ≤ 1000000) : ∃ C : Array Value, C.size = z ∧ ∀ w : World, (Instr.makeSlice 23 (.int .i64 0) (.int .i64 z)).run Try.prog w = .ok (.slice (some ⟨w.heap.size, 0, none⟩) 0 z) (w.alloc (.cells C 5)) := by
  obtain ⟨i0, hi, hz0, hz1, hz2⟩ := info_parts infoByte
  refine ⟨madeCells (Value.int .u8 0).cells (z * i0.size), by rw [size_madeCells, hz1, Nat.mul_one], fun w => ?_⟩
  rw [run_make w 23 5 i0 (.int .u8 0) Try.underlying23 hi hz0 .i64 .i64 _ _ (by omega) (by omega) (by rw [hz2]; omega) (by omega)]
  simp

/-- All words' bytes are no more than so many, as far as they are right. -/
def fits10 (l : List Wd) : Prop := ∀ k, k ≤ l.length → rightL (l.take k) = true → sizeL (l.take k) ≤ 900000

theorem fits_few {l : List Wd} (h : l.length ≤ 200) : fits10 l := by
  intro k hk hr
  have := sizeL_le hr
  rw [List.length_take] at this
  have : min k l.length ≤ 200 := by omega
  omega

set_option maxRecDepth 100000 in
set_option maxHeartbeats 2000000 in
theorem Encode_any (w : World) (P : Nat → Prop) (v : Value) (l : List Wd) (h : WordsIn w P v l) (hf : fits10 l) :
    Calls Try.prog 15 #[v] w fun e w' => (rightL l = true ∧ ∃ v', e = .returned (.tuple #[v', .int .i64 0]) ∧ w'.ownsRow w.heap.size 5 1 v' (encL l).length ((encL l).map bv) ∧ Keeps [] w w') ∨
      (rightL l = false ∧ e = .returned (.tuple #[.slice none 0 0, .int .i64 100]) ∧ Keeps [] w w') := by
  obtain ⟨a, cap, B, o, rfl, hcap, hm, hn, hx⟩ := h
  have HX := Lib.hid hx
  have HN := Lib.hid hn
  have HF := Lib.hid hf
  have HALL := Lib.hid (List.take_length (l := l))
  clear hx hn hf
  obtain ⟨n, hn⟩ : ∃ n, n = l.length := ⟨_, rfl⟩
  rw [← hn] at hm hcap ⊢
  have HL := Lib.hid hn
  clear hn
  unfold maxLen at hm
  go_enter Try.func15, Try.ntmps15
  go_wp2
  go_loopw [4, 6, 7, 13] (fun z _ _ i wr => ∃ k : Nat, k ≤ n ∧ i = .int .i64 k ∧ z = .int .i64 (sizeL (l.take k) : Nat) ∧ rightL (l.take k) = true ∧ Keeps [] w wr) (fun _ _ _ i _ => n - (intOf i).toNat)
  case atStart => exact ⟨0, Nat.zero_le _, rfl, rfl, rfl, Keeps.refl _ _⟩
  case round =>
    obtain ⟨k, hk, rfl, rfl, hrt, hkp⟩ := hrel
    have HK := Lib.hid hkp
    have HRT := Lib.hid hrt
    have hsz := HF.out k (by rw [← HL.out]; exact hk) hrt
    clear hkp hrt
    by_cases hlt : k < n
    · have hne : l ≠ [] := by intro e; have := HL.out; rw [e] at this; simp at this; omega
      obtain ⟨ha, _⟩ := HN.out hne
      subst ha
      obtain ⟨x, hget⟩ : ∃ x, l[k]? = some x := ⟨_, List.getElem?_eq_getElem (by have := HL.out; omega)⟩
      obtain ⟨ao, cp, M, off, c0, c1, c2, _⟩ := HX.out k _ hget
      have c0 := HK.out.cell c0 (by simp)
      have c1 := HK.out.cell c1 (by simp)
      have c2 := HK.out.cell c2 (by simp)
      have HS := Lib.hid fun w => Size_any w x ao cp _ rfl
      have HRB := Lib.hid fun h => rightL_bad hget h
      have HRK := Lib.hid (rightL_take hget)
      have HSK := Lib.hid (sizeL_take hget)
      clear hget hne
      unfold wvl str bv at *
      generalize ByteArray.mk x.name.toArray = s at *
      generalize (x.flags.toNat : Int) = f at *
      generalize x.code.length = m at *
      generalize sizeL (l.take k) = z at *
      by_cases hr : rightW x = true
      · have hz : (sizeR x : Int) = (sizeW x : Int) := by unfold sizeR; rw [if_pos hr]
        have hp := sizeW_pos x
        have hq := sizeW_le hr
        rw [hz] at HS
        have HR := Lib.hid hr
        clear hz hr
        generalize sizeW x = y at *
        have hy0 : ((y : Int) == 0) = false := by simp; omega
        go_wp2_with (go_at_call 12; refine (HS.out _).mono ?_; rintro e w2 ⟨rfl, hk2⟩; have HK2 := Lib.hid hk2; clear hk2)
        go_roundw
        case rel => exact ⟨k + 1, by omega, by go_num, by rw [HSK.out]; go_num, by rw [HRK.out, HRT.out, HR.out]; rfl, (HK.out.trans (Keeps.alloc [] _ _)).trans HK2.out⟩
        case measure => simp [intOf]; omega
      · have hz : (sizeR x : Int) = 0 := by unfold sizeR; rw [if_neg hr]; rfl
        rw [hz] at HS
        have HR := Lib.hid (HRB.out (by simpa using hr))
        clear hz hr
        go_wp2_with (go_at_call 12; refine (HS.out _).mono ?_; rintro e w2 ⟨rfl, hk2⟩; have HK2 := Lib.hid hk2; clear hk2)
        go_ret2
        exact .inr ⟨HR.out, rfl, (HK.out.trans (Keeps.alloc [] _ _)).trans HK2.out⟩
    · have hkn : k = n := by omega
      have e : l.take k = l := by rw [hkn, HL.out]; exact HALL.out
      rw [e] at HRT hsz ⊢
      have HZ := Lib.hid (show (encL l).length = sizeL l from rfl)
      subst hkn
      clear e hlt hk
      generalize sizeL l = z at *
      obtain ⟨C, hC, hmk⟩ := made_none z (by omega)
      have HC := Lib.hid hC
      have hws := HK.out.size
      clear hC
      go_upto_region 11 with fail
      generalize hV : World.alloc wr _ = V
      have HO := Lib.hid (show V.ownsRow w.heap.size 5 1 (.slice (some ⟨wr.heap.size, 0, none⟩) 0 z) 0 [] by rw [← hV]; exact World.ownsRow_made wr C z hws (by unfold maxLen; omega) (by rw [HC.out, Nat.mul_one]))
      have BV := Lib.hid (show Below w.heap.size w V by rw [← hV]; exact (HK.out.trans (Keeps.alloc [] _ _)).below)
      clear hV hws
      go_wp2
      go_loopw [8, 10, 29] (fun vv _ i wr => ∃ k' : Nat, k' ≤ k ∧ i = .int .i64 k' ∧ wr.ownsRow w.heap.size 5 1 vv (encL (l.take k')).length ((encL (l.take k')).map bv) ∧ Below w.heap.size w wr) (fun _ _ i _ => k - (intOf i).toNat)
      case atStart => exact ⟨0, Nat.zero_le _, rfl, HO.out, BV.out⟩
      case round =>
        obtain ⟨j, hj, rfl, hown, hbel⟩ := hrel
        have HOj := Lib.hid hown
        have HBj := Lib.hid hbel
        clear hown hbel
        by_cases hlt : j < k
        · have hne : l ≠ [] := by intro e; have := HL.out; rw [e] at this; simp at this; omega
          obtain ⟨ha, _⟩ := HN.out hne
          subst ha
          obtain ⟨x, hget⟩ : ∃ x, l[j]? = some x := ⟨_, List.getElem?_eq_getElem (by have := HL.out; omega)⟩
          obtain ⟨ao, cp, M, off, c0, c1, c2, hr3, _⟩ := HX.out j _ hget
          have KW : Keeps [] w wr := Keeps.ofBelow HBj.out
          have hxr : rightW x = true := by
            have := HRT.out
            unfold rightL at this
            exact List.all_eq_true.1 this x (List.mem_of_getElem? hget)
          have hlen : (encL (l.take j)).length ≤ 900000 := HF.out j (by rw [← HL.out]; omega) (by
            have := HRT.out
            unfold rightL at this ⊢
            rw [List.all_eq_true] at this ⊢
            exact fun y hy => this y (List.mem_of_mem_take hy))
          have HA := Lib.hid fun (W : World) (hb2 : Below wr.heap.size wr W) (hW : wr.heap.size ≤ W.heap.size) => appended_any W w.heap.size _ _ x ao cp M off (World.ownsRow.keeps HOj.out (Keeps.ofBelow hb2) (fun _ _ => List.not_mem_nil)) (by have := HBj.out.size; omega) (hr3.keeps (KW.trans (Keeps.ofBelow hb2)) (by simp)) (fun hne => hr3.lt hne) hxr hlen
          have c0 := KW.cell c0 (by simp)
          have c1 := KW.cell c1 (by simp)
          have c2 := KW.cell c2 (by simp)
          have HE := Lib.hid (encL_take hget)
          rw [← HE.out] at HA
          clear hget hne hr3 KW hxr hlen
          unfold wvl str bv at *
          generalize ByteArray.mk x.name.toArray = s at *
          generalize (x.flags.toNat : Int) = f at *
          generalize x.code.length = m at *
          go_wp2_with (go_at_call 28; refine (HA.out _ ((Below.refl _ wr).alloc (Nat.le_refl _) _) (by simp)).mono ?_; rintro e w2 ⟨v2, rfl, hown2, hb2⟩; have HO2 := Lib.hid hown2; have HB2 := Lib.hid hb2; clear hown2 hb2)
          go_roundw
          case rel => exact ⟨j + 1, by omega, by go_num, HO2.out, (HBj.out.alloc HBj.out.size _).trans HB2.out⟩
          case measure => simp [intOf]; omega
        · have hjk : j = k := by omega
          have e : l.take j = l := by rw [hjk, HL.out]; exact HALL.out
          rw [e] at HOj
          go_wp2
          go_ret2
          exact .inl ⟨HRT.out, _, rfl, HOj.out, Keeps.ofBelow HBj.out⟩

set_option maxRecDepth 100000 in
set_option maxHeartbeats 2000000 in
theorem r10Encode_any (w : World) (P : Nat → Prop) (v : Value) (l : List Wd) (h : WordsIn w P v l) (hf : fits10 l) (hw0 : 0 < w.heap.size) :
    Calls Try.prog 16 #[v] w fun e w' => (rightL l = true ∧ ∃ v', e = .returned (.tuple #[v', .int .i64 0]) ∧ w'.ownsRow w.heap.size 5 1 v' (encL l).length ((encL l).map bv) ∧ Keeps [] w w') ∨
      (rightL l = false ∧ e = .returned (.tuple #[.slice none 0 0, .int .i64 100]) ∧ Keeps [] w w') := by
  obtain ⟨a, cap, B, o, rfl, hcap, hm, hn, hx⟩ := h
  have HX := Lib.hid hx
  have HN := Lib.hid hn
  have HF := Lib.hid hf
  have HALL := Lib.hid (List.take_length (l := l))
  clear hx hn hf
  obtain ⟨n, hn⟩ : ∃ n, n = l.length := ⟨_, rfl⟩
  rw [← hn] at hm hcap ⊢
  have HL := Lib.hid hn
  clear hn
  unfold maxLen at hm
  go_enter Try.func16, Try.ntmps16
  go_wp2
  go_loopw [4, 5] (fun vv i wr => ∃ k : Nat, k ≤ n ∧ i = .int .i64 k ∧ rightL (l.take k) = true ∧ wr.ownsRow w.heap.size 5 1 vv (encL (l.take k)).length ((encL (l.take k)).map bv) ∧ Below w.heap.size w wr) (fun _ i _ => n - (intOf i).toNat)
  case atStart => exact ⟨0, Nat.zero_le _, rfl, rfl, World.ownsRow_nil _ _ _ _, Below.refl _ _⟩
  case round =>
    obtain ⟨k, hk, rfl, hrt, hown, hbel⟩ := hrel
    have HOj := Lib.hid hown
    have HBj := Lib.hid hbel
    have HRT := Lib.hid hrt
    have hlen := HF.out k (by rw [← HL.out]; exact hk) hrt
    have HLN := Lib.hid (show (encL (l.take k)).length ≤ 900000 from hlen)
    clear hown hbel hrt hlen
    by_cases hlt : k < n
    · have hne : l ≠ [] := by intro e; have := HL.out; rw [e] at this; simp at this; omega
      obtain ⟨ha, _⟩ := HN.out hne
      subst ha
      obtain ⟨x, hget⟩ : ∃ x, l[k]? = some x := ⟨_, List.getElem?_eq_getElem (by have := HL.out; omega)⟩
      obtain ⟨ao, cp, M, off, c0, c1, c2, hr3, _⟩ := HX.out k _ hget
      have KW := Lib.hid (show Keeps [] w wr from Keeps.ofBelow HBj.out)
      have HS := Lib.hid fun w => r10Right_any w x ao cp _ rfl
      have HRB := Lib.hid fun h => rightL_bad hget h
      have HRK := Lib.hid (rightL_take hget)
      have HE := Lib.hid (encL_take hget)
      by_cases hr : rightW x = true
      · have HR := Lib.hid hr
        have hxl : (bytesW x).length ≤ 4035 := by rw [bytesW_length]; exact sizeW_le hr
        have HXL := Lib.hid hxl
        have HB := Lib.hid fun (W : World) (hk : Keeps [] wr W) => r10Bytes_any W x ao cp M off (hr3.keeps (KW.out.trans hk) (by simp)) hr
        rw [hr] at HS
        have c0 := KW.out.cell c0 (by simp)
        have c1 := KW.out.cell c1 (by simp)
        have c2 := KW.out.cell c2 (by simp)
        have hws := KW.out.size
        clear hget hne hr3 hr hxl
        unfold wvl str bv at *
        generalize ByteArray.mk x.name.toArray = s at *
        generalize (x.flags.toNat : Int) = f at *
        generalize x.code.length = m at *
        generalize hPk : encL (l.take k) = Pk at *
        have HPK := Lib.hid hPk
        clear hPk
        go_upto_region 7 with (go_at_call 9; refine (HS.out _).mono ?_; rintro e w2 ⟨rfl, hk2⟩; have HK2 := Lib.hid hk2; clear hk2)
        have c0 := HK2.out.cell c0 (by simp)
        have c1 := HK2.out.cell c1 (by simp)
        have c2 := HK2.out.cell c2 (by simp)
        have hw2 := HK2.out.size
        have HO2 := Lib.hid (World.ownsRow.keeps HOj.out HK2.out (fun _ _ => List.not_mem_nil))
        have HC := Lib.hid (HB.out w2 HK2.out)
        clear HOj HB
        go_wp2_with (first | (go_at_call 10; refine HC.out.mono ?_; rintro e w3 ⟨v3, rfl, hown3, hk3⟩; have HO3 := Lib.hid (World.ownsRow.keeps HO2.out hk3 (fun _ _ => List.not_mem_nil)); have HK3 := Lib.hid hk3; have hw3 := hk3.size; obtain ⟨M3, hr3, _⟩ := owns_reads hown3 (by omega); have HR3 := Lib.hid hr3; clear hown3 hk3 hr3) | (at_builtin; refine wpList_append_reads rfl _ _ rfl w.heap.size _ Pk rfl HO3.out _ (bytesW x) M3 rfl HR3.out (by have := HLN.out; have := HXL.out; omega) (by omega) ?_; intro v4 w4 hown4 hk4; have HO4 := Lib.hid hown4; have HK4 := Lib.hid hk4; clear hown4 hk4))
        have HO4 := Lib.hid (show w4.ownsRow w.heap.size 5 1 v4 (encL (l.take (k + 1))).length ((encL (l.take (k + 1))).map bv) by have e := HE.out; first | (rw [HPK.out] at e; rw [e]; exact HO4.out) | (rw [e]; exact HO4.out))
        have HB4 := Lib.hid (below_owned (below_keeps (below_keeps HBj.out HK2.out (Nat.le_refl _)) HK3.out (Nat.le_refl _)) HO3.out HK4.out (Nat.le_refl _))
        go_roundw
        case rel => exact ⟨k + 1, by omega, by go_num, by rw [HRK.out, HRT.out, HR.out]; rfl, HO4.out, HB4.out⟩
        case measure => simp [intOf]; omega
      · have hr : rightW x = false := by simpa using hr
        have HR := Lib.hid (HRB.out hr)
        rw [hr] at HS
        have c0 := KW.out.cell c0 (by simp)
        have c1 := KW.out.cell c1 (by simp)
        have c2 := KW.out.cell c2 (by simp)
        clear hget hne hr3 hr
        unfold wvl str bv at *
        generalize ByteArray.mk x.name.toArray = s at *
        generalize (x.flags.toNat : Int) = f at *
        generalize x.code.length = m at *
        go_wp2_with (go_at_call 9; refine (HS.out _).mono ?_; rintro e w2 ⟨rfl, hk2⟩; have HK2 := Lib.hid hk2; clear hk2)
        go_ret2
        exact .inr ⟨HR.out, rfl, KW.out.trans HK2.out⟩
    · have hjk : k = n := by omega
      have e : l.take k = l := by rw [hjk, HL.out]; exact HALL.out
      rw [e] at HOj HRT
      go_wp2
      go_ret2
      exact .inl ⟨HRT.out, _, rfl, HOj.out, Keeps.ofBelow HBj.out⟩
end Go.Proofs.Yteaikbchbahdjaa
