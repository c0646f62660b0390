/-
  Words as bytes: the chapter's examples.
-/
import Derived.Test.YteaikbchbahdjaaImDec
import Derived.Test.YteaikbchbahdjaaImSame
import Derived.Test.YteaikbchbahdjaaImFind
namespace Go.Proofs.Yteaikbchbahdjaa
open Go.RowKit Go.Deep
set_option linter.unusedVariables false

theorem Encode_right (w : World) (P : Nat → Prop) (v : Value) (l : List Wd) (h : WordsIn w P v l) (hf : fits10 l) (hr : rightL l = true) :
    Calls Try.prog 15 #[v] w fun e w' => ∃ v', e = .returned (.tuple #[v', .int .i64 0]) ∧ w'.ownsRow w.heap.size 5 1 v' (encL l).length ((encL l).map bv) ∧ Keeps [] w w' :=
  (Encode_any w P v l h hf).mono fun e w' h => by
    rcases h with ⟨_, h⟩ | ⟨h, _⟩
    · exact h
    · rw [hr] at h; cases h

theorem Encode_wrong (w : World) (P : Nat → Prop) (v : Value) (l : List Wd) (h : WordsIn w P v l) (hf : fits10 l) (hr : rightL l = false) :
    Calls Try.prog 15 #[v] w fun e w' => e = .returned (.tuple #[.slice none 0 0, .int .i64 100]) ∧ Keeps [] w w' :=
  (Encode_any w P v l h hf).mono fun e w' h => by
    rcases h with ⟨h, _⟩ | ⟨_, h⟩
    · rw [hr] at h; cases h
    · exact h

theorem Decode_ok (w : World) (v : Value) (b : List UInt8) (M : Nat) (hr : Reads w v b M) (hb : b.length ≤ 1000000) (m : List Wd) (hd : decL b = some m) :
    Calls Try.prog 17 #[v] w fun e w' => ∃ l v', l.map (·.1) = m ∧ e = .returned (.tuple #[v', .int .i64 0]) ∧ WordsOwn true w' w.heap.size v' l ∧ m.length ≤ b.length ∧ Keeps [] w w' :=
  (Decode_said w v b M hr hb).mono fun e w' h => by
    rcases h with ⟨l, v', h1, h2, h3, h4, h5⟩ | ⟨h, _⟩
    · rw [hd] at h1
      injection h1 with h1
      exact ⟨l, v', h1.symm, h2, h3, by rw [h1, List.length_map]; exact h4, h5⟩
    · rw [hd] at h; cases h

theorem Decode_bad (w : World) (v : Value) (b : List UInt8) (M : Nat) (hr : Reads w v b M) (hb : b.length ≤ 1000000) (hd : decL b = none) :
    Calls Try.prog 17 #[v] w fun e w' => e = .returned (.tuple #[.slice none 0 0, .int .i64 100]) ∧ Keeps [] w w' :=
  (Decode_said w v b M hr hb).mono fun e w' h => by
    rcases h with ⟨l, v', h1, _⟩ | ⟨_, h⟩
    · rw [hd] at h1; cases h1
    · exact h

/-- Words in a block that has just been made. -/
theorem words_lit {w : World} {P : Nat → Prop} {g n : Nat} (l : List (Wd × Value)) (h : Whole w g 27 (l.flatMap wcells)) (hn : n = l.length) (hm : n ≤ 1000) (hP : P g)
    (hc : ∀ p ∈ l, ∃ a cap M off, p.2 = .slice a p.1.code.length cap ∧ UReads w p.2 p.1.code M off ∧ (p.1.code ≠ [] → P M) ∧ p.1.name.length ≤ maxLen ∧ p.1.code.length ≤ maxLen) : WordsIn w P (.slice (some ⟨g, 0, none⟩) n n) (l.map (·.1)) := by
  subst hn
  refine ⟨some ⟨g, 0, none⟩, l.length, g, 0, by rw [List.length_map], by rw [List.length_map]; exact Nat.le_refl _, by rw [List.length_map]; unfold maxLen; omega, fun _ => ⟨rfl, hP⟩, fun i x hx => ?_⟩
  rw [List.getElem?_map] at hx
  obtain ⟨p, hp, rfl⟩ := Option.map_eq_some_iff.1 hx
  obtain ⟨a, cp, M, off, hv, h1, h2, h3, h4⟩ := hc p (List.mem_of_getElem? hp)
  refine ⟨a, cp, M, off, ?_, ?_, ?_, hv ▸ h1, h2, h3, h4⟩
  · rw [Nat.zero_add, h.cell]
    have := wcells_at hp 0 (by decide)
    rw [Nat.add_zero] at this
    rw [this]; rfl
  · rw [Nat.zero_add, h.cell, wcells_at hp 1 (by decide)]; rfl
  · rw [Nat.zero_add, h.cell, wcells_at hp 2 (by decide), ← hv]; rfl

def plusW : Wd := ⟨[43], 1, [7#32]⟩
def dupU : Wd := ⟨[68, 85, 80], 0, []⟩
def dupL : Wd := ⟨[68, 117, 112], 0, []⟩

theorem plus_enc : encL [plusW] = [1, 1, 1, 0, 43, 7, 0, 0, 0] := by decide
theorem plus_right : rightL [plusW] = true := by decide
theorem plus_dec : decL (encL [plusW]) = some [plusW] := dec_right _ plus_right
theorem plus_cut : decL ((encL [plusW]).take 8) = none := by
  have := dec_cut [] rfl plusW (by decide) 8 (by decide) (by decide)
  exact this

set_option maxRecDepth 100000 in
set_option maxHeartbeats 4000000 in
theorem awake10_any (w : World) : Calls Try.prog 8 #[] w fun e w' => e = .returned (.bool true) ∧ Keeps [] w w' := by
  have HE := Lib.hid fun (w : World) (v : Value) (h : WordsIn w (fun _ => True) v [plusW]) => Encode_right w _ v [plusW] h (fits_few (by decide)) plus_right
  have HEN := Lib.hid plus_enc
  have HD := Lib.hid fun (w : World) (v : Value) (M : Nat) (h : Reads w v (encL [plusW]) M) => Decode_ok w v _ M h (by rw [plus_enc]; decide) _ plus_dec
  go_enter Try.func8, Try.ntmps8
  go_upto_region 2 with fail
  generalize hV : World.alloc (World.alloc w _) _ = V
  have W7 := Lib.hid (show Whole V w.heap.size 44 [.int .u32 7] by rw [← hV]; exact (Whole.new w 44 _).keeps (Keeps.alloc [] _ _) (by simp))
  have WP := Lib.hid (show Whole V (w.heap.size + 1) 27 [.string ⟨#[43]⟩, .int .u8 1, .slice (some ⟨w.heap.size, 0, none⟩) 1 1] by rw [← hV]; exact Whole.new_at (w.alloc _) 27 _ _ (by simp))
  have KV := Lib.hid (show Keeps [] w V by rw [← hV]; exact (Keeps.alloc [] _ _).trans (Keeps.alloc [] _ _))
  clear hV
  have hws : w.heap.size + 1 < V.heap.size := WP.out.lt
  have p0 := WP.out.cell 0
  have p1 := WP.out.cell 1
  have p2 := WP.out.cell 2
  simp only [List.getElem?_cons_zero, List.getElem?_cons_succ] at p0 p1 p2
  have HU := Lib.hid (show UReads V (.slice (some ⟨w.heap.size, 0, none⟩) 1 1) [7#32] w.heap.size 0 from .inr ⟨_, _, rfl, Nat.le_refl _, fun _ => rfl, fun i c hi => by rw [Nat.zero_add, W7.out.cell]; match i, hi with | 0, hi => (simp at hi; subst hi; rfl) | i + 1, hi => simp at hi⟩)
  have HW1 := Lib.hid (show WordsIn (V.alloc (.cells #[.string ⟨#[43]⟩, .int .u8 1, .slice (some ⟨w.heap.size, 0, none⟩) 1 1] 27)) (fun _ => True) (.slice (some ⟨V.heap.size, 0, none⟩) 1 1) [plusW] from
    words_lit [(plusW, .slice (some ⟨w.heap.size, 0, none⟩) 1 1)] (Whole.new V 27 [.string ⟨#[43]⟩, .int .u8 1, .slice (some ⟨w.heap.size, 0, none⟩) 1 1]) rfl (by decide) trivial (fun p hp => by
      simp at hp; subst hp
      exact ⟨some ⟨w.heap.size, 0, none⟩, 1, w.heap.size, 0, rfl, HU.out.keeps (Keeps.alloc [] _ _) (by simp), fun _ => trivial, (show plusW.name.length ≤ maxLen by decide), (show plusW.code.length ≤ maxLen by decide)⟩))
  clear W7
  go_upto_region 3 with (go_at_call 15; refine (HE.out _ _ HW1.out).mono ?_; rintro e w2 ⟨v2, rfl, hown2, hk2⟩; have HO2 := Lib.hid hown2; have HK2 := Lib.hid ((Keeps.alloc [] V _).trans hk2); have hz2 := hk2.size; clear hown2 hk2)
  simp at hz2
  obtain ⟨M2, hr2, _⟩ := owns_reads HO2.out (by omega)
  obtain ⟨a2, c2, hv2, _⟩ := hr2.shape
  have HR2 := Lib.hid hr2
  have e9 : (encL [plusW]).length = 9 := by rw [HEN.out]; rfl
  rw [e9] at hv2
  subst hv2
  clear hr2 hz2
  go_upto_region 4 with (go_at_call 17; refine (HD.out _ _ _ HR2.out).mono ?_; rintro e w3 ⟨l3, v3, hl3, rfl, hw3, _, hk3⟩; have HL3 := Lib.hid hl3; have HW3 := Lib.hid hw3; have HK3 := Lib.hid hk3; clear hl3 hw3 hk3)
  have HWI := Lib.hid (HW3.out.words (by have := congrArg List.length HL3.out; rw [List.length_map] at this; rw [this]; decide))
  rw [HL3.out] at HWI
  obtain ⟨B3, o3, c3, hv3, hcp, _, _, hB3, hx3⟩ := HWI.out.at (by simp)
  obtain ⟨a4, c4, M4, o4, d0, d1, d2, hu4, _⟩ := hx3 0 plusW rfl
  subst hv3
  rw [Nat.zero_mul, Nat.add_zero] at d0 d1 d2
  have K3 := Lib.hid (HK2.out.trans HK3.out)
  have hp0 : ∀ W, Keeps [] w3 W → W.cell? ⟨w.heap.size + 1, 0, none⟩ = some (.string ⟨#[43]⟩) := fun W hk => (K3.out.trans hk).cell p0 (by simp)
  have hp1 : ∀ W, Keeps [] w3 W → W.cell? ⟨w.heap.size + 1, 1, none⟩ = some (.int .u8 1) := fun W hk => (K3.out.trans hk).cell p1 (by simp)
  have hp2 : ∀ W, Keeps [] w3 W → W.cell? ⟨w.heap.size + 1, 2, none⟩ = some (.slice (some ⟨w.heap.size, 0, none⟩) 1 1) := fun W hk => (K3.out.trans hk).cell p2 (by simp)
  have hd0 : ∀ W, Keeps [] w3 W → W.cell? ⟨B3, o3, none⟩ = some (.string ⟨#[43]⟩) := fun W hk => hk.cell (show w3.cell? ⟨B3, o3, none⟩ = some (.string ⟨#[43]⟩) from d0) (by simp)
  have hd1 : ∀ W, Keeps [] w3 W → W.cell? ⟨B3, o3 + 1, none⟩ = some (.int .u8 1) := fun W hk => hk.cell (show w3.cell? ⟨B3, o3 + 1, none⟩ = some (.int .u8 1) from d1) (by simp)
  have hd2 : ∀ W, Keeps [] w3 W → W.cell? ⟨B3, o3 + 2, none⟩ = some (.slice a4 1 c4) := fun W hk => hk.cell (show w3.cell? ⟨B3, o3 + 2, none⟩ = some (.slice a4 1 c4) from d2) (by simp)
  have hcv : ∀ W, Keeps [] w3 W → (convert 23 9 (.slice a2 9 c2)).run Try.prog W = .ok (.string ⟨#[1, 1, 1, 0, 43, 7, 0, 0, 0]⟩) W := fun W hk => by
    have := conv_reads (HR2.out.keeps (HK3.out.trans hk) (by simp))
    rw [HEN.out] at this
    exact this
  have HSZ := Lib.hid fun (W : World) => (show Calls Try.prog 12 #[.agg #[.string ⟨#[43]⟩, .int .u8 1, .slice (some ⟨w.heap.size, 0, none⟩) 1 1]] W fun e w' => e = .returned (.int .i64 9) ∧ Keeps [] W w' from Size_any W plusW (some ⟨w.heap.size, 0, none⟩) 1 9 rfl)
  have HSM := Lib.hid fun (W : World) (hk : Keeps [] w3 W) => (show Calls Try.prog 23 #[.agg #[.string ⟨#[43]⟩, .int .u8 1, .slice a4 1 c4], .agg #[.string ⟨#[43]⟩, .int .u8 1, .slice (some ⟨w.heap.size, 0, none⟩) 1 1]] W fun e w' => e = .returned (.bool true) ∧ Keeps [] W w' from
    Same_any W plusW plusW a4 c4 M4 o4 (some ⟨w.heap.size, 0, none⟩) 1 w.heap.size 0 (hu4.keeps hk (by simp)) (HU.out.keeps (K3.out.trans hk) (by simp)) (by decide) true ((same_iff _ _).2 rfl))
  have hr9 : Reads w2 (.slice a2 (encL [plusW]).length c2) (encL [plusW]) M2 := by rw [e9]; exact HR2.out
  obtain ⟨p8, c8, hrun8, hr8⟩ := hr9.head 8 (by rw [e9]; decide)
  rw [e9] at hrun8
  have e8 : ((encL [plusW]).take 8).length = 8 := by rw [HEN.out]; rfl
  rw [e8] at hrun8 hr8
  have hrun8' : ∀ w, (Instr.sliceAt 23 (.slice a2 9 c2) none (some (.int .i64 8)) none).run Try.prog w = .ok (.slice p8 8 c8) w := hrun8
  have HR8 := Lib.hid hr8
  have HDB := Lib.hid fun (W : World) (hk : Keeps [] w2 W) => Decode_bad W _ _ M2 (hr8.keeps hk (by simp)) (by rw [e8]; decide) plus_cut
  clear p0 p1 p2 d0 d1 d2 hx3 hu4 e9 hr9 hr8 e8 hrun8
  go_region_held3 (fun W' => Keeps [] w3 W') (first | assumption | exact Keeps.refl [] _ | exact Keeps.drew [] _ | exact Keeps.trans (by assumption) (by assumption) | exact (Keeps.drew [] _).trans (by assumption)) (first | (go_at_call 12; refine (HSZ.out _).mono ?_; rintro e w5 ⟨rfl, hk5⟩) | (go_at_call 23; refine (HSM.out _ (by first | assumption | exact Keeps.refl [] _ | exact Keeps.drew [] _ | exact Keeps.trans (by assumption) (by assumption) | exact (Keeps.drew [] _).trans (by assumption))).mono ?_; rintro e w6 ⟨rfl, hk6⟩))
  have K6 := Lib.hid (((Keeps.drew [] w3).trans hk5).trans hk6)
  have hp0 := hp0 _ K6.out
  have hp1 := hp1 _ K6.out
  have hp2 := hp2 _ K6.out
  have HDC := Lib.hid (HDB.out _ (HK3.out.trans K6.out))
  clear hd0 hd1 hd2 hcv hk5 hk6
  go_upto_region 7 with (go_at_call 17; refine HDC.out.mono ?_; rintro e w7 ⟨rfl, hk7⟩; have HK7 := Lib.hid hk7; have p70 := hk7.cell hp0 (by simp); have p71 := hk7.cell hp1 (by simp); have p72 := hk7.cell hp2 (by simp); clear hk7)
  clear hp0 hp1 hp2
  go_upto_region 8 with fail
  generalize hV8 : World.alloc w7 _ = w8
  have K7 := Lib.hid (K6.out.trans HK7.out)
  have W8 := Lib.hid (show Whole w8 w7.heap.size 27 [.string ⟨#[68, 85, 80]⟩, .int .u8 0, .slice none 0 0, .string ⟨#[43]⟩, .int .u8 1, .slice (some ⟨w.heap.size, 0, none⟩) 1 1, .string ⟨#[68, 117, 112]⟩, .int .u8 0, .slice none 0 0] by rw [← hV8]; exact Whole.new w7 _ _)
  have K8 := Lib.hid (show Keeps [] w7 w8 by rw [← hV8]; exact Keeps.alloc _ _ _)
  clear hV8 p70 p71 p72
  have HWD := Lib.hid (show WordsIn w8 (fun _ => True) (.slice (some ⟨w7.heap.size, 0, none⟩) 3 3) [dupU, plusW, dupL] from
    words_lit [(dupU, .slice none 0 0), (plusW, .slice (some ⟨w.heap.size, 0, none⟩) 1 1), (dupL, .slice none 0 0)] W8.out rfl (by decide) trivial (fun p hp => by
      simp at hp
      rcases hp with rfl | rfl | rfl
      · exact ⟨none, 0, 0, 0, rfl, UReads.nil _ _ _, fun _ => trivial, (show dupU.name.length ≤ maxLen by decide), (show dupU.code.length ≤ maxLen by decide)⟩
      · exact ⟨some ⟨w.heap.size, 0, none⟩, 1, w.heap.size, 0, rfl, HU.out.keeps (((K3.out.trans K7.out)).trans K8.out) (by simp), fun _ => trivial, (show plusW.name.length ≤ maxLen by decide), (show plusW.code.length ≤ maxLen by decide)⟩
      · exact ⟨none, 0, 0, 0, rfl, UReads.nil _ _ _, fun _ => trivial, (show dupL.name.length ≤ maxLen by decide), (show dupL.code.length ≤ maxLen by decide)⟩))
  have A1 := Lib.hid fun (W : World) => (show Calls Try.prog 13 #[.string ⟨#[100, 117, 112]⟩, .string ⟨#[68, 85, 80]⟩] W fun e w' => e = .returned (.bool true) ∧ Keeps [] W w' from (Alike_any W [100, 117, 112] [68, 85, 80] (by decide)).mono fun e w' ⟨he, n, hn⟩ => ⟨he, by rw [hn]; exact Keeps.drewN _ _ _⟩)
  have A2 := Lib.hid fun (W : World) => (show Calls Try.prog 13 #[.string ⟨#[91]⟩, .string ⟨#[123]⟩] W fun e w' => e = .returned (.bool false) ∧ Keeps [] W w' from (Alike_any W [91] [123] (by decide)).mono fun e w' ⟨he, n, hn⟩ => ⟨he, by rw [hn]; exact Keeps.drewN _ _ _⟩)
  have F1 := Lib.hid fun (W : World) (hk : Keeps [] w8 W) => (show Calls Try.prog 20 #[.slice (some ⟨w7.heap.size, 0, none⟩) 3 3, .string ⟨#[100, 117, 112]⟩] W fun e w' => e = .returned (.int .i64 2) ∧ Keeps [] W w' from Find_any W _ _ _ (HWD.out.next hk) [100, 117, 112] 2 (by decide))
  have F2 := Lib.hid fun (W : World) (hk : Keeps [] w8 W) => (show Calls Try.prog 20 #[.slice (some ⟨w7.heap.size, 0, none⟩) 3 3, .string ⟨#[120]⟩] W fun e w' => e = .returned (.int .i64 (-1)) ∧ Keeps [] W w' from Find_any W _ _ _ (HWD.out.next hk) [120] (-1) (by decide))
  have R1 := Lib.hid fun (W : World) => (show Calls Try.prog 11 #[.agg #[.string ⟨#[97, 32, 98]⟩, .int .u8 0, .slice none 0 0]] W fun e w' => e = .returned (.bool false) ∧ Keeps [] W w' from Right_any W ⟨[97, 32, 98], 0, []⟩ none 0 false (by decide))
  have R2 := Lib.hid fun (W : World) => (show Calls Try.prog 11 #[.agg #[.string ⟨#[]⟩, .int .u8 0, .slice none 0 0]] W fun e w' => e = .returned (.bool false) ∧ Keeps [] W w' from Right_any W ⟨[], 0, []⟩ none 0 false (by decide))
  have R3 := Lib.hid fun (W : World) => (show Calls Try.prog 11 #[.agg #[.string ⟨#[49, 50, 51, 52, 53, 54, 55, 56, 57, 48, 49, 50, 51, 52, 53, 54, 55, 56, 57, 48, 49, 50, 51, 52, 53, 54, 55, 56, 57, 48, 49, 50]⟩, .int .u8 0, .slice none 0 0]] W fun e w' => e = .returned (.bool false) ∧ Keeps [] W w' from Right_any W ⟨[49, 50, 51, 52, 53, 54, 55, 56, 57, 48, 49, 50, 51, 52, 53, 54, 55, 56, 57, 48, 49, 50, 51, 52, 53, 54, 55, 56, 57, 48, 49, 50], 0, []⟩ none 0 false (by decide))
  have KW := Lib.hid (((KV.out.trans K3.out).trans K7.out).trans K8.out)
  clear W8 HWD
  go_wp2_with (first
    | (go_at_call_of 13 (Value.string { data := #[100, 117, 112] }); refine (A1.out _).mono ?_; rintro e wa ⟨rfl, ha⟩; have kA := Lib.hid ha; clear ha)
    | (go_at_call_of 13 (Value.string { data := #[91] }); refine (A2.out _).mono ?_; rintro e wb ⟨rfl, hb⟩; have kB := Lib.hid (kA.out.trans hb); clear hb)
    | (go_at_call_of 20 (Value.string { data := #[100, 117, 112] }); refine (F1.out _ kB.out).mono ?_; rintro e wc ⟨rfl, hc⟩; have kC := Lib.hid (kB.out.trans hc); clear hc)
    | (go_at_call_of 20 (Value.string { data := #[120] }); refine (F2.out _ kC.out).mono ?_; rintro e wd ⟨rfl, hd⟩; have kD := Lib.hid (kC.out.trans hd); clear hd)
    | (go_at_call_of 11 (Value.agg #[Value.string { data := #[97, 32, 98] }, Value.int .u8 0, Value.slice none 0 0]); refine (R1.out _).mono ?_; rintro e we ⟨rfl, he⟩; have kE := Lib.hid (kD.out.trans he); clear he)
    | (go_at_call_of 11 (Value.agg #[Value.string { data := #[] }, Value.int .u8 0, Value.slice none 0 0]); refine (R2.out _).mono ?_; rintro e wf ⟨rfl, hf⟩; have kF := Lib.hid (kE.out.trans hf); clear hf)
    | (go_at_call 11; refine (R3.out _).mono ?_; rintro e wg ⟨rfl, hg⟩; have kG := Lib.hid (kF.out.trans hg); clear hg))
  go_ret
  exact ⟨rfl, KW.out.trans kG.out⟩
end Go.Proofs.Yteaikbchbahdjaa
