/-
  ImageOwn, walked.
-/
import Derived.Test.YteaikbchbahdjaaImRows
namespace Go.Proofs.Yteaikbchbahdjaa
open Go.RowKit Go.Deep
set_option linter.unusedVariables false

/-- The blocks from a to b. -/
def rng (a b : Nat) : List Nat := (List.range b).filter (fun k => decide (a ≤ k))
theorem mem_rng {a b k : Nat} : k ∈ rng a b ↔ a ≤ k ∧ k < b := by unfold rng; simp; omega

/-- The codes of words, whatever they hold, in blocks from s1 to s2. -/
def Codes (w : World) (s1 s2 : Nat) (L : List (Wd × Value)) : Prop :=
  ∀ p ∈ L, ∃ (M : Nat) (cs : List (BitVec 32)), p.2 = .slice (some ⟨M, 0, none⟩) p.1.code.length p.1.code.length ∧ cs.length = p.1.code.length ∧ Whole w M 44 (cs.map uv) ∧ s1 ≤ M ∧ M < s2 ∧ p.1.code.length ≤ 1000

theorem Codes.of {w : World} {s1 : Nat} {L : List (Wd × Value)} (h : ∀ p ∈ L, Got true w s1 p.1 p.2) : Codes w s1 w.heap.size L := by
  intro p hp
  obtain ⟨a, cap, M, off, hv, h1, h2, h3, h4⟩ := h p hp
  obtain ⟨h5, h6, h7⟩ := h4 rfl
  exact ⟨M, p.1.code, h5, rfl, h6, h7, h6.lt, (right_bounds h3).2.2.2⟩

theorem Codes.next {w w' : World} {s1 s2 : Nat} {L : List (Wd × Value)} (h : Codes w s1 s2 L) (hk : Keeps [] w w') : Codes w' s1 s2 L := by
  intro p hp
  obtain ⟨M, cs, h1, h2, h3, h4⟩ := h p hp
  exact ⟨M, cs, h1, h2, h3.keeps hk (by simp), h4⟩

theorem Codes.set {w : World} {s1 s2 : Nat} {L : List (Wd × Value)} (h : Codes w s1 s2 L) (M i : Nat) (u : BitVec 32) : Codes (w.setCell ⟨M, i, none⟩ (uv u)) s1 s2 L := by
  intro p hp
  obtain ⟨M', cs, h1, h2, h3, h4⟩ := h p hp
  by_cases e : M' = M
  · subst e
    refine ⟨M', cs.set i u, h1, by rw [List.length_set]; exact h2, ?_, h4⟩
    rw [List.map_set]
    exact h3.set i (uv u)
  · exact ⟨M', cs, h1, h2, h3.keeps (S := [M]) (Keeps.setCell _ (by simp) _) (by simpa using e), h4⟩

/-- A row of words is none of the codes' blocks. -/
theorem row_stays {w : World} {base n M i : Nat} {v : Value} {xs cs : List Value} (h : w.ownsRow base 27 3 v n xs) (hM : Whole w M 44 cs) (u : Value) : (w.setCell ⟨M, i, none⟩ u).ownsRow base 27 3 v n xs := by
  refine World.ownsRow.keeps (S := [M]) h (Keeps.setCell _ (by simp) _) (fun g hg hm => ?_)
  have e : g = M := by simpa using hm
  subst e
  exact own_not_u32 h g (by simp [hg]) _ _ hM

theorem own_lt {w : World} {base n size : Nat} {T : TypeId} {v : Value} {xs : List Value} (h : w.ownsRow base T size v n xs) : ∀ g ∈ v.ownBlock.toList, base ≤ g ∧ g < w.heap.size := by
  intro k hk
  have e2 : v.ownBlock = some k := by simpa using hk
  rcases h.2 with ⟨rfl, _⟩ | ⟨g, cap, cur, rfl, hb, hg, _⟩
  · cases e2
  · have : g = k := by simpa [Value.ownBlock] using e2
    subst this
    exact ⟨hb, (Array.getElem?_eq_some_iff.1 hg).1⟩

theorem addU (c : BitVec 32) : ((c.toNat : Int) + 1) % 4294967296 = ((c + 1#32).toNat : Int) := by rw [BitVec.toNat_add]; simp
theorem addUm (c : BitVec 32) : IntKind.u32.wrap ((c.toNat : Int) + 1) = ((c + 1#32).toNat : Int) := addU c
theorem addB (c : UInt8) : ((c.toNat : Int) + 1) % 256 = ((c + 1).toNat : Int) := by rw [UInt8.toNat_add]; simp
theorem addBm (c : UInt8) : IntKind.u8.wrap ((c.toNat : Int) + 1) = ((c + 1).toNat : Int) := addB c

set_option maxRecDepth 100000 in
set_option maxHeartbeats 2000000 in
theorem ImageOwn_long (w : World) (a : Option Addr) (n c : Nat) (h : 15 < n) : Calls Try.prog 7 #[.slice a n c] w fun e w' => e = .returned (.bool true) ∧ Keeps [] w w' := by
  have hn' : (15 : Int) < (n : Int) := by omega
  go_enter Try.func7, Try.ntmps7
  go_wp2_with (go_at_call 8; refine (awake10_any _).mono ?_; rintro e w' ⟨rfl, hk⟩)
  go_ret
  exact ⟨rfl, hk⟩

set_option maxRecDepth 100000 in
set_option maxHeartbeats 2000000 in
theorem ImageOwn_wrong (w : World) (P : Nat → Prop) (a : Option Addr) (n c : Nat) (l : List Wd) (hl : WordsIn w P (.slice a n c) l) (h : n ≤ 15) (hr : rightL l = false) : Calls Try.prog 7 #[.slice a n c] w fun e w' => e = .returned (.bool true) ∧ Keeps [] w w' := by
  have hn' : ¬ (15 : Int) < (n : Int) := by omega
  have HR := Lib.hid (right10_any w P _ l hl false hr)
  clear hl hr
  go_enter Try.func7, Try.ntmps7
  go_wp2_with (first
    | (go_at_call 22; refine HR.out.mono ?_; rintro e w1 ⟨rfl, hk1⟩; have K1 := Lib.hid hk1; clear hk1)
    | (go_at_call 8; refine (awake10_any _).mono ?_; rintro e w2 ⟨rfl, hk2⟩; have K2 := Lib.hid (K1.out.trans hk2); clear hk2))
  go_ret
  exact ⟨rfl, K2.out⟩

set_option maxRecDepth 100000 in
set_option maxHeartbeats 4000000 in
theorem ImageOwn_right (w : World) (a : Option Addr) (n c : Nat) (l : List Wd) (hl : WordsIn w (fun k => k < w.heap.size) (.slice a n c) l) (hn : n = l.length) (h : n ≤ 15) (hr : rightL l = true) : Calls Try.prog 7 #[.slice a n c] w fun e w' => e = .returned (.bool true) ∧ Keeps [] w w' := by
  have hn' : ¬ (15 : Int) < (n : Int) := by omega
  have HR := Lib.hid (right10_any w _ _ l hl true hr)
  have HE := Lib.hid fun (W : World) (hk : Keeps [] w W) => Encode_right W _ _ l (hl.next hk) (fits_few (by omega)) hr
  have hsz := sizeL_le hr
  have HDE := Lib.hid fun (W : World) (v : Value) (M : Nat) (h : Reads W v (encL l) M) => Decode_ok W v (encL l) M h (by unfold sizeL at hsz; omega) l (dec_right l hr)
  have HWL := Lib.hid hl
  have HN := Lib.hid hn
  have HSZ := Lib.hid hsz
  clear hl hr hn hsz
  go_enter Try.func7, Try.ntmps7
  go_upto_region 4 with (first
    | (go_at_call 22; refine HR.out.mono ?_; rintro e w0 ⟨rfl, hk0⟩; have K0 := Lib.hid hk0; clear hk0)
    | (go_at_call 15; refine (HE.out _ K0.out).mono ?_; rintro e w1 ⟨v1, rfl, ho1, hk1⟩; have HO1 := Lib.hid ho1; have K1 := Lib.hid hk1; clear ho1 hk1))
  obtain ⟨M1, hr1, hM1⟩ := owns_reads2 HO1.out
  have c1 := conv_reads hr1
  have HR1 := Lib.hid hr1
  have HM1 := Lib.hid hM1
  have HDA := Lib.hid (HDE.out w1 v1 M1 hr1)
  have HDB := Lib.hid fun (W : World) (hk : Keeps [] w1 W) => HDE.out W v1 M1 (hr1.keeps hk (by simp))
  clear hr1 hM1
  go_upto_region 6 with (go_at_call 17; refine HDA.out.mono ?_; rintro e w2 ⟨L2, v2, hL2, rfl, hw2, hl2, hk2⟩; have HL2 := Lib.hid hL2; have HW2 := Lib.hid hw2; have K2 := Lib.hid hk2; clear hL2 hw2 hl2 hk2)
  clear c1
  go_upto_region 7 with (go_at_call 17; refine (HDB.out _ K2.out).mono ?_; rintro e w3 ⟨L3, v3, hL3, rfl, hw3, hl3, hk3⟩; have HL3 := Lib.hid hL3; have HW3 := Lib.hid hw3; have K3 := Lib.hid hk3; clear hL3 hw3 hl3 hk3)
  have HX3 := Lib.hid (HW3.out.words (by have := congrArg List.length HL3.out; rw [List.length_map, ← HN.out] at this; unfold maxLen; omega))
  rw [HL3.out] at HX3
  have HLN := Lib.hid (show L2.length = n by have := congrArg List.length HL2.out; rw [List.length_map, ← HN.out] at this; exact this)
  have HCO := Lib.hid ((Codes.of HW2.out.got).next K3.out)
  have HRW := Lib.hid (HW2.out.next K3.out).row
  obtain ⟨s1, hs1⟩ : ∃ s1, s1 = w1.heap.size := ⟨_, rfl⟩
  obtain ⟨s2, hs2⟩ : ∃ s2, s2 = w2.heap.size := ⟨_, rfl⟩
  rw [← hs1, ← hs2] at HCO
  rw [← hs1] at HRW
  rw [← hs2] at HX3
  have HS := Lib.hid (show w.heap.size ≤ s1 ∧ s1 ≤ s2 ∧ s2 ≤ w3.heap.size by have := K0.out.size; have := K1.out.size; have := K2.out.size; have := K3.out.size; omega)
  have HR3 := Lib.hid (HR1.out.keeps (K2.out.trans K3.out) (by simp))
  have HO3 := Lib.hid (World.ownsRow.keeps HO1.out (K2.out.trans K3.out) (fun _ _ => List.not_mem_nil))
  have HOB := Lib.hid (show ∀ g ∈ v1.ownBlock.toList, w.heap.size ≤ g ∧ g < s1 from fun g hg => by have := own_lt HO1.out g hg; have := K0.out.size; omega)
  have HMS := Lib.hid (show encL l ≠ [] → M1 < s1 from fun hne => by rw [hs1]; exact (HM1.out hne).2)
  have KW3 := Lib.hid (((K0.out.trans K1.out).trans K2.out).trans K3.out)
  have HWS := Lib.hid (show w.heap.size ≤ s1 from HS.out.1)
  obtain ⟨a2, c2, hv2⟩ := owns_shape2 HRW.out
  rw [HLN.out] at hv2
  obtain ⟨xs2, hxs2⟩ : ∃ xs2, L2.flatMap wcells = xs2 := ⟨_, rfl⟩
  rw [HLN.out, hxs2] at HRW
  have HXS := Lib.hid hxs2
  obtain ⟨la, hla⟩ : ∃ la, (encL l).length = la := ⟨_, rfl⟩
  obtain ⟨a1, cap1, hv1⟩ := owns_shape2 HO3.out
  rw [hla] at hv1 HO3
  have HLA := Lib.hid hla
  have HLB := Lib.hid (show la ≤ 1000000 by rw [← hla]; have := HN.out; have := HSZ.out; unfold sizeL at this; omega)
  clear HW2 HW3 HL2 HL3 HDA HDB HDE HE HR HM1 HR1 hs1 hs2 K1 K2 K3 hxs2 hla HO1
  subst hv2 hv1
  go_wp2
  go_loopw [11, 12, 43] (fun _ _ z wr => ∃ j : Nat, j ≤ n ∧ z = .int .i64 j ∧ Codes wr s1 s2 L2 ∧ wr.ownsRow s1 27 3 (.slice a2 n c2) n xs2 ∧ Keeps (rng s1 s2) w3 wr) (fun _ _ z _ => n - (intOf z).toNat)
  case atStart => exact ⟨0, Nat.zero_le _, rfl, HCO.out, HRW.out, Keeps.refl _ _⟩
  case round =>
    obtain ⟨j, hj, rfl, hco, hrow, hkr⟩ := hrel
    have HCR := Lib.hid hco
    have HRR := Lib.hid hrow
    have KR := Lib.hid hkr
    clear hco hrow hkr
    by_cases hlt : j < n
    · have hltI : (j : Int) < (n : Int) := by omega
      obtain ⟨g, hag⟩ : ∃ g, a2 = some ⟨g, 0, none⟩ := by
        rcases HRR.out.2 with ⟨hv, _⟩ | ⟨g, cap, cur, hv, _⟩
        · injection hv with _ hv _; omega
        · injection hv with hv _ _; exact ⟨g, hv⟩
      subst hag
      obtain ⟨p, hget⟩ : ∃ p, L2[j]? = some p := ⟨_, List.getElem?_eq_getElem (by have := HLN.out; omega)⟩
      obtain ⟨M, cs, hp2, hcl, hW, hs1M, hMs2, hcl2⟩ := HCR.out p (List.mem_of_getElem? hget)
      have hcell : ∀ i u, xs2[i]? = some u → wr.cell? ⟨g, i, none⟩ = some u := by
        intro i u hu
        have := HRR.out.cells (g := g) (by rfl) i u hu
        rwa [Addr.add_off, Nat.zero_add] at this
      have d0 := hcell (j * 3) (str p.1.name) (by rw [← HXS.out]; have := wcells_at hget 0 (by decide); rw [Nat.add_zero] at this; rw [this]; rfl)
      have d1 := hcell (j * 3 + 1) (bv p.1.flags) (by rw [← HXS.out, wcells_at hget 1 (by decide)]; rfl)
      have d2 := hcell (j * 3 + 2) p.2 (by rw [← HXS.out, wcells_at hget 2 (by decide)]; rfl)
      rw [hp2] at d2
      have HGET := Lib.hid hget
      have HP2 := Lib.hid hp2
      have HSM := Lib.hid (And.intro hs1M hMs2)
      obtain ⟨cl, hcle⟩ : ∃ cl, p.1.code.length = cl := ⟨_, rfl⟩
      rw [hcle] at d2 HP2 hcl2
      have HCL := Lib.hid hcle
      unfold str at d0
      unfold bv at d1
      generalize ByteArray.mk p.1.name.toArray = t at d0
      generalize (p.1.flags.toNat : Int) = f at d1
      have KR0 := KR
      clear hget hcell hp2 hs1M hMs2 hW hcl hcle
      go_upto_region 10 with fail
      generalize hU : World.alloc wr _ = U
      obtain ⟨B, hB⟩ : ∃ B, B = wr.heap.size := ⟨_, rfl⟩
      have HWU := Lib.hid (show Whole U B 27 [.string t, .int .u8 f, .slice (some ⟨M, 0, none⟩) cl cl] by rw [← hU, hB]; exact Whole.new wr 27 [.string t, .int .u8 f, .slice (some ⟨M, 0, none⟩) cl cl])
      have KU := Lib.hid (show Keeps [] wr U by rw [← hU]; exact Keeps.alloc _ _ _)
      have HBS := Lib.hid (show s2 ≤ B by have := KR.out.size; have := HS.out; omega)
      rw [← hB]
      have b2 := HWU.out.cell 2
      simp only [List.getElem?_cons_zero, List.getElem?_cons_succ] at b2
      clear hU hB d0 d1 d2
      go_wp2
      go_loopw [12, 50] (fun _ z wi => ∃ k : Nat, k ≤ cl ∧ z = .int .i64 k ∧ Codes wi s1 s2 L2 ∧ wi.ownsRow s1 27 3 (.slice (some ⟨g, 0, none⟩) n c2) n xs2 ∧ Keeps (rng s1 s2) w3 wi ∧ Whole wi B 27 [.string t, .int .u8 f, .slice (some ⟨M, 0, none⟩) cl cl]) (fun _ z _ => cl - (intOf z).toNat)
      case atStart => exact ⟨0, Nat.zero_le _, rfl, HCR.out.next KU.out, World.ownsRow.keeps HRR.out KU.out (fun _ _ => List.not_mem_nil), KR.out.then (T := []) KU.out (by simp), HWU.out⟩
      case round =>
        obtain ⟨k, hk, rfl, hco, hrow, hkr, hbox⟩ := hrel
        have HCI := Lib.hid hco
        have HRI := Lib.hid hrow
        have KI := Lib.hid hkr
        have HBI := Lib.hid hbox
        clear hco hrow hkr hbox b2
        by_cases hlk : k < cl
        · have hlkI : (k : Int) < (cl : Int) := by omega
          obtain ⟨M', cs, hq2, hqc, hqW, hqs1, hqs2, _⟩ := HCI.out p (List.mem_of_getElem? HGET.out)
          have hMM : M' = M := by
            rw [HP2.out] at hq2
            injection hq2 with e1 _ _
            injection e1 with e1
            injection e1 with e1 _ _
            exact e1.symm
          subst hMM
          obtain ⟨x, hx⟩ : ∃ x, cs[k]? = some x := ⟨_, List.getElem?_eq_getElem (by rw [hqc, HCL.out]; exact hlk)⟩
          have m0 : wr.cell? ⟨M', k, none⟩ = some (uv x) := by rw [hqW.cell, List.getElem?_map, hx]; rfl
          have mf := hqW.frozen k
          have b2 := HBI.out.cell 2
          simp only [List.getElem?_cons_zero, List.getElem?_cons_succ] at b2
          have a5 := addU x
          have a6 := addUm x
          have HUV := Lib.hid (show Value.int .u32 (((x + 1#32).toNat : Int)) = uv (x + 1#32) from rfl)
          have HCI2 := Lib.hid (HCI.out.set M' k (x + 1#32))
          have HRI2 := Lib.hid (row_stays (i := k) HRI.out hqW (uv (x + 1#32)))
          have KI2 := Lib.hid (KI.out.trans (Keeps.setCell wr (S := rng s1 s2) (p := ⟨M', k, none⟩) (by rw [mem_rng]; exact ⟨hqs1, hqs2⟩) (uv (x + 1#32))))
          have HBI2 := Lib.hid (HBI.out.keeps (S := [M']) (Keeps.setCell wr (p := ⟨M', k, none⟩) (by simp) (uv (x + 1#32))) (by have := HBS.out; simp; omega))
          clear hx hqW hq2 hqc hqs1 hqs2
          unfold uv at m0 HUV HCI2 HRI2 KI2 HBI2
          generalize (((x + 1#32).toNat : Nat) : Int) = y2 at *
          generalize ((x.toNat : Nat) : Int) = y1 at *
          go_wp2
          go_roundw
          case rel => first | exact ⟨k + 1, by omega, by go_num, HCI2.out, HRI2.out, KI2.out, HBI2.out⟩ | trace_state
          case measure => simp [intOf]; omega
        · have hge : ¬ (k : Int) < (cl : Int) := by omega
          clear hk
          go_wp2
          go_roundw
          case rel => first | exact ⟨j + 1, by omega, by go_num, HCI.out, HRI.out, KI.out⟩ | ((repeat apply Exists.intro); exact ⟨⟨j + 1, by omega, by go_num, HCI.out, HRI.out, KI.out⟩, rfl⟩)
          case measure => simp [intOf]; omega
    · have hge : ¬ (j : Int) < (n : Int) := by omega
      have HRN := Lib.hid (show Keeps (rng s1 s2) w3 wr from KR.out)
      have c1 := conv_reads (HR3.out.keepsIf KR.out (fun hne => by rw [mem_rng]; have := HMS.out hne; omega))
      have HOW := Lib.hid (World.ownsRow.keeps HO3.out KR.out (fun g hg hm => by rw [mem_rng] at hm; have := HOB.out g (by simpa using hg); omega))
      have HXW := Lib.hid (HX3.out.keeps KR.out (fun q hq hm => by rw [mem_rng] at hm; have := hq.1; omega))
      have HWW := Lib.hid ((HWL.out.next KW3.out).keeps KR.out (fun q hq hm => by rw [mem_rng] at hm; have := HWS.out; omega))
      have KWW := Lib.hid (KW3.out.then KR.out (fun q hq => .inr (by rw [mem_rng] at hq; have := HWS.out; omega)))
      clear hj HO3 HR3 HX3 HWL KW3 KR HRR HCR
      go_wp2
      go_loopw [14, 68] (fun _ z wi => ∃ i : Nat, i ≤ la ∧ z = .int .i64 i ∧ Keeps (Value.slice a1 la cap1).ownBlock.toList wr wi ∧ ∃ xs : List UInt8, xs.length = la ∧ ∀ g, a1 = some ⟨g, 0, none⟩ → Row wi g 5 (xs.map bv) cap1) (fun _ z _ => la - (intOf z).toNat)
      case atStart => exact ⟨0, Nat.zero_le _, rfl, Keeps.refl _ _, encL l, HLA.out, fun g hg => by subst hg; exact Row.ofOwnsAt HOW.out⟩
      case round =>
        obtain ⟨i, hi, rfl, hkw, xs, hxl, hrow⟩ := hrel
        have KQ := Lib.hid hkw
        clear hkw
        by_cases hil : i < la
        · have hilI : (i : Int) < (la : Int) := by omega
          have hlb0 := HLB.out
          obtain ⟨g, hag⟩ : ∃ g, a1 = some ⟨g, 0, none⟩ := by
            rcases HOW.out.2 with ⟨hv, _⟩ | ⟨g, cap, cur, hv, _⟩
            · injection hv with _ hv _; omega
            · injection hv with hv _ _; exact ⟨g, hv⟩
          subst hag
          obtain ⟨x, hx⟩ : ∃ x, xs[i]? = some x := ⟨_, List.getElem?_eq_getElem (by omega)⟩
          have hr := hrow g rfl
          have m0 := hr.cell i (show (xs.map bv)[i]? = some (bv x) by rw [List.getElem?_map, hx]; rfl)
          have mf := hr.frozen i
          have a5 := addB x
          have a6 := addBm x
          have HR2 := Lib.hid (hr.set i (bv (x + 1)))
          rw [show (xs.map bv).set i (bv (x + 1)) = (xs.set i (x + 1)).map bv from List.map_set.symm] at HR2
          have KQ2 := Lib.hid (KQ.out.trans (Keeps.setCell wr (S := (Value.slice (some ⟨g, 0, none⟩) la cap1).ownBlock.toList) (p := ⟨g, i, none⟩) (by simp [Value.ownBlock]) (bv (x + 1))))
          have HXL := Lib.hid (show (xs.set i (x + 1)).length = la by rw [List.length_set]; exact hxl)
          clear hx hr hrow hxl
          unfold bv at m0 KQ2
          rw [show bv (x + 1) = .int .u8 ((x + 1).toNat : Int) from rfl] at HR2
          generalize (((x + 1).toNat : Nat) : Int) = y2 at *
          generalize ((x.toNat : Nat) : Int) = y1 at *
          go_wp2
          go_roundw
          case rel => first | exact ⟨i + 1, by omega, by go_num, KQ2.out, xs.set i (x + 1), HXL.out, fun g' hg' => by (injection hg' with e1; injection e1 with e1 _ _; subst e1; exact HR2.out)⟩ | trace_state
          case measure => simp [intOf]; omega
        · have hge : ¬ (i : Int) < (la : Int) := by omega
          have HXF := Lib.hid (HXW.out.keeps KQ.out (fun q hq hm => by have := HOB.out q hm; have := HS.out; omega))
          have HWF := Lib.hid (HWW.out.keeps KQ.out (fun q hq hm => by have := HOB.out q hm; omega))
          have KF := Lib.hid (KWW.out.then KQ.out (fun q hq => .inr (HOB.out q hq).1))
          clear hrow hxl
          go_wp2_with (first
            | (go_at_call 19; refine (All_any _ _ _ _ _ _ _ HXF.out HWF.out true ((all_iff _ _).2 rfl)).mono ?_; rintro e w8 ⟨rfl, hk8⟩; have K8 := Lib.hid (KF.out.trans hk8); clear hk8)
            | (go_at_call 8; refine (awake10_any _).mono ?_; rintro e w9 ⟨rfl, hk9⟩; have K9 := Lib.hid (K8.out.trans hk9); clear hk9))
          go_ret
          exact ⟨rfl, K9.out⟩

theorem ImageOwn_any (w : World) (v : Value) (l : List Wd) (hl : WordsIn w (fun k => k < w.heap.size) v l) : Calls Try.prog 7 #[v] w fun e w' => e = .returned (.bool true) ∧ Keeps [] w w' := by
  obtain ⟨a, c, rfl, _⟩ := hl.shape
  by_cases h : l.length ≤ 15
  · cases hr : rightL l with
    | true => exact ImageOwn_right w a _ c l hl rfl h hr
    | false => exact ImageOwn_wrong w _ a _ c l hl h hr
  · exact ImageOwn_long w a _ c (by omega)
end Go.Proofs.Yteaikbchbahdjaa
