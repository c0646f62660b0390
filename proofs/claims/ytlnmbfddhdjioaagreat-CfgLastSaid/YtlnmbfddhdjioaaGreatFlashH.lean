/-
  Contracts: spend, let.
-/
import Derived.Test.YtlnmbfddhdjioaaGreatFlashE
import Derived.Test.YtlnmbfddhdjioaaGreatFlashG
namespace Go.Proofs.YtlnmbfddhdjioaaGreat
open Go.RowKit

theorem FlashAt.bytes {w w1 : World} {F B W M : Nat} {s : FS} (h : FlashAt w F B W M s) (bs : List UInt8) (cb : Nat) (hc : w.cell? ⟨F, 1, none⟩ = some (.slice (some ⟨B, 0, none⟩) s.bs.length cb))
    (hr : Row w1 B 5 (bs.map bv) cb) (hl : bs.length = s.bs.length) (hk : Keeps [B] w w1) : FlashAt w1 F B W M { s with bs := bs } := by
  obtain ⟨cb', cw, mv, f, b, c, m⟩ := h.here
  have : cb' = cb := by simpa [World.cell?, f] using hc
  subst this
  refine { h with len := by rw [← h.len]; exact hl, here := ⟨cb', cw, mv, ?_, hr, c.keeps hk (by simpa using Ne.symm h.nBW), m.keeps hk (by simpa using h.nM.2.1)⟩ }
  show w1.heap[F]? = some (.cells #[_, .slice _ bs.length _, _, _, _, _, _] _ _)
  rw [hl]
  exact hk.obj f (by simpa using h.nFB)

theorem FlashAt.left {w : World} {F B W M : Nat} {s : FS} (h : FlashAt w F B W M s) (l : Int) (l0 : 0 ≤ l) (l1 : l ≤ 9223372036854775807) :
    FlashAt (w.setCell ⟨F, 5, none⟩ (.int .i64 l)) F B W M { s with left := l } ∧ Keeps [F] w (w.setCell ⟨F, 5, none⟩ (.int .i64 l)) := by
  obtain ⟨cb, cw, mv, f, b, c, m⟩ := h.here
  have k : Keeps [F] w (w.setCell ⟨F, 5, none⟩ (.int .i64 l)) := Keeps.setCell w (by simp) _
  refine ⟨{ h with left0 := l0, left1 := l1, here := ⟨cb, cw, mv, ?_, b.keeps k (by simpa using Ne.symm h.nFB), c.keeps k (by simpa using Ne.symm h.nFW), m.keeps k (by simpa using h.nM.1)⟩ }, k⟩
  have h1 := heap_setCell_at w F 5 (.int .i64 l) _ _ _ f
  simpa using h1

set_option maxRecDepth 100000 in
set_option maxHeartbeats 400000 in
theorem spend_unarmed (w : World) (F : Nat) (h4 : w.cell? ⟨F, 4, none⟩ = some (.bool false)) :
    Calls Tryz.prog 96 #[.pointer (some ⟨F, 3, none⟩)] w fun e w' => e = .returned (.bool true) ∧ w = w' := by
  go_enter Tryz.func96, Tryz.ntmps96
  go_wp2
  go_ret
  exact ⟨rfl, rfl⟩

set_option maxRecDepth 100000 in
set_option maxHeartbeats 400000 in
theorem spend_zero (w : World) (F : Nat) (h4 : w.cell? ⟨F, 4, none⟩ = some (.bool true)) (h5 : w.cell? ⟨F, 5, none⟩ = some (.int .i64 0)) :
    Calls Tryz.prog 96 #[.pointer (some ⟨F, 3, none⟩)] w fun e w' => e = .returned (.bool false) ∧ w = w' := by
  go_enter Tryz.func96, Tryz.ntmps96
  go_wp2
  go_ret
  exact ⟨rfl, rfl⟩

set_option maxRecDepth 100000 in
set_option maxHeartbeats 400000 in
theorem spend_more (w : World) (F : Nat) (l : Int) (h4 : w.cell? ⟨F, 4, none⟩ = some (.bool true)) (h5 : w.cell? ⟨F, 5, none⟩ = some (.int .i64 l)) (f5 : w.frozen? ⟨F, 5, none⟩ = false) (l0 : 0 < l) (_l1 : l ≤ 9223372036854775807) :
    Calls Tryz.prog 96 #[.pointer (some ⟨F, 3, none⟩)] w fun e w' => e = .returned (.bool true) ∧ w.setCell ⟨F, 5, none⟩ (.int .i64 (l - 1)) = w' := by
  have hb : (l == 0) = false := by simp; omega
  go_enter Tryz.func96, Tryz.ntmps96
  go_wp2
  go_ret
  exact ⟨rfl, rfl⟩

/-- What becomes of a flash that lets an operation through, or tears it: g tells what becomes of a byte, by the bits let through. -/
def FS.let (s : FS) (a n : Nat) (g : UInt8 → Nat → UInt8 → UInt8) : FS × Int :=
  if s.armed = true ∧ s.left = 0 then ({ s with bs := span s.bs a n fun i c => g (s.mask.getD i 0) i c, down := true, armed := false, left := 0, mask := [] }, 12)
  else ({ s with bs := span s.bs a n (g 255), left := if s.armed then s.left - 1 else s.left }, 0)

def gClear (b : List UInt8) (t : UInt8) (i : Nat) (c : UInt8) : UInt8 := clears c t (b.getD i 0)
def gSet (t : UInt8) (_i : Nat) (_c : UInt8) : UInt8 := t

set_option maxRecDepth 100000 in
set_option maxHeartbeats 1000000 in
theorem let_cleared_torn {F B W M : Nat} {s : FS} (w : World) (hF : FlashAt w F B W M s) (a n cap bx Mb offb capb : Nat) (b : List UInt8) (hn : a + n ≤ s.bs.length) (ha : s.armed = true) (hl : s.left = 0) (hb : b.length = n)
    (hx : w.cell? ⟨bx, 0, none⟩ = some (.slice (some ⟨Mb, offb, none⟩) n capb)) (hbx : bx ≠ B ∧ bx ≠ F) (hc : ∀ i c, b[i]? = some c → w.cell? ⟨Mb, offb + i, none⟩ = some (bv c)) (hMb : Mb ≠ B ∧ Mb ≠ F) :
    Calls Tryz.prog 74 #[.pointer (some ⟨F, 0, none⟩), .func (.func 75) #[.agg #[.slice (some ⟨B, a, none⟩) n cap, .func (.func 102) #[] #[.pointer (some ⟨bx, 0, none⟩)]]] #[]] w
      fun e w' => e = .returned (.int .i64 (s.let a n (gClear b)).2) ∧ FlashAt w' F B W M (s.let a n (gClear b)).1 ∧ Keeps [F, B] w w' := by
  obtain ⟨cb, cw, mv, c0, c1, c2, c3, c4, c5, c6, cf, rB, rW, rM⟩ := hF.cells
  have hlen := hF.len
  have hfew := hF.few
  have hbs : s.bs.length ≤ 65536 := by omega
  have Hs := Lib.hid (show s.let a n (gClear b) = ({ s with bs := span s.bs a n fun i c => (gClear b) (s.mask.getD i 0) i c, down := true, armed := false, left := 0, mask := [] }, 12) by unfold FS.let; rw [if_pos ⟨ha, hl⟩])
  rw [ha] at c4
  rw [hl] at c5
  clear ha hl hlen cf
  go_enter Tryz.func74, Tryz.ntmps74
  go_wp2_with (first | (go_at_call 96; refine (spend_zero _ F c4 c5).mono ?_; rintro e w' ⟨rfl, rfl⟩) | (go_at_call 75; refine (done_torn_cleared w B a n cap cb F bx s.bs b s.mask mv M Mb offb capb rB hn hbs hF.maskl hb c6 hF.nFB rM hF.nM.2.1 hx hbx.1 hc hMb.1).mono ?_; rintro e w1 ⟨rfl, hr, hk⟩; have h1 := hF.bytes _ cb c1 hr (span_length _ _ _ _) hk; obtain ⟨cb', cw', mv', d0, d1, d2, d3, d4, d5, d6, df, _, _, _⟩ := h1.cells; have g3 := df 3; have g4 := df 4; have g5 := df 5; have g6 := df 6; have HK := Lib.hid hk; have H1 := Lib.hid h1; clear df hr hk h1) | fail)
  go_ret
  have fin := H1.out.power true false 0 (.slice none 0 0) [] M (by omega) (by omega) (by simp) hF.nM (Reads.nil _ _)
  rw [Hs.out]
  exact ⟨rfl, fin.1, (HK.out.mono (by simp)).trans (fin.2.mono (by simp))⟩

set_option maxRecDepth 100000 in
set_option maxHeartbeats 1000000 in
theorem let_cleared_whole {F B W M : Nat} {s : FS} (w : World) (hF : FlashAt w F B W M s) (a n cap bx Mb offb capb : Nat) (b : List UInt8) (hn : a + n ≤ s.bs.length) (ha : ¬ (s.armed = true ∧ s.left = 0)) (hb : b.length = n)
    (hx : w.cell? ⟨bx, 0, none⟩ = some (.slice (some ⟨Mb, offb, none⟩) n capb)) (hbx : bx ≠ B ∧ bx ≠ F) (hc : ∀ i c, b[i]? = some c → w.cell? ⟨Mb, offb + i, none⟩ = some (bv c)) (hMb : Mb ≠ B ∧ Mb ≠ F) :
    Calls Tryz.prog 74 #[.pointer (some ⟨F, 0, none⟩), .func (.func 75) #[.agg #[.slice (some ⟨B, a, none⟩) n cap, .func (.func 102) #[] #[.pointer (some ⟨bx, 0, none⟩)]]] #[]] w
      fun e w' => e = .returned (.int .i64 (s.let a n (gClear b)).2) ∧ FlashAt w' F B W M (s.let a n (gClear b)).1 ∧ Keeps [F, B] w w' := by
  have Hs := Lib.hid (show s.let a n (gClear b) = ({ s with bs := span s.bs a n ((gClear b) 255), left := if s.armed then s.left - 1 else s.left }, 0) by unfold FS.let; rw [if_neg ha])
  have l0 := hF.left0
  have l1 := hF.left1
  cases har : s.armed with
  | false =>
    obtain ⟨cb, cw, mv, c0, c1, c2, c3, c4, c5, c6, cf, rB, rW, rM⟩ := hF.cells
    have hlen := hF.len
    have hfew := hF.few
    have hbs : s.bs.length ≤ 65536 := by omega
    rw [har] at c4
    have Ha := Lib.hid har
    clear ha hlen cf har
    go_enter Tryz.func74, Tryz.ntmps74
    go_wp2_with (first | (go_at_call 96; refine (spend_unarmed _ F c4).mono ?_; rintro e w' ⟨rfl, rfl⟩) | (go_at_call 75; refine (done_whole_cleared w B a n cap cb bx s.bs b Mb offb capb rB hn hbs hb  hx hbx.1 hc hMb.1).mono ?_; rintro e w1 ⟨rfl, hr, hk⟩; have h1 := hF.bytes _ cb c1 hr (span_length _ _ _ _) hk; have HK := Lib.hid hk; have H1 := Lib.hid h1; clear hr hk h1) | fail)
    go_ret
    have h1 := H1.out
    rw [Ha.out] at h1
    rw [Hs.out, Ha.out]
    exact ⟨rfl, h1, HK.out.mono (by simp)⟩
  | true =>
    have lpos : 0 < s.left := by
      have : s.left ≠ 0 := fun e => ha ⟨har, e⟩
      omega
    obtain ⟨hF2, hK2⟩ := hF.left (s.left - 1) (by omega) (by omega)
    obtain ⟨cb, cw, mv, c0, c1, c2, c3, c4, c5, c6, cf, rB, rW, rM⟩ := hF.cells
    have f5 := cf 5
    rw [har] at c4
    have Ha := Lib.hid har
    have HF2 := Lib.hid hF2
    have HK2 := Lib.hid hK2
    clear ha cf har hF2 hK2
    go_enter Tryz.func74, Tryz.ntmps74
    go_wp2_with (first | (go_at_call 96; refine (spend_more _ F _ c4 c5 f5 lpos l1).mono ?_; rintro e w' ⟨rfl, rfl⟩; generalize w.setCell ⟨F, 5, none⟩ (.int .i64 (s.left - 1)) = w2 at *) | fail)
    have hF2 := HF2.out
    obtain ⟨cb2, cw2, mv2, e0, e1, e2, e3, e4, e5, e6, ef, rB2, rW2, rM2⟩ := hF2.cells
    have hlen := hF2.len
    have hfew := hF2.few
    have hbs : s.bs.length ≤ 65536 := by simp at hlen hfew; omega
    refine (done_whole_cleared w2 B a n cap cb2 bx s.bs b Mb offb capb rB2 hn hbs hb  (HK2.out.cell hx (by simpa using hbx.2)) hbx.1 (fun i c h => HK2.out.cell (hc i c h) (by simpa using hMb.2)) hMb.1).mono ?_
    rintro e w1 ⟨rfl, hr, hk⟩
    have H1 := Lib.hid (hF2.bytes _ cb2 e1 hr (span_length _ _ _ _) hk)
    have HK := Lib.hid hk
    clear hr hk ef hlen
    go_wp2
    go_ret
    have h1 := H1.out
    rw [Ha.out] at h1
    rw [Hs.out, Ha.out]
    exact ⟨rfl, h1, (HK2.out.mono (by simp)).trans (HK.out.mono (by simp))⟩

set_option maxRecDepth 100000 in
set_option maxHeartbeats 1000000 in
theorem let_set_torn {F B W M : Nat} {s : FS} (w : World) (hF : FlashAt w F B W M s) (a n cap : Nat) (hn : a + n ≤ s.bs.length) (ha : s.armed = true) (hl : s.left = 0) :
    Calls Tryz.prog 74 #[.pointer (some ⟨F, 0, none⟩), .func (.func 75) #[.agg #[.slice (some ⟨B, a, none⟩) n cap, .func (.func 73) #[] #[]]] #[]] w
      fun e w' => e = .returned (.int .i64 (s.let a n (gSet)).2) ∧ FlashAt w' F B W M (s.let a n (gSet)).1 ∧ Keeps [F, B] w w' := by
  obtain ⟨cb, cw, mv, c0, c1, c2, c3, c4, c5, c6, cf, rB, rW, rM⟩ := hF.cells
  have hlen := hF.len
  have hfew := hF.few
  have hbs : s.bs.length ≤ 65536 := by omega
  have Hs := Lib.hid (show s.let a n (gSet) = ({ s with bs := span s.bs a n fun i c => (gSet) (s.mask.getD i 0) i c, down := true, armed := false, left := 0, mask := [] }, 12) by unfold FS.let; rw [if_pos ⟨ha, hl⟩])
  rw [ha] at c4
  rw [hl] at c5
  clear ha hl hlen cf
  go_enter Tryz.func74, Tryz.ntmps74
  go_wp2_with (first | (go_at_call 96; refine (spend_zero _ F c4 c5).mono ?_; rintro e w' ⟨rfl, rfl⟩) | (go_at_call 75; refine (done_torn_set w B a n cap cb F s.bs s.mask mv M rB hn hbs hF.maskl c6 hF.nFB rM hF.nM.2.1).mono ?_; rintro e w1 ⟨rfl, hr, hk⟩; have h1 := hF.bytes _ cb c1 hr (span_length _ _ _ _) hk; obtain ⟨cb', cw', mv', d0, d1, d2, d3, d4, d5, d6, df, _, _, _⟩ := h1.cells; have g3 := df 3; have g4 := df 4; have g5 := df 5; have g6 := df 6; have HK := Lib.hid hk; have H1 := Lib.hid h1; clear df hr hk h1) | fail)
  go_ret
  have fin := H1.out.power true false 0 (.slice none 0 0) [] M (by omega) (by omega) (by simp) hF.nM (Reads.nil _ _)
  rw [Hs.out]
  exact ⟨rfl, fin.1, (HK.out.mono (by simp)).trans (fin.2.mono (by simp))⟩

set_option maxRecDepth 100000 in
set_option maxHeartbeats 1000000 in
theorem let_set_whole {F B W M : Nat} {s : FS} (w : World) (hF : FlashAt w F B W M s) (a n cap : Nat) (hn : a + n ≤ s.bs.length) (ha : ¬ (s.armed = true ∧ s.left = 0)) :
    Calls Tryz.prog 74 #[.pointer (some ⟨F, 0, none⟩), .func (.func 75) #[.agg #[.slice (some ⟨B, a, none⟩) n cap, .func (.func 73) #[] #[]]] #[]] w
      fun e w' => e = .returned (.int .i64 (s.let a n (gSet)).2) ∧ FlashAt w' F B W M (s.let a n (gSet)).1 ∧ Keeps [F, B] w w' := by
  have Hs := Lib.hid (show s.let a n (gSet) = ({ s with bs := span s.bs a n ((gSet) 255), left := if s.armed then s.left - 1 else s.left }, 0) by unfold FS.let; rw [if_neg ha])
  have l0 := hF.left0
  have l1 := hF.left1
  cases har : s.armed with
  | false =>
    obtain ⟨cb, cw, mv, c0, c1, c2, c3, c4, c5, c6, cf, rB, rW, rM⟩ := hF.cells
    have hlen := hF.len
    have hfew := hF.few
    have hbs : s.bs.length ≤ 65536 := by omega
    rw [har] at c4
    have Ha := Lib.hid har
    clear ha hlen cf har
    go_enter Tryz.func74, Tryz.ntmps74
    go_wp2_with (first | (go_at_call 96; refine (spend_unarmed _ F c4).mono ?_; rintro e w' ⟨rfl, rfl⟩) | (go_at_call 75; refine (done_whole_set w B a n cap cb s.bs rB hn hbs ).mono ?_; rintro e w1 ⟨rfl, hr, hk⟩; have h1 := hF.bytes _ cb c1 hr (span_length _ _ _ _) hk; have HK := Lib.hid hk; have H1 := Lib.hid h1; clear hr hk h1) | fail)
    go_ret
    have h1 := H1.out
    rw [Ha.out] at h1
    rw [Hs.out, Ha.out]
    exact ⟨rfl, h1, HK.out.mono (by simp)⟩
  | true =>
    have lpos : 0 < s.left := by
      have : s.left ≠ 0 := fun e => ha ⟨har, e⟩
      omega
    obtain ⟨hF2, hK2⟩ := hF.left (s.left - 1) (by omega) (by omega)
    obtain ⟨cb, cw, mv, c0, c1, c2, c3, c4, c5, c6, cf, rB, rW, rM⟩ := hF.cells
    have f5 := cf 5
    rw [har] at c4
    have Ha := Lib.hid har
    have HF2 := Lib.hid hF2
    have HK2 := Lib.hid hK2
    clear ha cf har hF2 hK2
    go_enter Tryz.func74, Tryz.ntmps74
    go_wp2_with (first | (go_at_call 96; refine (spend_more _ F _ c4 c5 f5 lpos l1).mono ?_; rintro e w' ⟨rfl, rfl⟩; generalize w.setCell ⟨F, 5, none⟩ (.int .i64 (s.left - 1)) = w2 at *) | fail)
    have hF2 := HF2.out
    obtain ⟨cb2, cw2, mv2, e0, e1, e2, e3, e4, e5, e6, ef, rB2, rW2, rM2⟩ := hF2.cells
    have hlen := hF2.len
    have hfew := hF2.few
    have hbs : s.bs.length ≤ 65536 := by simp at hlen hfew; omega
    refine (done_whole_set w2 B a n cap cb2 s.bs rB2 hn hbs ).mono ?_
    rintro e w1 ⟨rfl, hr, hk⟩
    have H1 := Lib.hid (hF2.bytes _ cb2 e1 hr (span_length _ _ _ _) hk)
    have HK := Lib.hid hk
    clear hr hk ef hlen
    go_wp2
    go_ret
    have h1 := H1.out
    rw [Ha.out] at h1
    rw [Hs.out, Ha.out]
    exact ⟨rfl, h1, (HK2.out.mono (by simp)).trans (HK.out.mono (by simp))⟩

end Go.Proofs.YtlnmbfddhdjioaaGreat
