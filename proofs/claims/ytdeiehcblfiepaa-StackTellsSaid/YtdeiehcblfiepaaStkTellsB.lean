/-
  Stacks of cells beside the document's: operations that came in; where both stand; what both have behind an operation.
-/
import Derived.Test.YtdeiehcblfiepaaStkRefC
import Derived.Deep.CutRange
namespace Go.Proofs.Ytdeiehcblfiepaa
open Go.RowKit Go.Deep
set_option linter.unusedVariables false

/-! ### operations that came in -/
def Op8At (w : World) (b off i d : Nat) (N : Int) (xa : Option Addr) (xc : Nat) (x : List (BitVec 32)) (M o : Nat) : Prop :=
  d < 256 ∧ (-9223372036854775808 ≤ N ∧ N ≤ 9223372036854775807) ∧ UReads w (.slice xa x.length xc) x M o ∧
    w.cell? ⟨b, off + i * 3, none⟩ = some (.int .u8 d) ∧ w.cell? ⟨b, off + i * 3 + 1, none⟩ = some (.int .i64 N) ∧ w.cell? ⟨b, off + i * 3 + 2, none⟩ = some (.slice xa x.length xc)

def Ops8 (w : World) (v : Value) (n : Nat) : Prop :=
  (v = .slice none 0 0 ∧ n = 0) ∨ ∃ (a : Addr) (cap : Nat), v = .slice (some a) n cap ∧ n ≤ cap ∧ cap ≤ maxLen ∧ (0 < n → ∃ b off, a = ⟨b, off, none⟩ ∧ ∀ i, i < n → ∃ d N xa xc x M o, Op8At w b off i d N xa xc x M o)

theorem Op8At.keeps {w w' : World} {b off i d : Nat} {N : Int} {xa : Option Addr} {xc : Nat} {x : List (BitVec 32)} {M o : Nat} (h : Op8At w b off i d N xa xc x M o) (hk : Keeps [] w w') : Op8At w' b off i d N xa xc x M o := by
  obtain ⟨h1, h2, h3, c0, c1, c2⟩ := h
  exact ⟨h1, h2, h3.keeps hk (by simp), hk.cell c0 (by simp), hk.cell c1 (by simp), hk.cell c2 (by simp)⟩

theorem Ops8.shape {w : World} {n : Nat} {v : Value} (h : Ops8 w v n) : ∃ ao cap, v = .slice ao n cap ∧ n ≤ cap ∧ n ≤ maxLen ∧ (0 < n → ∃ b off, ao = some ⟨b, off, none⟩ ∧ ∀ i, i < n → ∃ d N xa xc x M o, Op8At w b off i d N xa xc x M o) := by
  rcases h with ⟨rfl, rfl⟩ | ⟨a, cap, rfl, h1, h2, h3⟩
  · exact ⟨none, 0, rfl, Nat.le_refl _, by decide, fun h => absurd h (by decide)⟩
  · refine ⟨some a, cap, rfl, h1, by omega, fun h0 => ?_⟩
    obtain ⟨b, off, rfl, h4⟩ := h3 h0
    exact ⟨b, off, rfl, h4⟩

section
variable {H : Type} {enc : TypeId × Value → H} {W : World} {b0 : Nat} {spare : Nat → Bool} {held : Bool}

theorem ops8_read {fuel : Nat} {v : Value} {x : DataW H × List MemPlace} (h : DataW.trod enc Try.prog W b0 spare held fuel 22 [v] = some x) : ∃ n, Ops8 W v n := by
  rcases structs_read Try.underlying22 Try.underlying36 (by kernel_rfl) (by kernel_rfl) h with rfl | ⟨a, len, cap, rfl, hl, hm, hf⟩
  · exact ⟨0, .inl ⟨rfl, rfl⟩⟩
  · refine ⟨len, .inr ⟨a, cap, rfl, hl, hm, fun h0 => ?_⟩⟩
    obtain ⟨b, off, spot⟩ := a
    have hs : spot = none := by
      obtain ⟨u0, y0, n0, c0, t0⟩ := hf 0 h0 0 _ rfl
      cases spot with
      | none => rfl
      | some x =>
        exfalso
        simp only [Addr.add, Nat.zero_mul, if_true] at c0
        unfold World.cell? at c0
        split at c0
        · simp at c0
        · cases c0
    subst hs
    refine ⟨b, off, rfl, fun i hi => ?_⟩
    obtain ⟨u0, y0, n0, c0, t0⟩ := hf i hi 0 _ rfl
    obtain ⟨u1, y1, n1, c1, t1⟩ := hf i hi 1 _ rfl
    obtain ⟨u2, y2, n2, c2, t2⟩ := hf i hi 2 _ rfl
    obtain ⟨d, hd, _, wd⟩ := DataW.trod_int Try.underlying5 t0
    obtain ⟨p, hp, _, wp⟩ := DataW.trod_int Try.underlying3 t1
    simp at hd hp
    subst hd hp
    obtain ⟨l2, M2, o2, r2, ll2⟩ := words_read t2
    obtain ⟨c, rfl⟩ := byte_of_wf wd
    obtain ⟨xa, xc, rfl, _⟩ := r2.shape
    rw [Addr.add_off] at c0 c1 c2
    exact ⟨c.toNat, p, xa, xc, l2, M2, o2, c.toNat_lt, by have := bounds_i64 wp; omega, r2, c0, (by rw [Nat.add_assoc]; exact c1), (by rw [Nat.add_assoc]; exact c2)⟩
end

/-! ### what the program's own functions keep where nothing is done -/
section
variable {w : World} {base g : Nat} {most over under : Int} {v : Value} {l : List (BitVec 32)}

set_option maxRecDepth 100000 in
set_option maxHeartbeats 1000000 in
theorem Push_over (h : StackAt w base g most over under v l) (xv : Value) (x : List (BitVec 32)) (M off : Nat) (hx : UReads w xv x M off) (hxl : x.length ≤ maxLen) (hr : ¬ ((x.length : Int) ≤ most - l.length)) :
    Calls Try.prog 13 #[.pointer (some ⟨g, 0, none⟩), xv] w fun e w' => e = .returned (.int .i32 over) ∧ Keeps [] w w' := by
  have hml : maxLen = 9223372036854775807 := rfl
  have HM := Lib.hid (May_at h 0 (x.length : Int) (by omega) (by omega))
  have he : mayT most over under l 0 x.length = over := by rw [mayT_push h.fits, if_neg hr]
  rw [he] at HM
  have ho := h.over0.2
  obtain ⟨xa, xc, rfl, hxc⟩ := hx.shape
  clear hx he h
  generalize hxn : x.length = xn at *
  clear hr
  go_enter Try.func13, Try.ntmps13
  go_wp2_with (first | (go_at_call 24; refine HM.out.mono ?_; rintro e w1 ⟨rfl, hk⟩; have HK := Lib.hid hk; clear hk))
  go_ret
  exact ⟨rfl, HK.out⟩

theorem Push_at2 (h : StackAt w base g most over under v l) (xv : Value) (x : List (BitVec 32)) (M off : Nat) (hx : UReads w xv x M off) (hxl : x.length ≤ maxLen) :
    Calls Try.prog 13 #[.pointer (some ⟨g, 0, none⟩), xv] w fun e w' => ∃ v', e = .returned (.int .i32 (pushT most over l x)) ∧ StackAt w' base g most over under v' (pushL most l x) ∧ Keeps (g :: v.ownBlock.toList) w w' ∧ (¬ ((x.length : Int) ≤ most - l.length) → v'.ownBlock = v.ownBlock) := by
  by_cases hr : (x.length : Int) ≤ most - l.length
  · exact (Push_at h xv x M off hx hxl).mono fun e w' ⟨v', h1, h2, h3⟩ => ⟨v', h1, h2, h3, fun hn => absurd hr hn⟩
  · refine (Push_over h xv x M off hx hxl hr).mono fun e w' ⟨he, hk⟩ => ⟨v, ?_, ?_, hk.mono (by simp), fun _ => rfl⟩
    · rw [he]; unfold pushT; rw [if_neg hr]
    · unfold pushL; rw [if_neg hr]; exact h.keeps hk (by simp) (by simp)

set_option maxRecDepth 100000 in
set_option maxHeartbeats 1000000 in
theorem Roll_at2 (h : StackAt w base g most over under v l) (i : Int) :
    Calls Try.prog 18 #[.pointer (some ⟨g, 0, none⟩), .int .i64 i] w fun e w' => ∃ v', e = .returned (.int .i32 (peekT l i under)) ∧ StackAt w' base g most over under v' (rollL l i) ∧ Keeps (g :: v.ownBlock.toList) w w' ∧ (¬ (0 ≤ i ∧ i < l.length) → v'.ownBlock = v.ownBlock) := by
  by_cases hi : 0 ≤ i ∧ i < l.length
  · exact (Roll_at h i).mono fun e w' ⟨v', h1, h2, h3⟩ => ⟨v', h1, h2, h3, fun hn => absurd hi hn⟩
  · have hr : rollL l i = l := by unfold rollL; rw [if_neg hi]
    unfold peekT
    rw [if_neg hi, hr]
    have HP := Lib.hid (place_out h i hi)
    have H := Lib.hid h
    have hu := h.under0.2
    clear h hi hr
    go_enter Try.func18, Try.ntmps18
    go_wp2_with (first | (go_at_call 27; refine HP.out.mono ?_; rintro e w' ⟨rfl, hk⟩; have HK := Lib.hid hk; clear hk))
    go_ret
    exact ⟨_, rfl, H.out.keeps HK.out (by simp) (by simp), HK.out.mono (by simp), fun _ => rfl⟩
end

/-! ### both -/
structure PairAt (w0 w : World) (g R : Nat) (most over under : Int) (l : List (BitVec 32)) (base : Nat) (v : Value) (a : Option Addr) (c M o : Nat) : Prop where
  kept : Keeps [] w0 w
  new1 : w0.heap.size ≤ g
  new2 : w0.heap.size ≤ R
  below : R < base
  apart : g ≠ R
  prog : StackAt w base g most over under v l
  doc : Whole w R 30 [.slice a l.length c, .int .i64 most, .int .i32 over, .int .i32 under]
  reads : UReads w (.slice a l.length c) l M o
  off : l ≠ [] → base ≤ M ∧ v.ownBlock ≠ some M

def Pair (w0 w : World) (g R : Nat) (most over under : Int) (l : List (BitVec 32)) : Prop := ∃ base v a c M o, PairAt w0 w g R most over under l base v a c M o

section
variable {w0 w : World} {g R : Nat} {most over under : Int} {l : List (BitVec 32)} {base : Nat} {v : Value} {a : Option Addr} {c M o : Nat}

theorem PairAt.next (h : PairAt w0 w g R most over under l base v a c M o) {w' : World} (hk : Keeps [] w w') : PairAt w0 w' g R most over under l base v a c M o :=
  ⟨h.kept.trans hk, h.new1, h.new2, h.below, h.apart, h.prog.keeps hk (by simp) (by simp), h.doc.keeps hk (by simp), h.reads.keeps hk (by simp), h.off⟩

/-- What the program's operation leaves of the document's. -/
theorem PairAt.mid (h : PairAt w0 w g R most over under l base v a c M o) {w1 : World} (hk : Keeps (g :: v.ownBlock.toList) w w1) :
    Keeps [] w0 w1 ∧ Whole w1 R 30 [.slice a l.length c, .int .i64 most, .int .i32 over, .int .i32 under] ∧ UReads w1 (.slice a l.length c) l M o := by
  have hv : ∀ x, v.ownBlock = some x → base ≤ x := fun x hx => (h.prog.lt x hx).1
  have hab := h.prog.above
  refine ⟨h.kept.then hk (fun x hx => .inr ?_), h.doc.keeps hk ?_, h.reads.keeps hk ?_⟩
  · have := h.new1
    simp at hx
    rcases hx with rfl | hx
    · exact h.new1
    · have := hv x hx; omega
  · intro hm
    simp at hm
    rcases hm with e | hm
    · exact h.apart e.symm
    · have := hv _ hm; have := h.below; omega
  · intro hl hm
    simp at hm
    obtain ⟨h1, h2⟩ := h.off hl
    rcases hm with e | hm
    · omega
    · exact h2 hm

/-- What both have behind the document's operation. -/
theorem PairAt.done (h : PairAt w0 w g R most over under l base v a c M o) {C : Prop} {w1 w2 w3 : World} {v1 : Value} {l1 : List (BitVec 32)} {a' : Option Addr} {c' M' o' : Nat}
    (hk1 : Keeps (g :: v.ownBlock.toList) w w1) (hs1 : StackAt w1 base g most over under v1 l1) (ho : ¬ C → v1.ownBlock = v.ownBlock)
    (hd : DocIs C w1 w2 l l1 a c M o a' c' M' o') (hk3 : Keeps [R] w2 w3) (hw3 : Whole w3 R 30 [.slice a' l1.length c', .int .i64 most, .int .i32 over, .int .i32 under]) :
    Pair w0 w3 g R most over under l1 := by
  obtain ⟨hm1, hm2, hm3⟩ := h.mid hk1
  obtain ⟨d1, d2, d3, d4⟩ := hd
  have hb := h.below
  have hv1 : ∀ x, v1.ownBlock = some x → base ≤ x ∧ x < w1.heap.size := fun x hx => hs1.lt x hx
  have hbase := hs1.base_le
  have hM : l1 ≠ [] → base ≤ M' ∧ v1.ownBlock ≠ some M' := by
    intro hl
    by_cases hC : C
    · have := d3 hC hl
      refine ⟨by omega, fun hx => ?_⟩
      have := (hv1 _ hx).2
      omega
    · obtain ⟨e1, e2⟩ := d4 hC
      subst e1 e2
      rw [ho hC]
      exact h.off hl
  refine ⟨base, v1, a', c', M', o', (hm1.trans d2).then hk3 (fun x hx => .inr (by simp at hx; have := h.new2; omega)), h.new1, h.new2, h.below, h.apart, (hs1.keeps d2 (by simp) (by simp)).keeps hk3 ?_ ?_, hw3, d1.keeps hk3 ?_, hM⟩
  · simp; exact h.apart
  · intro x hx hm
    simp at hm
    have := (hv1 x hx).1
    omega
  · intro hl hm
    simp at hm
    have := (hM hl).1
    omega
end
end Go.Proofs.Ytdeiehcblfiepaa
