/-
  Two stacks and a memory side by side: whose each block is, told by a colour; what the calls of each do to all three.
-/
import Derived.Test.YtfnjjanknfmibaaGreatStkD
import Derived.Test.YtfnjjanknfmibaaGreatMemF
namespace Go.Proofs.YtfnjjanknfmibaaGreat
open Go.RowKit
set_option linter.unusedVariables false

/-- Both stacks and memory, made since w0. A block's colour: 1 the data stack's, 2 the return stack's, 3 memory's, 0 no one's of these. -/
structure Lab (w0 : World) (κ : Nat → Nat) (w : World) (gs gr gm : Nat) (room : Int) (s r : List (BitVec 32)) (win ram : List UInt8) : Prop where
  kept : Keeps [] w0 w
  news : ∀ x, κ x ≠ 0 → w0.heap.size ≤ x
  olds : ∀ x, κ x ≠ 0 → x < w.heap.size
  data : ∃ b v, StackAt w b gs room (-3) (-4) v s ∧ κ gs = 1 ∧ ∀ k, v.ownBlock = some k → κ k = 1
  back : ∃ b v, StackAt w b gr room (-5) (-6) v r ∧ κ gr = 2 ∧ ∀ k, v.ownBlock = some k → κ k = 2
  mem : ∃ rb M wv, MemAt w w0.heap.size gm rb M wv win ram ∧ κ gm = 3 ∧ κ rb = 3 ∧ (win ≠ [] → κ M = 3)

/-- From one world to another only blocks that have a colour are others than they were; blocks that were there keep their colours. -/
def Step (κ : Nat → Nat) (w : World) (κ' : Nat → Nat) (w' : World) : Prop :=
  (∀ x, x < w.heap.size → κ' x = κ x) ∧ ∃ S, Keeps S w w' ∧ ∀ x ∈ S, κ x ≠ 0

theorem Step.of {κ : Nat → Nat} {w w' : World} (hk : Keeps [] w w') : Step κ w κ w' := ⟨fun _ _ => rfl, [], hk, by simp⟩
theorem Step.trans {κ κ' κ'' : Nat → Nat} {w w' w'' : World} (h : Step κ w κ' w') (k : Step κ' w' κ'' w'') : Step κ w κ'' w'' := by
  obtain ⟨h1, S, hk, hS⟩ := h
  obtain ⟨k1, T, kk, kT⟩ := k
  refine ⟨fun x hx => (k1 x (Nat.lt_of_lt_of_le hx hk.size)).trans (h1 x hx), S ++ T.filter (fun x => decide (x < w.heap.size)), ?_, ?_⟩
  · refine (hk.mono (T := S ++ T.filter (fun x => decide (x < w.heap.size))) (fun x hx => List.mem_append.2 (.inl hx))).then kk (fun x hx => ?_)
    by_cases hl : x < w.heap.size
    · exact .inl (List.mem_append.2 (.inr (List.mem_filter.2 ⟨hx, by simpa using hl⟩)))
    · exact .inr (by omega)
  · intro x hx
    rcases List.mem_append.1 hx with hx | hx
    · exact hS x hx
    · obtain ⟨hx, hl⟩ := List.mem_filter.1 hx
      rw [← h1 x (by simpa using hl)]
      exact kT x hx
theorem Step.size {κ κ' : Nat → Nat} {w w' : World} (h : Step κ w κ' w') : w.heap.size ≤ w'.heap.size := by
  obtain ⟨_, S, hk, _⟩ := h
  exact hk.size
theorem Step.col {κ κ' : Nat → Nat} {w w' : World} (h : Step κ w κ' w') {x : Nat} (hx : x < w.heap.size) (h0 : κ x = 0) : κ' x = 0 := by rw [h.1 x hx, h0]
theorem Step.cell {κ κ' : Nat → Nat} {w w' : World} (h : Step κ w κ' w') {p : Addr} {v : Value} (hc : w.cell? p = some v) (h0 : κ p.block = 0) : w'.cell? p = some v := by
  obtain ⟨_, S, hk, hS⟩ := h
  exact hk.cell hc (fun hm => hS _ hm h0)
theorem Step.ureads {κ κ' : Nat → Nat} {w w' : World} (h : Step κ w κ' w') {v : Value} {l : List (BitVec 32)} {M off : Nat} (hr : UReads w v l M off) (h0 : l ≠ [] → κ M = 0) : UReads w' v l M off := by
  obtain ⟨_, S, hk, hS⟩ := h
  exact hr.keeps hk (fun hl hm => hS _ hm (h0 hl))
theorem Step.reads {κ κ' : Nat → Nat} {w w' : World} (h : Step κ w κ' w') {v : Value} {l : List UInt8} {M : Nat} (hr : Reads w v l M) (h0 : l ≠ [] → κ M = 0) : Reads w' v l M := by
  obtain ⟨_, S, hk, hS⟩ := h
  exact hr.ifKept hk (fun hl hm => hS _ hm (h0 hl))

section
variable {w0 w : World} {κ : Nat → Nat} {gs gr gm : Nat} {room : Int} {s r : List (BitVec 32)} {win ram : List UInt8}

theorem Lab.next (h : Lab w0 κ w gs gr gm room s r win ram) {w' : World} (hk : Keeps [] w w') : Lab w0 κ w' gs gr gm room s r win ram := by
  obtain ⟨h0, hn, ho, ⟨b, v, hs, c1, c2⟩, ⟨b2, v2, hr, d1, d2⟩, ⟨rb, M, wv, hm, e1⟩⟩ := h
  exact ⟨h0.trans hk, hn, fun x hx => Nat.lt_of_lt_of_le (ho x hx) hk.size, ⟨b, v, hs.keeps hk (by simp) (by simp), c1, c2⟩, ⟨b2, v2, hr.keeps hk (by simp) (by simp), d1, d2⟩, ⟨rb, M, wv, hm.next hk, e1⟩⟩
/-- A block that is newer has no colour. -/
theorem Lab.newer (h : Lab w0 κ w gs gr gm room s r win ram) {x : Nat} (hx : w.heap.size ≤ x) : κ x = 0 :=
  Classical.byContradiction fun hc => by have := h.olds x hc; omega
/-- A block that is older has no colour. -/
theorem Lab.older (h : Lab w0 κ w gs gr gm room s r win ram) {x : Nat} (hx : x < w0.heap.size) : κ x = 0 :=
  Classical.byContradiction fun hc => by have := h.news x hc; omega
theorem Lab.lens (h : Lab w0 κ w gs gr gm room s r win ram) : s.length ≤ 4096 ∧ (s.length : Int) ≤ room ∧ r.length ≤ 4096 ∧ (r.length : Int) ≤ room ∧ 1 ≤ room ∧ room ≤ 4096 := by
  obtain ⟨h0, hn, ho, ⟨b, v, hs, c1, c2⟩, ⟨b2, v2, hr, d1, d2⟩, _⟩ := h
  have := hs.fits; have := hs.most1; have := hs.most2; have := hr.fits
  omega
theorem Lab.ramL (h : Lab w0 κ w gs gr gm room s r win ram) : 4 ≤ ram.length ∧ ram.length ≤ 65536 ∧ ram.length % 4 = 0 ∧ win.length ≤ 65536 := by
  obtain ⟨_, _, _, _, _, ⟨rb, M, wv, hm, _⟩⟩ := h
  have := hm.ram4; have := hm.winL
  omega

/-- The data stack has other cells. -/
theorem Lab.data_to (h : Lab w0 κ w gs gr gm room s r win ram) {b : Nat} {v v' : Value} (hs : StackAt w b gs room (-3) (-4) v s) (c1 : κ gs = 1) (c2 : ∀ k, v.ownBlock = some k → κ k = 1)
    {w' : World} {s' : List (BitVec 32)} (h1 : StackAt w' b gs room (-3) (-4) v' s') (hk : Keeps (gs :: v.ownBlock.toList) w w') (ho : v'.ownBlock = v.ownBlock ∨ ∀ k, v'.ownBlock = some k → w.heap.size ≤ k) :
    ∃ κ', Lab w0 κ' w' gs gr gm room s' r win ram ∧ Step κ w κ' w' := by
  have hS : ∀ x ∈ gs :: v.ownBlock.toList, κ x = 1 := by
    intro x hx
    simp at hx
    rcases hx with rfl | hx
    · exact c1
    · exact c2 x hx
  obtain ⟨h0, hn, hol, _, ⟨b2, v2, hr, d1, d2⟩, ⟨rb, M, wv, hm, e1, e2, e3⟩⟩ := h
  obtain ⟨κ', hκ⟩ : ∃ κ' : Nat → Nat, κ' = fun x => if v'.ownBlock = some x then 1 else κ x := ⟨_, rfl⟩
  have hsame : ∀ x, x < w.heap.size → κ' x = κ x := by
    intro x hx
    rw [hκ]
    show (if v'.ownBlock = some x then 1 else κ x) = κ x
    split
    · next hv =>
      rcases ho with e | hnew
      · rw [e] at hv; exact (c2 x hv).symm
      · have := hnew x hv; omega
    · rfl
  have hcol : ∀ x, κ x ≠ 0 → κ' x = κ x := fun x hx => hsame x (hol x hx)
  have hback : ∀ x, κ' x ≠ 0 → κ x ≠ 0 ∨ v'.ownBlock = some x := by
    intro x hx
    rw [hκ] at hx
    by_cases hv : v'.ownBlock = some x
    · exact .inr hv
    · left; simpa [hv] using hx
  refine ⟨κ', ⟨h0.then hk (fun x hx => .inr (hn x (by rw [hS x hx]; decide))), ?_, ?_, ⟨b, v', h1, by rw [hcol gs (by rw [c1]; decide), c1], ?_⟩, ⟨b2, v2, hr.keeps hk ?_ ?_, by rw [hcol gr (by rw [d1]; decide), d1], ?_⟩, ⟨rb, M, wv, hm.keeps hk ?_ ?_ ?_, by rw [hcol gm (by rw [e1]; decide), e1], by rw [hcol rb (by rw [e2]; decide), e2], ?_⟩⟩, hsame, _, hk, fun x hx => by rw [hS x hx]; decide⟩
  · intro x hx
    rcases hback x hx with hx | hx
    · exact hn x hx
    · rcases ho with e | hnew
      · rw [e] at hx; exact hn x (by rw [c2 x hx]; decide)
      · have := hnew x hx; have := h0.size; omega
  · intro x hx
    rcases hback x hx with hx | hx
    · exact Nat.lt_of_lt_of_le (hol x hx) hk.size
    · exact (h1.lt x hx).2
  · intro k hv; rw [hκ]; show (if v'.ownBlock = some k then 1 else κ k) = 1; rw [if_pos hv]
  · intro hm; rw [hS _ hm] at d1; cases d1
  · intro k hv hm; have := d2 k hv; rw [hS _ hm] at this; cases this
  · intro k hv; rw [hcol k (by rw [d2 k hv]; decide), d2 k hv]
  · intro hm; rw [hS _ hm] at e1; cases e1
  · intro hm; rw [hS _ hm] at e2; cases e2
  · intro hw hm; have := e3 hw; rw [hS _ hm] at this; cases this
  · intro hw; rw [hcol M (by rw [e3 hw]; decide), e3 hw]

/-- The return stack has other cells. -/
theorem Lab.back_to (h : Lab w0 κ w gs gr gm room s r win ram) {b : Nat} {v v' : Value} (hs : StackAt w b gr room (-5) (-6) v r) (c1 : κ gr = 2) (c2 : ∀ k, v.ownBlock = some k → κ k = 2)
    {w' : World} {r' : List (BitVec 32)} (h1 : StackAt w' b gr room (-5) (-6) v' r') (hk : Keeps (gr :: v.ownBlock.toList) w w') (ho : v'.ownBlock = v.ownBlock ∨ ∀ k, v'.ownBlock = some k → w.heap.size ≤ k) :
    ∃ κ', Lab w0 κ' w' gs gr gm room s r' win ram ∧ Step κ w κ' w' := by
  have hS : ∀ x ∈ gr :: v.ownBlock.toList, κ x = 2 := by
    intro x hx
    simp at hx
    rcases hx with rfl | hx
    · exact c1
    · exact c2 x hx
  obtain ⟨h0, hn, hol, ⟨b2, v2, hr, d1, d2⟩, _, ⟨rb, M, wv, hm, e1, e2, e3⟩⟩ := h
  obtain ⟨κ', hκ⟩ : ∃ κ' : Nat → Nat, κ' = fun x => if v'.ownBlock = some x then 2 else κ x := ⟨_, rfl⟩
  have hsame : ∀ x, x < w.heap.size → κ' x = κ x := by
    intro x hx
    rw [hκ]
    show (if v'.ownBlock = some x then 2 else κ x) = κ x
    split
    · next hv =>
      rcases ho with e | hnew
      · rw [e] at hv; exact (c2 x hv).symm
      · have := hnew x hv; omega
    · rfl
  have hcol : ∀ x, κ x ≠ 0 → κ' x = κ x := fun x hx => hsame x (hol x hx)
  have hback : ∀ x, κ' x ≠ 0 → κ x ≠ 0 ∨ v'.ownBlock = some x := by
    intro x hx
    rw [hκ] at hx
    by_cases hv : v'.ownBlock = some x
    · exact .inr hv
    · left; simpa [hv] using hx
  refine ⟨κ', ⟨h0.then hk (fun x hx => .inr (hn x (by rw [hS x hx]; decide))), ?_, ?_, ⟨b2, v2, hr.keeps hk ?_ ?_, by rw [hcol gs (by rw [d1]; decide), d1], ?_⟩, ⟨b, v', h1, by rw [hcol gr (by rw [c1]; decide), c1], ?_⟩, ⟨rb, M, wv, hm.keeps hk ?_ ?_ ?_, by rw [hcol gm (by rw [e1]; decide), e1], by rw [hcol rb (by rw [e2]; decide), e2], ?_⟩⟩, hsame, _, hk, fun x hx => by rw [hS x hx]; decide⟩
  · intro x hx
    rcases hback x hx with hx | hx
    · exact hn x hx
    · rcases ho with e | hnew
      · rw [e] at hx; exact hn x (by rw [c2 x hx]; decide)
      · have := hnew x hx; have := h0.size; omega
  · intro x hx
    rcases hback x hx with hx | hx
    · exact Nat.lt_of_lt_of_le (hol x hx) hk.size
    · exact (h1.lt x hx).2
  · intro hm; rw [hS _ hm] at d1; cases d1
  · intro k hv hm; have := d2 k hv; rw [hS _ hm] at this; cases this
  · intro k hv; rw [hcol k (by rw [d2 k hv]; decide), d2 k hv]
  · intro k hv; rw [hκ]; show (if v'.ownBlock = some k then 2 else κ k) = 2; rw [if_pos hv]
  · intro hm; rw [hS _ hm] at e1; cases e1
  · intro hm; rw [hS _ hm] at e2; cases e2
  · intro hw hm; have := e3 hw; rw [hS _ hm] at this; cases this
  · intro hw; rw [hcol M (by rw [e3 hw]; decide), e3 hw]

/-- The memory has other bytes. -/
theorem Lab.mem_to (h : Lab w0 κ w gs gr gm room s r win ram) {rb M : Nat} {wv : Value} {w' : World} {ram' : List UInt8} (e1 : κ gm = 3) (e2 : κ rb = 3) (e3 : win ≠ [] → κ M = 3) (h1 : MemAt w' w0.heap.size gm rb M wv win ram') (hk : Keeps [rb] w w') :
    Lab w0 κ w' gs gr gm room s r win ram' ∧ Step κ w κ w' := by
  have hS : ∀ x ∈ [rb], κ x = 3 := by intro x hx; simp at hx; subst hx; exact e2
  obtain ⟨h0, hn, hol, ⟨b1, v1, hs, c1, c2⟩, ⟨b2, v2, hr, d1, d2⟩, _⟩ := h
  refine ⟨⟨h0.then hk (fun x hx => .inr (hn x (by rw [hS x hx]; decide))), hn, fun x hx => Nat.lt_of_lt_of_le (hol x hx) hk.size, ⟨b1, v1, hs.keeps hk ?_ ?_, c1, c2⟩, ⟨b2, v2, hr.keeps hk ?_ ?_, d1, d2⟩, ⟨rb, M, wv, h1, e1, e2, e3⟩⟩, fun _ _ => rfl, _, hk, fun x hx => by rw [hS x hx]; decide⟩
  · intro hm; rw [hS _ hm] at c1; cases c1
  · intro k hv hm; have := c2 k hv; rw [hS _ hm] at this; cases this
  · intro hm; rw [hS _ hm] at d1; cases d1
  · intro k hv hm; have := d2 k hv; rw [hS _ hm] at this; cases this

/-! ### the data stack's calls -/
theorem Len_lab (h : Lab w0 κ w gs gr gm room s r win ram) (n : Int) (hn : n = s.length) : Calls Tryz.prog 25 #[.pointer (some ⟨gs, 0, none⟩)] w fun e w' => e = .returned (.int .i64 n) ∧ w = w' := by
  obtain ⟨b, v, hs, _⟩ := h.data
  rw [hn]; exact Len_at hs
theorem May_lab (h : Lab w0 κ w gs gr gm room s r win ram) (takes gives t : Int) (t1 : takes ≤ 9223372036854775807) (g1 : gives ≤ 9223372036854775807) (ht : mayT room (-3) (-4) s takes gives = t) :
    Calls Tryz.prog 21 #[.pointer (some ⟨gs, 0, none⟩), .int .i64 takes, .int .i64 gives] w fun e w' => e = .returned (.int .i32 t) ∧ Keeps [] w w' := by
  obtain ⟨b, v, hs, _⟩ := h.data
  rw [← ht]; exact May_at hs takes gives t1 g1
theorem Peek_lab (h : Lab w0 κ w gs gr gm room s r win ram) (i x t : Int) (hx : ((peekX s i).toNat : Int) = x) (ht : peekT s i (-4) = t) :
    Calls Tryz.prog 39 #[.pointer (some ⟨gs, 0, none⟩), .int .i64 i] w fun e w' => e = .returned (.tuple #[.int .u32 x, .int .i32 t]) ∧ Keeps [] w w' := by
  obtain ⟨b, v, hs, _⟩ := h.data
  exact (Peek_at hs i).mono fun e w' ⟨he, hk⟩ => ⟨by rw [he, ht]; unfold uv; rw [hx], hk⟩
theorem Cut_lab (h : Lab w0 κ w gs gr gm room s r win ram) (k t : Int) (s' : List (BitVec 32)) (ht : cutT s k (-4) = t) (hl : cutL s k = s') :
    Calls Tryz.prog 24 #[.pointer (some ⟨gs, 0, none⟩), .int .i64 k] w fun e w' => e = .returned (.int .i32 t) ∧ ∃ κ', Lab w0 κ' w' gs gr gm room s' r win ram ∧ Step κ w κ' w' := by
  obtain ⟨b, v, hs, c1, c2⟩ := h.data
  exact (Cut_at hs k).mono fun e w' ⟨v', he, h1, hk, ho⟩ => ⟨by rw [he, ht], hl ▸ h.data_to hs c1 c2 h1 hk (.inl ho)⟩
theorem Push_lab (h : Lab w0 κ w gs gr gm room s r win ram) (xv : Value) (x : List (BitVec 32)) (M off : Nat) (hx : UReads w xv x M off) (hxl : x.length ≤ maxLen) (t : Int) (s' : List (BitVec 32)) (ht : pushT room (-3) s x = t) (hl : pushL room s x = s') :
    Calls Tryz.prog 14 #[.pointer (some ⟨gs, 0, none⟩), xv] w fun e w' => e = .returned (.int .i32 t) ∧ ∃ κ', Lab w0 κ' w' gs gr gm room s' r win ram ∧ Step κ w κ' w' := by
  obtain ⟨b, v, hs, c1, c2⟩ := h.data
  exact (Push_new hs xv x M off hx hxl).mono fun e w' ⟨v', he, h1, hk, ho⟩ => ⟨by rw [he, ht], hl ▸ h.data_to hs c1 c2 h1 hk ho⟩
theorem Roll_lab (h : Lab w0 κ w gs gr gm room s r win ram) (i t : Int) (s' : List (BitVec 32)) (ht : peekT s i (-4) = t) (hl : rollL s i = s') :
    Calls Tryz.prog 152 #[.pointer (some ⟨gs, 0, none⟩), .int .i64 i] w fun e w' => e = .returned (.int .i32 t) ∧ ∃ κ', Lab w0 κ' w' gs gr gm room s' r win ram ∧ Step κ w κ' w' := by
  obtain ⟨b, v, hs, c1, c2⟩ := h.data
  exact (Roll_new hs i).mono fun e w' ⟨v', he, h1, hk, ho⟩ => ⟨by rw [he, ht], hl ▸ h.data_to hs c1 c2 h1 hk ho⟩
theorem All_lab (h : Lab w0 κ w gs gr gm room s r win ram) :
    Calls Tryz.prog 5 #[.pointer (some ⟨gs, 0, none⟩)] w fun e w' => ∃ a c M, e = .returned (.slice a s.length c) ∧ UReads w' (.slice a s.length c) s M 0 ∧ (s ≠ [] → w.heap.size ≤ M ∧ M < w'.heap.size) ∧ Keeps [] w w' := by
  obtain ⟨b, v, hs, _⟩ := h.data
  refine (All_at hs).mono ?_
  rintro e w' ⟨u, rfl, ho, hk⟩
  obtain ⟨M, hr, hM⟩ := UReads.owns ho
  obtain ⟨a, c, rfl, _⟩ := hr.shape
  exact ⟨a, c, M, rfl, hr, fun hl => ⟨(hM hl).2.1, (hM hl).2.2⟩, hk⟩

/-! ### the return stack's -/
theorem PeekR_lab (h : Lab w0 κ w gs gr gm room s r win ram) (i x t : Int) (hx : ((peekX r i).toNat : Int) = x) (ht : peekT r i (-6) = t) :
    Calls Tryz.prog 39 #[.pointer (some ⟨gr, 0, none⟩), .int .i64 i] w fun e w' => e = .returned (.tuple #[.int .u32 x, .int .i32 t]) ∧ Keeps [] w w' := by
  obtain ⟨b, v, hs, _⟩ := h.back
  exact (Peek_at hs i).mono fun e w' ⟨he, hk⟩ => ⟨by rw [he, ht]; unfold uv; rw [hx], hk⟩
theorem PopR_lab (h : Lab w0 κ w gs gr gm room s r win ram) (x t : Int) (r' : List (BitVec 32)) (hx : ((peekX r 0).toNat : Int) = x) (ht : peekT r 0 (-6) = t) (hl : r.take (r.length - 1) = r') :
    Calls Tryz.prog 88 #[.pointer (some ⟨gr, 0, none⟩)] w fun e w' => e = .returned (.tuple #[.int .u32 x, .int .i32 t]) ∧ ∃ κ', Lab w0 κ' w' gs gr gm room s r' win ram ∧ Step κ w κ' w' := by
  obtain ⟨b, v, hs, c1, c2⟩ := h.back
  exact (Pop_at hs).mono fun e w' ⟨v', he, h1, hk, ho⟩ => ⟨by rw [he, ht]; unfold uv; rw [hx], hl ▸ h.back_to hs c1 c2 h1 hk (.inl ho)⟩
theorem PushR_lab (h : Lab w0 κ w gs gr gm room s r win ram) (xv : Value) (x : List (BitVec 32)) (M off : Nat) (hx : UReads w xv x M off) (hxl : x.length ≤ maxLen) (t : Int) (r' : List (BitVec 32)) (ht : pushT room (-5) r x = t) (hl : pushL room r x = r') :
    Calls Tryz.prog 14 #[.pointer (some ⟨gr, 0, none⟩), xv] w fun e w' => e = .returned (.int .i32 t) ∧ ∃ κ', Lab w0 κ' w' gs gr gm room s r' win ram ∧ Step κ w κ' w' := by
  obtain ⟨b, v, hs, c1, c2⟩ := h.back
  exact (Push_new hs xv x M off hx hxl).mono fun e w' ⟨v', he, h1, hk, ho⟩ => ⟨by rw [he, ht], hl ▸ h.back_to hs c1 c2 h1 hk ho⟩
theorem AllR_lab (h : Lab w0 κ w gs gr gm room s r win ram) :
    Calls Tryz.prog 5 #[.pointer (some ⟨gr, 0, none⟩)] w fun e w' => ∃ a c M, e = .returned (.slice a r.length c) ∧ UReads w' (.slice a r.length c) r M 0 ∧ (r ≠ [] → w.heap.size ≤ M ∧ M < w'.heap.size) ∧ Keeps [] w w' := by
  obtain ⟨b, v, hs, _⟩ := h.back
  refine (All_at hs).mono ?_
  rintro e w' ⟨u, rfl, ho, hk⟩
  obtain ⟨M, hr, hM⟩ := UReads.owns ho
  obtain ⟨a, c, rfl, _⟩ := hr.shape
  exact ⟨a, c, M, rfl, hr, fun hl => ⟨(hM hl).2.1, (hM hl).2.2⟩, hk⟩

/-! ### memory's -/
theorem Load_lab (h : Lab w0 κ w gs gr gm room s r win ram) (Ai : Int) (A : Nat) (hA : Ai = A) (a1 : A < 4294967296) (x t : Int) (hx : (loadX win ram A : Int) = x) (ht : loadT win ram A = t) :
    Calls Tryz.prog 91 #[.pointer (some ⟨gm, 0, none⟩), .int .u32 Ai] w fun e w' => e = .returned (.tuple #[.int .u32 x, .int .i32 t]) ∧ Keeps [] w w' := by
  subst hA
  obtain ⟨rb, M, wv, hm, _⟩ := h.mem
  exact (Load_at hm A a1).mono fun e w' ⟨he, hk⟩ => ⟨by rw [he, hx, ht], hk⟩
theorem Byte_lab (h : Lab w0 κ w gs gr gm room s r win ram) (Ai : Int) (A : Nat) (hA : Ai = A) (a1 : A < 4294967296) (x t : Int) (hx : ((byteX win ram A).toNat : Int) = x) (ht : tT win ram A 1 = t) :
    Calls Tryz.prog 94 #[.pointer (some ⟨gm, 0, none⟩), .int .u32 Ai] w fun e w' => e = .returned (.tuple #[.int .u8 x, .int .i32 t]) ∧ Keeps [] w w' := by
  subst hA
  obtain ⟨rb, M, wv, hm, _⟩ := h.mem
  exact (Byte_at hm A a1).mono fun e w' ⟨he, hk⟩ => ⟨by rw [he, ht]; unfold bv; rw [hx], hk⟩
theorem Store_lab (h : Lab w0 κ w gs gr gm room s r win ram) (Ai xi : Int) (A x : Nat) (hA : Ai = A) (hx : xi = x) (a1 : A < 4294967296) (x1 : x < 4294967296) (t : Int) (ram' : List UInt8) (ht : storeT win ram A = t) (hr : storeL ram A x = ram') :
    Calls Tryz.prog 100 #[.pointer (some ⟨gm, 0, none⟩), .int .u32 Ai, .int .u32 xi] w fun e w' => e = .returned (.int .i32 t) ∧ ∃ κ', Lab w0 κ' w' gs gr gm room s r win ram' ∧ Step κ w κ' w' := by
  subst hA hx
  obtain ⟨rb, M, wv, hm, e1, e2, e3⟩ := h.mem
  exact (Store_at hm A x a1 x1).mono fun e w' ⟨he, h1, hk⟩ => ⟨by rw [he, ht], κ, hr ▸ h.mem_to e1 e2 e3 h1 hk⟩
theorem Fill_lab (h : Lab w0 κ w gs gr gm room s r win ram) (Ai ni ci : Int) (A n : Nat) (c : UInt8) (hA : Ai = A) (hn : ni = n) (hc : ci = c.toNat) (a1 : A < 4294967296) (n1 : n < 4294967296) (t : Int) (ram' : List UInt8) (ht : pT win ram A n = t) (hr : pL ram A (List.replicate n c) = ram') :
    Calls Tryz.prog 110 #[.pointer (some ⟨gm, 0, none⟩), .int .u32 Ai, .int .u32 ni, .int .u8 ci] w fun e w' => e = .returned (.int .i32 t) ∧ ∃ κ', Lab w0 κ' w' gs gr gm room s r win ram' ∧ Step κ w κ' w' := by
  subst hA hn hc
  obtain ⟨rb, M, wv, hm, e1, e2, e3⟩ := h.mem
  exact (Fill_at hm A n a1 n1 c).mono fun e w' ⟨he, h1, hk⟩ => ⟨by rw [he, ht], κ, hr ▸ h.mem_to e1 e2 e3 h1 hk⟩
theorem SetByte_lab (h : Lab w0 κ w gs gr gm room s r win ram) (Ai ci : Int) (A : Nat) (c : UInt8) (hA : Ai = A) (hc : ci = c.toNat) (a1 : A < 4294967296) (t : Int) (ram' : List UInt8) (ht : pT win ram A 1 = t) (hr : pL ram A [c] = ram') :
    Calls Tryz.prog 102 #[.pointer (some ⟨gm, 0, none⟩), .int .u32 Ai, .int .u8 ci] w fun e w' => e = .returned (.int .i32 t) ∧ ∃ κ', Lab w0 κ' w' gs gr gm room s r win ram' ∧ Step κ w κ' w' := by
  subst hA hc
  obtain ⟨rb, M, wv, hm, e1, e2, e3⟩ := h.mem
  exact (SetByte_at hm A a1 c).mono fun e w' ⟨he, h1, hk⟩ => ⟨by rw [he, ht], κ, hr ▸ h.mem_to e1 e2 e3 h1 hk⟩
theorem Move_lab (h : Lab w0 κ w gs gr gm room s r win ram) (Ai Bi ni : Int) (A B n : Nat) (hA : Ai = A) (hB : Bi = B) (hn : ni = n) (a1 : A < 4294967296) (b1 : B < 4294967296) (n1 : n < 4294967296) (t : Int) (ram' : List UInt8) (ht : moveT win ram A B n = t) (hr : moveL win ram A B n = ram') :
    Calls Tryz.prog 108 #[.pointer (some ⟨gm, 0, none⟩), .int .u32 Ai, .int .u32 Bi, .int .u32 ni] w fun e w' => e = .returned (.int .i32 t) ∧ ∃ κ', Lab w0 κ' w' gs gr gm room s r win ram' ∧ Step κ w κ' w' := by
  subst hA hB hn
  obtain ⟨rb, M, wv, hm, e1, e2, e3⟩ := h.mem
  exact (Move_at hm A B n a1 b1 n1).mono fun e w' ⟨he, h1, hk⟩ => ⟨by rw [he, ht], κ, hr ▸ h.mem_to e1 e2 e3 h1 hk⟩
theorem Ram_lab (h : Lab w0 κ w gs gr gm room s r win ram) :
    Calls Tryz.prog 6 #[.pointer (some ⟨gm, 0, none⟩)] w fun e w' => ∃ a c M', e = .returned (.slice a ram.length c) ∧ Reads w' (.slice a ram.length c) ram M' ∧ w.heap.size ≤ M' ∧ M' < w'.heap.size ∧ Keeps [] w w' := by
  obtain ⟨rb, M, wv, hm, _⟩ := h.mem
  exact Ram_at hm
theorem BytesM_lab (h : Lab w0 κ w gs gr gm room s r win ram) (Ai ni : Int) (A n : Nat) (hA : Ai = A) (hn : ni = n) (a1 : A < 4294967296) (n1 : n < 4294967296) (L : List UInt8) (t : Int) (hL : gL win ram A n = L) (ht : tT win ram A n = t) :
    Calls Tryz.prog 7 #[.pointer (some ⟨gm, 0, none⟩), .int .u32 Ai, .int .u32 ni] w fun e w' => ∃ a c M', e = .returned (.tuple #[.slice a L.length c, .int .i32 t]) ∧ Reads w' (.slice a L.length c) L M' ∧ (L ≠ [] → w.heap.size ≤ M' ∧ M' < w'.heap.size) ∧ Keeps [] w w' := by
  subst hA hn
  obtain ⟨rb, M, wv, hm, _⟩ := h.mem
  rw [← hL, ← ht]
  exact Bytes_at hm A n a1 n1
end
end Go.Proofs.YtfnjjanknfmibaaGreat
