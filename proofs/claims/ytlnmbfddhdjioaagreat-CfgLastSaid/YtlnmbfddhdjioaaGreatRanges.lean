/-
  A range over a function that keeps cells of its own between two rounds: what it owes (Yields), and what the loop over it may say (wpIn_range_known). No function of the program is named here.
  A range over a function that yields what it has just made, in memory of its own, and whose caller's rounds make memory, too: what it owes (YieldsM), and what the loop over it may say (wpIn_range_made). Every round ends normally. No function of the program is named here.
-/
import Derived.RangeFuncNested
import Derived.RangeFuncBound
import Derived.RangeFuncCalls
import Derived.RangeFuncLeaves
import Derived.Shelf.Abstract
import Derived.Shelf.RegionOpen
import Derived.WalkKit
import Derived.OwnWalkIn
import Derived.TacticsInMore
import Derived.LoopNIn
import Derived.LoopIn
import Derived.Test.YtlnmbfddhdjioaaGreatGround
import Derived.Deep.MidRow
import Derived.Deep.RegionWith
namespace Go.Proofs.YtlnmbfddhdjioaaGreat
open Go.RowKit

theorem notMem1 {a b : Nat} (h : a ≠ b) : a ∉ [b] := fun hm => h (by simpa using hm)

/-- A load of a row out of the middle of a block, as one step of a region that draws its order. -/
theorem step_load_mid {P : Program} {ops : Array Oper} {o : Oper} {a : Act} {w : World} {K : Act → World → Prop} {Q : Exit → Act → World → Prop} {E : Prop} (hgd : o.guard = none) (ty : TypeId) (x : Operand) (ho : o.op = .load ty x)
    (b off : Nat) (hx : a.eval x = .pointer (some ⟨b, off, none⟩)) (cs : List Value) (d : TypeDesc) (hc : w.rangeAt b off cs) (hu : P.underlying ty = some d) (hd : d.isRow = true) (hi : (P.info? ty).map (·.size) = some cs.length)
    (h : K (a.put o.dst (.agg cs.toArray)) w) : if Region.wanted o (yielded ops a.tmps) = true then Oper.wp P o a w K Q else E := by
  rw [if_pos (by simp [Region.wanted, hgd])]
  exact wp_load_mid ty x ho b off hx cs d hc hu hd hi h

theorem step_store_mid {P : Program} {ops : Array Oper} {o : Oper} {a : Act} {w : World} {K : Act → World → Prop} {Q : Exit → Act → World → Prop} {E : Prop} (hgd : o.guard = none) (ty : TypeId) (x y : Operand) (ho : o.op = .store ty x y)
    (b off : Nat) (cells : Array Value) (hx : a.eval x = .pointer (some ⟨b, off, none⟩)) (hy : a.eval y = .agg cells) (ht : w.there b off cells.size) (hi : (P.info? ty).map (·.size) = some cells.size) (h1 : cells.all (·.oneCell') = true)
    (h : K (a.put o.dst undef) (w.setCells b off cells.toList)) : if Region.wanted o (yielded ops a.tmps) = true then Oper.wp P o a w K Q else E := by
  rw [if_pos (by simp [Region.wanted, hgd])]
  exact wp_store_mid ty x y ho b off cells hx hy ht hi h1 h

/-- A piece of code that ends at its end alone: what else may be asked of it is let go (regions in a frame that bears a mark). -/
def onlyNormal (Q : Exit → Act → World → Prop) : Exit → Act → World → Prop
  | .normal, a, w => Q .normal a w
  | _, _, _ => False

theorem wp_only {P : Program} {c : Code} {Q : Exit → Act → World → Prop} {a : Act} {w : World} (h : c.wp P (onlyNormal Q) a w) : c.wp P Q a w :=
  wp_mono h fun e a w hq => by
    cases e with
    | normal => exact hq
    | _ => exact hq.elim

/-- What is said of a world is said of blocks below n alone. -/
def Lies (n : Nat) (J : World → Prop) : Prop := ∀ A B, Below n A B → J A → J B

theorem Lies.mono {n m : Nat} {J : World → Prop} (h : Lies n J) (hm : n ≤ m) : Lies m J := fun A B hb hj => h A B (hb.mono hm) hj

/-- A function, ranged over, yields just xs, one after the other, unless it is stopped; Kp: what it wants a round to keep. -/
def Yields {α : Type} (P : Program) (n : Nat) (g : FuncId) (lb : Array Value) (encs : α → Array Value) (Kp : World → World → Prop) (xs : List α) (w : World) : Prop :=
  ∀ (l : Nat) (J : Nat → World → Prop) (Jx : World → Prop) (W : World), Keeps [] w W → (∀ k, Lies W.heap.size (J k)) → Lies W.heap.size Jx →
    (∀ k x W1, xs[k]? = some x → J k W1 → YieldAt Fence.wide (n - 1) P l (encs x) W1 fun e W' => (e = .returned (.bool true) ∧ J (k + 1) W' ∧ Kp W1 W') ∨ (e = .returned (.bool false) ∧ Jx W')) →
    J 0 W → CallsIn Fence.wide n P g (#[.func (.yield l) #[] #[]] ++ lb) W fun e W' => (∃ v, e = .returned v) ∧ (J xs.length W' ∨ Jx W')

/-- How a round's body may be left. -/
def goesOn (B : Nat) (Kp : World → World → Prop) (I : World → Prop) (Ix : Code → World → Prop) (W : World) : Exit → Act → World → Prop
  | .normal, _, W' => KeepsFrom B W W' ∧ Kp W W' ∧ I W'
  | .ret, _, W' => KeepsFrom B W W' ∧ Ix .ret W'
  | .exit id, _, W' => KeepsFrom B W W' ∧ Ix (.exit id) W'
  | .goto t, _, W' => KeepsFrom B W W' ∧ Ix (.goto t) W'
  | .panic _, _, _ => False
  | .outgrown, _, _ => False

theorem below_put {n : Nat} (W : World) (l : Nat) {o : Obj} (o' : Obj) (hl : n ≤ l) (h : W.heap[l]? = some o) : Below n W (W.putObj l o') :=
  (Below.refl n W).grown (grownBy_putObj' W l o') (by have := (Array.getElem?_eq_some_iff.1 h).1; omega) (fun k e => by cases e; exact hl)

set_option maxHeartbeats 1000000 in
theorem wpIn_range_known {α : Type} {P : Program} {n : Nat} {g : Operand} {ps : Array Tmp} {assign body : Code} {Q : Exit → Act → World → Prop} {a : Act} {w : World}
    {gf : Nat} {lb : Array Value} (hg : a.eval g = .func (.func gf) #[] lb) (eg : ∀ args w, (callFunc gf args).run P w = .ok (.enter gf args) w)
    {encs : α → Array Value} {Kp : World → World → Prop} {xs : List α} {w0 : World} (hseq : Yields P (n - 1) gf lb encs Kp xs w0) (h0w : Keeps [] w0 w)
    (hKt : ∀ {A B C : World}, Kp A B → Kp B C → Kp A C) (hKb : ∀ (W : World) (l : Nat) (o o' : Obj), w.heap.size ≤ l → W.heap[l]? = some o → o.isCells = false → Kp W (W.putObj l o')) (hps : ∀ x, (encs x).size = ps.size)
    (I : Nat → World → Prop) (Ix : Code → World → Prop) (hI : ∀ k, Lies w.heap.size (I k)) (hIx : ∀ c, Lies w.heap.size (Ix c)) (h0 : I 0 w) (a₁ : α → Act)
    (hassign : ∀ (l : Nat) (x : α) (W : World) (K : Act → World → Prop), K (a₁ x) W →
      assign.wpIn (Fence.wide.inRound l) (n - 1 - 1) P (Exit.then K (fun _ _ _ => False)) { tmps := (ps.zip (encs x)).foldl (fun t (p, v) => t.setIfInBounds p v) a.tmps, defers := [] } W)
    (hbody : ∀ (l k : Nat) (x : α) (W : World), xs[k]? = some x → I k W → w.heap.size + 1 < W.heap.size → body.wpIn (Fence.wide.inRound l) (n - 1 - 1) P (goesOn w.heap.size Kp (I (k + 1)) Ix W) (a₁ x) W)
    (hdone : ∀ (D : Nat) (W : World), w.heap.size ≤ D → I xs.length W → W.heap[D]? = some (.deferred (some [])) → Q .normal { a with defers := { target := .collected D, args := #[] } :: a.defers } W)
    (hstop : ∀ (D : Nat) (c : Code) (W : World), w.heap.size ≤ D → Ix c W → W.heap[D]? = some (.deferred (some [])) → c.wpIn Fence.wide n P Q { a with defers := { target := .collected D, args := #[] } :: a.defers } W) :
    (Code.rangeFunc g ps assign body).wpIn Fence.wide n P Q a w := by
  refine wpIn_rangeFunc ?_
  intro fn hfn
  -- the loop's record, in its two states
  obtain ⟨rec, hrec⟩ : ∃ rec : LoopState → Option Code → Loop, rec = fun st pe => { state := st, pending := pe, fn, tmps := a.tmps, params := ps, assign, body, defers := w.heap.size } := ⟨_, rfl⟩
  obtain ⟨V, hV⟩ : ∃ V, (w.alloc (.deferred (some []))).alloc (.loop (rec .ready none)) = V := ⟨_, rfl⟩
  have sV : V.heap.size = w.heap.size + 1 + 1 := by rw [← hV]; simp
  have rV : V.heap[w.heap.size + 1]? = some (.loop (rec .ready none)) := by
    rw [← hV]
    have := World.alloc_heap_new (w.alloc (.deferred (some []))) (.loop (rec .ready none))
    rwa [World.size_alloc] at this
  have dV : V.heap[w.heap.size]? = some (.deferred (some [])) := by
    rw [← hV]
    exact (Below.heap_alloc _ _ _ (by simp)).trans (World.alloc_heap_new w _)
  have bV : Below w.heap.size w V := by
    rw [← hV]; exact ((Below.refl _ w).alloc (Nat.le_refl _) _).alloc (by simp) _
  -- what is said of the record and of the block of deferred calls
  have stays : ∀ (R : World → Prop) (o o' : Obj), Lies w.heap.size R → Lies V.heap.size (fun W => R W ∧ W.heap[w.heap.size + 1]? = some o ∧ W.heap[w.heap.size]? = some o') := by
    intro R o o' hR A B hb ⟨h1, h2, h3⟩
    exact ⟨hR A B (hb.mono (by omega)) h1, (hb.block _ (by omega)).trans h2, (hb.block _ (by omega)).trans h3⟩
  refine ⟨w.heap.size + 1, [{ target := .collected w.heap.size, args := #[] }], V, { target := .fn (.func gf) lb, args := #[.func (.yield (w.heap.size + 1)) #[] #[]] }, V, gf,
    #[.func (.yield (w.heap.size + 1)) #[] #[]] ++ lb, V, by rw [← hV, hrec]; exact run_enterLoop_outer _ _ _ _ _, by simp only [resolve, hg]; simp [go_sem], fun _ _ => trivial, by simp [invoke, go_sem, eg], (fun h => by cases h), ?_⟩
  refine (hseq (w.heap.size + 1) (fun k W => I k W ∧ W.heap[w.heap.size + 1]? = some (.loop (rec .ready none)) ∧ W.heap[w.heap.size]? = some (.deferred (some [])))
    (fun W => ∃ c, Ix c W ∧ W.heap[w.heap.size + 1]? = some (.loop (rec .done (some c))) ∧ W.heap[w.heap.size]? = some (.deferred (some []))) V
    (h0w.trans (Keeps.ofBelow bV)) (fun k => stays _ _ _ (hI k)) (fun A B hb ⟨c, h⟩ => ⟨c, stays _ _ _ (hIx c) A B hb h⟩) ?_ ⟨hI 0 _ _ bV h0, rV, dV⟩).mono ?_
  · intro k x W hx ⟨hi, hl, hd⟩
    have hlt : w.heap.size + 1 < W.heap.size := (Array.getElem?_eq_some_iff.1 hl).1
    have hy := run_yield (P := P) (args := encs x) hl (by rw [hrec]; exact hps x)
    rw [hrec] at hy
    refine ⟨fn, _, assign, body, hy, roundIn_of_wpIn hfn (hassign _ x W _ ⟨_, run_beginRound hl (by rw [hrec]), ?_⟩)⟩
    obtain ⟨U, hU⟩ : ∃ U, W.putObj (w.heap.size + 1) (.loop { rec .ready none with state := .busy }) = U := ⟨_, rfl⟩
    rw [hU]
    have lU : U.heap[w.heap.size + 1]? = some (.loop { rec .ready none with state := .busy }) := by rw [← hU]; exact World.putObj_heap_same hlt
    have dU : U.heap[w.heap.size]? = some (.deferred (some [])) := by rw [← hU]; exact (World.putObj_heap_other (by omega)).trans hd
    have kU : Kp W U := by rw [← hU]; exact hKb _ _ _ _ (by omega) hl rfl
    have bU : Below w.heap.size W U := by rw [← hU]; exact below_put W _ _ (by omega) hl
    refine wpIn_mono (hbody _ k x U hx (hI k _ _ bU hi) (by have := bU.size; omega)) ?_
    -- the round's end
    have fin : ∀ (jump : Option Code) (X : World), KeepsFrom w.heap.size U X →
        ∃ Y, (Instr.endRound (w.heap.size + 1) jump).run P X = .ok (.bool jump.isNone) Y ∧ Below w.heap.size X Y ∧ Y.heap[w.heap.size + 1]? = some (.loop (rec (if jump.isNone then .ready else .done) jump)) ∧
          Y.heap[w.heap.size]? = some (.deferred (some [])) ∧ Kp X Y := by
      intro jump X hX
      have lX := hX.same _ _ (by omega) lU rfl
      have hr := run_endRound (P := P) jump lX
      refine ⟨_, hr, below_put X _ _ (by omega) lX, ?_, (World.putObj_heap_other (by omega)).trans (hX.same _ _ (Nat.le_refl _) dU rfl), hKb _ _ _ _ (by omega) lX rfl⟩
      rw [World.putObj_heap_same (Array.getElem?_eq_some_iff.1 lX).1, hrec]
    intro e a3 X hp
    cases e with
    | normal =>
      obtain ⟨h1, h2, h3⟩ := hp
      obtain ⟨Y, hr, bY, lY, dY, kY⟩ := fin none X h1
      exact ⟨_, _, hr, .inl ⟨rfl, ⟨hI _ _ _ bY h3, lY, dY⟩, hKt (hKt kU h2) kY⟩⟩
    | ret =>
      obtain ⟨h1, h3⟩ := hp
      obtain ⟨Y, hr, bY, lY, dY, kY⟩ := fin (some .ret) X h1
      exact ⟨_, _, hr, .inr ⟨rfl, _, hIx _ _ _ bY h3, lY, dY⟩⟩
    | exit id =>
      obtain ⟨h1, h3⟩ := hp
      obtain ⟨Y, hr, bY, lY, dY, kY⟩ := fin (some (.exit id)) X h1
      exact ⟨_, _, hr, .inr ⟨rfl, _, hIx _ _ _ bY h3, lY, dY⟩⟩
    | goto t =>
      obtain ⟨h1, h3⟩ := hp
      obtain ⟨Y, hr, bY, lY, dY, kY⟩ := fin (some (.goto t)) X h1
      exact ⟨_, _, hr, .inr ⟨rfl, _, hIx _ _ _ bY h3, lY, dY⟩⟩
    | panic _ => exact hp.elim
    | outgrown => exact hp.elim
  · rintro e X ⟨⟨v, rfl⟩, ⟨hi, hl, hd⟩ | ⟨c, hi, hl, hd⟩⟩
    · have hr := run_endLoop (P := P) hl (by rw [hrec]; simp)
      refine ⟨none, _, by rw [hrec] at hr; exact hr, hdone _ _ (Nat.le_refl _) (hI _ _ _ (below_put X _ _ (by omega) hl) hi) ((World.putObj_heap_other (by omega)).trans hd)⟩
    · have hr := run_endLoop (P := P) hl (by rw [hrec]; simp)
      refine ⟨some c, _, by rw [hrec] at hr; exact hr, hstop _ c _ (Nat.le_refl _) (hIx c _ _ (below_put X _ _ (by omega) hl) hi) ((World.putObj_heap_other (by omega)).trans hd)⟩
end Go.Proofs.YtlnmbfddhdjioaaGreat

namespace Go.Proofs.YtlnmbfddhdjioaaGreat
open Go.RowKit

/-- What a round keeps: cells of blocks that were there when the loop began (but those of S), and of blocks from m on. -/
def Kept (n0 : Nat) (S : List Nat) (m : Nat) (W X : World) : Prop :=
  W.heap.size ≤ X.heap.size ∧ ∀ (k : Nat) (o : Obj), ((k < n0 ∧ k ∉ S) ∨ m ≤ k) → W.heap[k]? = some o → o.isCells = true → X.heap[k]? = some o

theorem Kept.ofKeeps {n0 m : Nat} {S T : List Nat} {W X : World} (h : Keeps T W X) (hT : ∀ x ∈ T, (n0 ≤ x ∨ x ∈ S) ∧ x < m) : Kept n0 S m W X :=
  ⟨h.size, fun k o hk ho _ => h.obj ho (fun hm => by
    obtain ⟨h1, h2⟩ := hT k hm
    rcases hk with ⟨a, b⟩ | a
    · rcases h1 with h1 | h1
      · omega
      · exact b h1
    · omega)⟩

theorem Whole.kept {n0 m : Nat} {S : List Nat} {w w' : World} {b : Nat} {T : TypeId} {xs : List Value} (h : Whole w b T xs) (hk : Kept n0 S m w w') (hb : (b < n0 ∧ b ∉ S) ∨ m ≤ b) : Whole w' b T xs := hk.2 b _ hb h rfl

theorem cells_of_cell {w : World} {p : Addr} {v : Value} (h : w.cell? p = some v) : ∃ o, w.heap[p.block]? = some o ∧ o.isCells = true := by
  unfold World.cell? at h
  split at h
  · rename_i cs T fz he
    exact ⟨_, he, rfl⟩
  all_goals cases h

theorem Kept.cell {n0 m : Nat} {S : List Nat} {w w' : World} {p : Addr} {v : Value} (hk : Kept n0 S m w w') (h : w.cell? p = some v) (hb : (p.block < n0 ∧ p.block ∉ S) ∨ m ≤ p.block) : w'.cell? p = some v := by
  obtain ⟨o, ho, hc⟩ := cells_of_cell h
  exact (World.cell?_of_block ((hk.2 p.block o hb ho hc).trans ho.symm)).trans h

theorem Reads.kept {n0 m : Nat} {S : List Nat} {w w' : World} {v : Value} {l : List UInt8} {M : Nat} (h : Reads w v l M) (hk : Kept n0 S m w w') (hM : (M < n0 ∧ M ∉ S) ∨ m ≤ M) : Reads w' v l M := by
  rcases h with h | ⟨ad, cap, hv, hcap, hb, hc⟩
  · exact .inl h
  · refine .inr ⟨ad, cap, hv, hcap, hb, fun i c hi => hk.cell (hc i c hi) ?_⟩
    rw [Addr.add_block, hb (by intro e; simp [e] at hi)]
    exact hM

/-- A property of worlds that new blocks do not touch. -/
def Stays (J : World → Prop) : Prop := ∀ A B, Below A.heap.size A B → J A → J B

def YieldsM {α : Type} (P : Program) (n : Nat) (g : FuncId) (lb : Array Value) (Enc : α → Array Value → World → Prop) (n0 : Nat) (S : List Nat) (xs : List α) (w : World) : Prop :=
  ∀ (l : Nat) (J : Nat → World → Prop) (W : World), Keeps [] w W → n0 ≤ W.heap.size → (∀ k, Stays (J k)) →
    (∀ (k : Nat) (x : α) (args : Array Value) (W0 W1 : World), xs[k]? = some x → J k W0 → W.heap.size ≤ W0.heap.size → Below W0.heap.size W0 W1 → Enc x args W1 →
      YieldAt Fence.wide (n - 1) P l args W1 fun e W' => e = .returned (.bool true) ∧ J (k + 1) W' ∧ Kept n0 S W0.heap.size W1 W') →
    J 0 W → CallsIn Fence.wide n P g (#[.func (.yield l) #[] #[]] ++ lb) W fun e W' => (∃ v, e = .returned v) ∧ J xs.length W'

/-- How a round's body ends. -/
def goesOnM (n0 : Nat) (S : List Nat) (m : Nat) (I : World → Prop) (W : World) : Exit → Act → World → Prop
  | .normal, _, W' => KeepsFrom n0 W W' ∧ Kept n0 S m W W' ∧ I W'
  | _, _, _ => False

theorem putObj_cells {W : World} {l k : Nat} {o o' u : Obj} (hl : W.heap[l]? = some o) (ho : o.isCells = false) (hk : W.heap[k]? = some u) (hu : u.isCells = true) : (W.putObj l o').heap[k]? = some u := by
  have : l ≠ k := by
    intro e; subst e
    rw [hk] at hl; cases hl; rw [ho] at hu; cases hu
  rw [World.putObj_heap_other (fun e => this e.symm)]; exact hk

theorem putObj_cells_back {W : World} {l k : Nat} {o' u : Obj} (ho : o'.isCells = false) (hl : l < W.heap.size) (hk : (W.putObj l o').heap[k]? = some u) (hu : u.isCells = true) : W.heap[k]? = some u := by
  by_cases e : l = k
  · subst e
    rw [World.putObj_heap_same hl] at hk
    cases hk; rw [ho] at hu; cases hu
  · rw [World.putObj_heap_other (fun h => e h.symm)] at hk; exact hk

set_option maxHeartbeats 1000000 in
theorem wpIn_range_made {α : Type} {P : Program} {n : Nat} {g : Operand} {ps : Array Tmp} {assign body : Code} {Q : Exit → Act → World → Prop} {a : Act} {w : World}
    {gf : Nat} {lb : Array Value} (hg : a.eval g = .func (.func gf) #[] lb) (eg : ∀ args w, (callFunc gf args).run P w = .ok (.enter gf args) w)
    {Enc : α → Array Value → World → Prop} {S : List Nat} {xs : List α} {w0 : World} (hseq : YieldsM P (n - 1) gf lb Enc w.heap.size S xs w0) (h0w : Keeps [] w0 w)
    (hps : ∀ x args W, Enc x args W → args.size = ps.size)
    (I : Nat → World → Prop) (hIe : ∀ k, Stays (I k)) (hIp : ∀ (k : Nat) (W : World) (lp : Nat) (o o' : Obj), w.heap.size ≤ lp → W.heap[lp]? = some o → o.isCells = false → I k W → I k (W.putObj lp o'))
    (h0 : I 0 w) (Out : α → Array Value → World → Act → World → Prop)
    (hassign : ∀ (l k : Nat) (x : α) (args : Array Value) (W0 W1 : World) (K : Act → World → Prop), xs[k]? = some x → Below W0.heap.size W0 W1 → Enc x args W1 →
      (∀ a' W', Below W1.heap.size W1 W' → Out x args W0 a' W' → K a' W') →
      assign.wpIn (Fence.wide.inRound l) (n - 1 - 1) P (Exit.then K (fun _ _ _ => False)) { tmps := (ps.zip args).foldl (fun t (p, v) => t.setIfInBounds p v) a.tmps, defers := [] } W1)
    (hOut : ∀ (x : α) (args : Array Value) (W0 : World) (a' : Act) (W' : World) (lp : Nat) (o o' : Obj), W'.heap[lp]? = some o → o.isCells = false → Out x args W0 a' W' → Out x args W0 a' (W'.putObj lp o'))
    (hbody : ∀ (l k : Nat) (x : α) (args : Array Value) (W0 : World) (a' : Act) (W' : World), xs[k]? = some x → I k W0 → w.heap.size + 1 < W0.heap.size → W0.heap.size ≤ W'.heap.size → I k W' → Out x args W0 a' W' →
      (∀ (j : Nat) (o : Obj), j < W0.heap.size → W0.heap[j]? = some o → o.isCells = true → W'.heap[j]? = some o) →
      body.wpIn (Fence.wide.inRound l) (n - 1 - 1) P (goesOnM w.heap.size S W0.heap.size (I (k + 1)) W') a' W')
    (hdone : ∀ (D : Nat) (W : World), w.heap.size ≤ D → I xs.length W → W.heap[D]? = some (.deferred (some [])) → Q .normal { a with defers := { target := .collected D, args := #[] } :: a.defers } W) :
    (Code.rangeFunc g ps assign body).wpIn Fence.wide n P Q a w := by
  refine wpIn_rangeFunc ?_
  intro fn hfn
  obtain ⟨rec, hrec⟩ : ∃ rec : LoopState → Option Code → Loop, rec = fun st pe => { state := st, pending := pe, fn, tmps := a.tmps, params := ps, assign, body, defers := w.heap.size } := ⟨_, rfl⟩
  obtain ⟨V, hV⟩ : ∃ V, (w.alloc (.deferred (some []))).alloc (.loop (rec .ready none)) = V := ⟨_, rfl⟩
  have sV : V.heap.size = w.heap.size + 1 + 1 := by rw [← hV]; simp
  have rV : V.heap[w.heap.size + 1]? = some (.loop (rec .ready none)) := by
    rw [← hV]
    have := World.alloc_heap_new (w.alloc (.deferred (some []))) (.loop (rec .ready none))
    rwa [World.size_alloc] at this
  have dV : V.heap[w.heap.size]? = some (.deferred (some [])) := by
    rw [← hV]
    exact (Below.heap_alloc _ _ _ (by simp)).trans (World.alloc_heap_new w _)
  have bV : Below w.heap.size w V := by
    rw [← hV]; exact ((Below.refl _ w).alloc (Nat.le_refl _) _).alloc (by simp) _
  have stays : ∀ (R : World → Prop) (o o' : Obj), Stays R → Stays (fun W => R W ∧ W.heap[w.heap.size + 1]? = some o ∧ W.heap[w.heap.size]? = some o') := by
    intro R o o' hR A B hb ⟨h1, h2, h3⟩
    have l1 := (Array.getElem?_eq_some_iff.1 h2).1
    exact ⟨hR A B hb h1, (hb.block _ l1).trans h2, (hb.block _ (by omega)).trans h3⟩
  refine ⟨w.heap.size + 1, [{ target := .collected w.heap.size, args := #[] }], V, { target := .fn (.func gf) lb, args := #[.func (.yield (w.heap.size + 1)) #[] #[]] }, V, gf,
    #[.func (.yield (w.heap.size + 1)) #[] #[]] ++ lb, V, by rw [← hV, hrec]; exact run_enterLoop_outer _ _ _ _ _, by simp only [resolve, hg]; simp [go_sem], fun _ _ => trivial, by simp [invoke, go_sem, eg], (fun h => by cases h), ?_⟩
  refine (hseq (w.heap.size + 1) (fun k W => I k W ∧ W.heap[w.heap.size + 1]? = some (.loop (rec .ready none)) ∧ W.heap[w.heap.size]? = some (.deferred (some []))) V
    (h0w.trans (Keeps.ofBelow bV)) (by omega) (fun k => stays _ _ _ (hIe k)) ?_ ⟨hIe 0 _ _ bV h0, rV, dV⟩).mono ?_
  · intro k x args W0 W1 hx ⟨hi0, hl0, hd0⟩ hsz hb01 henc
    have hlt0 : w.heap.size + 1 < W0.heap.size := (Array.getElem?_eq_some_iff.1 hl0).1
    have hl1 := (hb01.block _ hlt0).trans hl0
    have hd1 := (hb01.block _ (by omega)).trans hd0
    have hi1 := hIe k _ _ hb01 hi0
    have hy := run_yield (P := P) (args := args) hl1 (by rw [hrec]; exact hps x args W1 henc)
    rw [hrec] at hy
    refine ⟨fn, _, assign, body, hy, roundIn_of_wpIn hfn (hassign _ k x args W0 W1 _ hx hb01 henc ?_)⟩
    intro a' W' hb1 hout
    have hs1 := hb01.size
    have hs2 := hb1.size
    have hl2 := (hb1.block _ (by omega)).trans hl1
    have hd2 := (hb1.block _ (by omega)).trans hd1
    have hi2 := hIe k _ _ hb1 hi1
    refine ⟨_, run_beginRound hl2 (by rw [hrec]), ?_⟩
    obtain ⟨U, hU⟩ : ∃ U, W'.putObj (w.heap.size + 1) (.loop { rec .ready none with state := .busy }) = U := ⟨_, rfl⟩
    rw [hU]
    have lU : U.heap[w.heap.size + 1]? = some (.loop { rec .ready none with state := .busy }) := by rw [← hU]; exact World.putObj_heap_same (by omega)
    have dU : U.heap[w.heap.size]? = some (.deferred (some [])) := by rw [← hU]; exact (World.putObj_heap_other (by omega)).trans hd2
    have iU : I k U := by rw [← hU]; exact hIp k _ _ _ _ (by omega) hl2 rfl hi2
    have oU : Out x args W0 a' U := by rw [← hU]; exact hOut x args W0 a' _ _ _ _ hl2 rfl hout
    have sU : U.heap.size = W'.heap.size := by rw [← hU]; simp [World.putObj]
    have cU : ∀ (j : Nat) (o : Obj), j < W0.heap.size → W0.heap[j]? = some o → o.isCells = true → U.heap[j]? = some o := by
      intro j o hj ho hc
      rw [← hU]
      exact putObj_cells hl2 rfl ((hb1.block _ (by omega)).trans ((hb01.block _ hj).trans ho)) hc
    refine wpIn_mono (hbody _ k x args W0 a' U hx hi0 (by omega) (by omega) iU oU cU) ?_
    intro e a3 X hp
    cases e with
    | normal =>
      obtain ⟨h1, h2, h3⟩ := hp
      have lX := h1.same _ _ (by omega) lU rfl
      have dX := h1.same _ _ (Nat.le_refl _) dU rfl
      have hr := run_endRound (P := P) none lX
      refine ⟨_, _, hr, rfl, ⟨hIp (k + 1) _ _ _ _ (by omega) lX rfl h3, ?_, (World.putObj_heap_other (by omega)).trans dX⟩, ?_, ?_⟩
      · rw [World.putObj_heap_same (Array.getElem?_eq_some_iff.1 lX).1, hrec]; rfl
      · have := h2.1
        simp only [World.putObj, Array.size_setIfInBounds] at *
        omega
      · intro j o hj ho hc
        refine putObj_cells lX rfl (h2.2 j o hj ?_ hc) hc
        rw [← hU]
        exact putObj_cells hl2 rfl ((hb1.block _ (Array.getElem?_eq_some_iff.1 ho).1).trans ho) hc
    | ret => exact hp.elim
    | exit id => exact hp.elim
    | goto t => exact hp.elim
    | panic _ => exact hp.elim
    | outgrown => exact hp.elim
  · rintro e X ⟨⟨v, rfl⟩, hi, hl, hd⟩
    have hr := run_endLoop (P := P) hl (by rw [hrec]; simp)
    exact ⟨none, _, by rw [hrec] at hr; exact hr, hdone _ _ (Nat.le_refl _) (hIp _ _ _ _ _ (by omega) hl rfl hi) ((World.putObj_heap_other (by omega)).trans hd)⟩
end Go.Proofs.YtlnmbfddhdjioaaGreat
