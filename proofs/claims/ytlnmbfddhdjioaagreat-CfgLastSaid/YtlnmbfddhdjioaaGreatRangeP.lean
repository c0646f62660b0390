/-
  A range over a function that yields in an order that nobody knows ahead (a map's values): what it owes (YieldsP), and what the loop over it may say (wpIn_range_some). Every round ends normally. No function of the program is named here.
-/
import Derived.Test.YtlnmbfddhdjioaaGreatRanges
namespace Go.Proofs.YtlnmbfddhdjioaaGreat
open Go.RowKit

def mapish : Obj → Bool
  | .map _ _ => true
  | .mapIter _ _ _ _ => true
  | _ => false

/-- What a round keeps: cells as Kept says, and all maps and their iterators. -/
def KeptP (n0 : Nat) (S : List Nat) (m : Nat) (W X : World) : Prop := Kept n0 S m W X ∧ ∀ (k : Nat) (o : Obj), W.heap[k]? = some o → mapish o = true → X.heap[k]? = some o

/-- An iterator over a map, made since, has gone on. -/
def Turn (n0 : Nat) (A B : World) : Prop := ∃ (r : Nat) (o : Obj), n0 ≤ r ∧ A.heap[r]? = some o ∧ mapish o = true ∧ A.grownBy B (some r)

theorem Turn.obj {n0 : Nat} {A B : World} (h : Turn n0 A B) {k : Nat} {o : Obj} (hk : A.heap[k]? = some o) (ho : mapish o = false) : B.heap[k]? = some o := by
  obtain ⟨r, o', _, hr, hm, hg⟩ := h
  refine (hg.block k (Array.getElem?_eq_some_iff.1 hk).1 (fun e => ?_)).trans hk
  cases e
  rw [hk] at hr; cases hr; rw [ho] at hm; cases hm

def YieldsP {α : Type} (P : Program) (n : Nat) (g : FuncId) (lb : Array Value) (Enc : α → Array Value → World → Prop) (n0 : Nat) (S : List Nat) (Step : List α → α → Prop) (Fin : List α → Prop) (w : World) : Prop :=
  ∀ (l : Nat) (J : List α → World → Prop) (W : World), Keeps [] w W → n0 ≤ W.heap.size → (∀ k, Stays (J k)) → (∀ k A B, Turn n0 A B → J k A → J k B) →
    (∀ (k : List α) (x : α) (args : Array Value) (W0 W1 : World), Step k x → J k W0 → W.heap.size ≤ W0.heap.size → Below W0.heap.size W0 W1 → Enc x args W1 →
      YieldAt Fence.wide (n - 1) P l args W1 fun e W' => e = .returned (.bool true) ∧ J (k ++ [x]) W' ∧ KeptP n0 S W0.heap.size W1 W') →
    J [] W → CallsIn Fence.wide n P g (#[.func (.yield l) #[] #[]] ++ lb) W fun e W' => (∃ v, e = .returned v) ∧ ∃ xs, Fin xs ∧ J xs W'

/-- How a round's body ends. -/
def goesOnP (n0 : Nat) (S : List Nat) (m : Nat) (I : World → Prop) (W : World) : Exit → Act → World → Prop
  | .normal, _, W' => KeepsFrom n0 W W' ∧ KeptP n0 S m W W' ∧ I W'
  | _, _, _ => False

theorem putObj_stays {W : World} {l k : Nat} {o o' u : Obj} (hl : W.heap[l]? = some o) (ho : o.isCells = false) (hm : mapish o = false) (hk : W.heap[k]? = some u) (hu : u.isCells = true ∨ mapish u = true) : (W.putObj l o').heap[k]? = some u := by
  have : l ≠ k := by
    intro e; subst e
    rw [hk] at hl; cases hl
    rcases hu with hu | hu
    · rw [ho] at hu; cases hu
    · rw [hm] at hu; cases hu
  rw [World.putObj_heap_other (fun e => this e.symm)]; exact hk

set_option maxHeartbeats 1000000 in
theorem wpIn_range_some {α : Type} {P : Program} {n : Nat} {g : Operand} {ps : Array Tmp} {assign body : Code} {Q : Exit → Act → World → Prop} {a : Act} {w : World}
    {gf : Nat} {lb : Array Value} (hg : a.eval g = .func (.func gf) #[] lb) (eg : ∀ args w, (callFunc gf args).run P w = .ok (.enter gf args) w)
    {Enc : α → Array Value → World → Prop} {S : List Nat} {Step : List α → α → Prop} {Fin : List α → Prop} {w0 : World} (hseq : YieldsP P (n - 1) gf lb Enc w.heap.size S Step Fin w0) (h0w : Keeps [] w0 w)
    (hps : ∀ x args W, Enc x args W → args.size = ps.size)
    (I : List α → World → Prop) (hIe : ∀ k, Stays (I k)) (hIt : ∀ k A B, Turn w.heap.size A B → I k A → I k B) (hIp : ∀ (k : List α) (W : World) (lp : Nat) (o o' : Obj), w.heap.size ≤ lp → W.heap[lp]? = some o → o.isCells = false → I k W → I k (W.putObj lp o'))
    (h0 : I [] w) (Out : α → Array Value → World → Act → World → Prop)
    (hassign : ∀ (l : Nat) (k : List α) (x : α) (args : Array Value) (W0 W1 : World) (K : Act → World → Prop), Step k x → Below W0.heap.size W0 W1 → Enc x args W1 →
      (∀ a' W', Below W1.heap.size W1 W' → Out x args W0 a' W' → K a' W') →
      assign.wpIn (Fence.wide.inRound l) (n - 1 - 1) P (Exit.then K (fun _ _ _ => False)) { tmps := (ps.zip args).foldl (fun t (p, v) => t.setIfInBounds p v) a.tmps, defers := [] } W1)
    (hOut : ∀ (x : α) (args : Array Value) (W0 : World) (a' : Act) (W' : World) (lp : Nat) (o o' : Obj), W'.heap[lp]? = some o → o.isCells = false → Out x args W0 a' W' → Out x args W0 a' (W'.putObj lp o'))
    (hbody : ∀ (l : Nat) (k : List α) (x : α) (args : Array Value) (W0 : World) (a' : Act) (W' : World), Step k x → I k W0 → w.heap.size + 1 < W0.heap.size → W0.heap.size ≤ W'.heap.size → I k W' → Out x args W0 a' W' →
      (∀ (j : Nat) (o : Obj), j < W0.heap.size → W0.heap[j]? = some o → o.isCells = true ∨ mapish o = true → W'.heap[j]? = some o) →
      body.wpIn (Fence.wide.inRound l) (n - 1 - 1) P (goesOnP w.heap.size S W0.heap.size (I (k ++ [x])) W') a' W')
    (hdone : ∀ (D : Nat) (W : World) (xs : List α), Fin xs → w.heap.size ≤ D → I xs W → W.heap[D]? = some (.deferred (some [])) → Q .normal { a with defers := { target := .collected D, args := #[] } :: a.defers } W) :
    (Code.rangeFunc g ps assign body).wpIn Fence.wide n P Q a w := by
  refine wpIn_rangeFunc ?_
  intro fn hfn
  obtain ⟨rec, hrec⟩ : ∃ rec : LoopState → Option Code → Loop, rec = fun st pe => { state := st, pending := pe, fn, tmps := a.tmps, params := ps, assign, body, defers := w.heap.size } := ⟨_, rfl⟩
  obtain ⟨V, hV⟩ : ∃ V, (w.alloc (.deferred (some []))).alloc (.loop (rec .ready none)) = V := ⟨_, rfl⟩
  have sV : V.heap.size = w.heap.size + 1 + 1 := by rw [← hV]; simp
  have rV : V.heap[w.heap.size + 1]? = some (.loop (rec .ready none)) := by
    rw [← hV]
    have := World.alloc_heap_new (w.alloc (.deferred (some []))) (.loop (rec .ready none))
    rwa [World.size_alloc] at this
  have dV : V.heap[w.heap.size]? = some (.deferred (some [])) := by
    rw [← hV]
    exact (Below.heap_alloc _ _ _ (by simp)).trans (World.alloc_heap_new w _)
  have bV : Below w.heap.size w V := by
    rw [← hV]; exact ((Below.refl _ w).alloc (Nat.le_refl _) _).alloc (by simp) _
  have stays : ∀ (R : World → Prop) (o o' : Obj), Stays R → Stays (fun W => R W ∧ W.heap[w.heap.size + 1]? = some o ∧ W.heap[w.heap.size]? = some o') := by
    intro R o o' hR A B hb ⟨h1, h2, h3⟩
    have l1 := (Array.getElem?_eq_some_iff.1 h2).1
    exact ⟨hR A B hb h1, (hb.block _ l1).trans h2, (hb.block _ (by omega)).trans h3⟩
  refine ⟨w.heap.size + 1, [{ target := .collected w.heap.size, args := #[] }], V, { target := .fn (.func gf) lb, args := #[.func (.yield (w.heap.size + 1)) #[] #[]] }, V, gf,
    #[.func (.yield (w.heap.size + 1)) #[] #[]] ++ lb, V, by rw [← hV, hrec]; exact run_enterLoop_outer _ _ _ _ _, by simp only [resolve, hg]; simp [go_sem], fun _ _ => trivial, by simp [invoke, go_sem, eg], (fun h => by cases h), ?_⟩
  refine (hseq (w.heap.size + 1) (fun k W => I k W ∧ W.heap[w.heap.size + 1]? = some (.loop (rec .ready none)) ∧ W.heap[w.heap.size]? = some (.deferred (some []))) V
    (h0w.trans (Keeps.ofBelow bV)) (by omega) (fun k => stays _ _ _ (hIe k)) (fun k A B ht ⟨h1, h2, h3⟩ => ⟨hIt k A B ht h1, ht.obj h2 rfl, ht.obj h3 rfl⟩) ?_ ⟨hIe [] _ _ bV h0, rV, dV⟩).mono ?_
  · intro k x args W0 W1 hx ⟨hi0, hl0, hd0⟩ hsz hb01 henc
    have hlt0 : w.heap.size + 1 < W0.heap.size := (Array.getElem?_eq_some_iff.1 hl0).1
    have hl1 := (hb01.block _ hlt0).trans hl0
    have hd1 := (hb01.block _ (by omega)).trans hd0
    have hi1 := hIe k _ _ hb01 hi0
    have hy := run_yield (P := P) (args := args) hl1 (by rw [hrec]; exact hps x args W1 henc)
    rw [hrec] at hy
    refine ⟨fn, _, assign, body, hy, roundIn_of_wpIn hfn (hassign _ k x args W0 W1 _ hx hb01 henc ?_)⟩
    intro a' W' hb1 hout
    have hs1 := hb01.size
    have hs2 := hb1.size
    have hl2 := (hb1.block _ (by omega)).trans hl1
    have hd2 := (hb1.block _ (by omega)).trans hd1
    have hi2 := hIe k _ _ hb1 hi1
    refine ⟨_, run_beginRound hl2 (by rw [hrec]), ?_⟩
    obtain ⟨U, hU⟩ : ∃ U, W'.putObj (w.heap.size + 1) (.loop { rec .ready none with state := .busy }) = U := ⟨_, rfl⟩
    rw [hU]
    have lU : U.heap[w.heap.size + 1]? = some (.loop { rec .ready none with state := .busy }) := by rw [← hU]; exact World.putObj_heap_same (by omega)
    have dU : U.heap[w.heap.size]? = some (.deferred (some [])) := by rw [← hU]; exact (World.putObj_heap_other (by omega)).trans hd2
    have iU : I k U := by rw [← hU]; exact hIp k _ _ _ _ (by omega) hl2 rfl hi2
    have oU : Out x args W0 a' U := by rw [← hU]; exact hOut x args W0 a' _ _ _ _ hl2 rfl hout
    have sU : U.heap.size = W'.heap.size := by rw [← hU]; simp [World.putObj]
    have cU : ∀ (j : Nat) (o : Obj), j < W0.heap.size → W0.heap[j]? = some o → o.isCells = true ∨ mapish o = true → U.heap[j]? = some o := by
      intro j o hj ho hc
      rw [← hU]
      exact putObj_stays hl2 rfl rfl ((hb1.block _ (by omega)).trans ((hb01.block _ hj).trans ho)) hc
    refine wpIn_mono (hbody _ k x args W0 a' U hx hi0 (by omega) (by omega) iU oU cU) ?_
    intro e a3 X hp
    cases e with
    | normal =>
      obtain ⟨h1, h2, h3⟩ := hp
      have lX := h1.same _ _ (by omega) lU rfl
      have dX := h1.same _ _ (Nat.le_refl _) dU rfl
      have hr := run_endRound (P := P) none lX
      refine ⟨_, _, hr, rfl, ⟨hIp (k ++ [x]) _ _ _ _ (by omega) lX rfl h3, ?_, (World.putObj_heap_other (by omega)).trans dX⟩, ?_⟩
      · rw [World.putObj_heap_same (Array.getElem?_eq_some_iff.1 lX).1, hrec]; rfl
      · refine ⟨⟨?_, ?_⟩, ?_⟩
        · have := h2.1.1
          simp only [World.putObj, Array.size_setIfInBounds] at *
          omega
        · intro j o hj ho hc
          refine putObj_stays lX rfl rfl (h2.1.2 j o hj ?_ hc) (.inl hc)
          rw [← hU]
          exact putObj_stays hl2 rfl rfl ((hb1.block _ (Array.getElem?_eq_some_iff.1 ho).1).trans ho) (.inl hc)
        · intro j o ho hc
          refine putObj_stays lX rfl rfl (h2.2 j o ?_ hc) (.inr hc)
          rw [← hU]
          exact putObj_stays hl2 rfl rfl ((hb1.block _ (Array.getElem?_eq_some_iff.1 ho).1).trans ho) (.inr hc)
    | ret => exact hp.elim
    | exit id => exact hp.elim
    | goto t => exact hp.elim
    | panic _ => exact hp.elim
    | outgrown => exact hp.elim
  · rintro e X ⟨⟨v, rfl⟩, xs, hfin, hi, hl, hd⟩
    have hr := run_endLoop (P := P) hl (by rw [hrec]; simp)
    exact ⟨none, _, by rw [hrec] at hr; exact hr, hdone _ _ xs hfin (Nat.le_refl _) (hIp _ _ _ _ _ (by omega) hl rfl hi) ((World.putObj_heap_other (by omega)).trans hd)⟩
end Go.Proofs.YtlnmbfddhdjioaaGreat
