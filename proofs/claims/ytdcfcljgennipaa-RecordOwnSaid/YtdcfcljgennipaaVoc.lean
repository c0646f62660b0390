/-
  Words for worlds: what a call keeps, a row of cells at the head of a block, bytes that a slice reads as. No function of the program is named here.
-/
import Derived.WalkKit
import Derived.WalkSpells
import Derived.WalkLawsBesides
import Derived.Lib.Hide
import Derived.StillTailTactics
namespace Go.Proofs.Ytdcfcljgennipaa
open Go.RowKit

/-- A byte as a value. -/
def bv (c : UInt8) : Value := .int .u8 (c.toNat : Int)

/-- All blocks that were there, but those of S, are as they were. -/
structure Keeps (S : List Nat) (w w' : World) : Prop where
  os : w'.os = w.os
  tape : w'.tape = w.tape
  output : w'.output = w.output
  size : w.heap.size ≤ w'.heap.size
  block : ∀ k, k < w.heap.size → k ∉ S → w'.heap[k]? = w.heap[k]?

theorem Keeps.refl (S : List Nat) (w : World) : Keeps S w w := ⟨rfl, rfl, rfl, Nat.le_refl _, fun _ _ _ => rfl⟩

theorem Keeps.trans {S : List Nat} {a b c : World} (h : Keeps S a b) (k : Keeps S b c) : Keeps S a c :=
  ⟨k.os.trans h.os, k.tape.trans h.tape, k.output.trans h.output, Nat.le_trans h.size k.size,
    fun i hi hs => (k.block i (Nat.lt_of_lt_of_le hi h.size) hs).trans (h.block i hi hs)⟩

/-- Blocks that are new in between may be written, too. -/
theorem Keeps.then {S T : List Nat} {a b c : World} (h : Keeps S a b) (k : Keeps T b c) (hT : ∀ x ∈ T, x ∈ S ∨ a.heap.size ≤ x) : Keeps S a c :=
  ⟨k.os.trans h.os, k.tape.trans h.tape, k.output.trans h.output, Nat.le_trans h.size k.size,
    fun i hi hs => (k.block i (Nat.lt_of_lt_of_le hi h.size) (fun ht => by rcases hT i ht with g | g; exact hs g; omega)).trans (h.block i hi hs)⟩

theorem Keeps.mono {S T : List Nat} {a b : World} (h : Keeps S a b) (hT : ∀ x ∈ S, x ∈ T) : Keeps T a b :=
  ⟨h.os, h.tape, h.output, h.size, fun i hi hs => h.block i hi (fun g => hs (hT i g))⟩

/-- Blocks that are written, but were not there. -/
theorem Keeps.news {S T : List Nat} {a b : World} (h : Keeps S a b) (hT : ∀ x ∈ S, x ∈ T ∨ a.heap.size ≤ x) : Keeps T a b :=
  ⟨h.os, h.tape, h.output, h.size, fun i hi hs => h.block i hi (fun g => by rcases hT i g with q | q; exact hs q; omega)⟩

theorem Keeps.drew (S : List Nat) (w : World) : Keeps S w w.drew := ⟨rfl, rfl, rfl, Nat.le_refl _, fun _ _ _ => rfl⟩

theorem Keeps.drewN (S : List Nat) (w : World) (n : Nat) : Keeps S w (w.drewN n) := ⟨rfl, rfl, rfl, Nat.le_refl _, fun _ _ _ => rfl⟩

theorem Keeps.alloc (S : List Nat) (w : World) (o : Obj) : Keeps S w (w.alloc o) := ⟨rfl, rfl, rfl, by simp, fun k hk _ => Below.heap_alloc _ _ _ hk⟩

theorem Keeps.setCell {S : List Nat} (w : World) {p : Addr} (hp : p.block ∈ S) (v : Value) : Keeps S w (w.setCell p v) :=
  ⟨rfl, rfl, rfl, by simp [World.setCell], fun k _ hs => Below.heap_setCell _ _ _ _ (fun e => hs (e ▸ hp))⟩

theorem Keeps.grown {S : List Nat} {w w' : World} {row : Option Nat} (hg : w.grownBy w' row) (hr : ∀ k, row = some k → k ∈ S ∨ w.heap.size ≤ k) : Keeps S w w' :=
  ⟨hg.os, hg.tape, hg.output, hg.size, fun k hk hs => hg.block k hk (fun e => by rcases hr k e.symm with g | g; exact hs g; omega)⟩

theorem Keeps.ofBelow {S : List Nat} {w w' : World} (hb : Below w.heap.size w w') : Keeps S w w' := ⟨hb.os, hb.tape, hb.output, hb.size, fun k hk _ => hb.block k hk⟩

theorem Keeps.below {w w' : World} (h : Keeps [] w w') : Below w.heap.size w w' := ⟨h.os, h.tape, h.output, h.size, fun k hk => h.block k hk (by simp)⟩

theorem Keeps.cell {S : List Nat} {w w' : World} (h : Keeps S w w') {p : Addr} {v : Value} (hc : w.cell? p = some v) (hp : p.block ∉ S) : w'.cell? p = some v :=
  (World.cell?_of_block (h.block p.block (World.block_lt_of_cell? w p hc) hp)).trans hc

theorem Keeps.obj {S : List Nat} {w w' : World} (h : Keeps S w w') {b : Nat} {o : Obj} (hb : w.heap[b]? = some o) (hp : b ∉ S) : w'.heap[b]? = some o :=
  (h.block b (Array.getElem?_eq_some_iff.1 hb).1 hp).trans hb

/-- At the head of block b, not frozen, stand the values xs, with room for cap of them. -/
structure Row (w : World) (b : Nat) (T : TypeId) (xs : List Value) (cap : Nat) : Prop where
  room : xs.length ≤ cap
  there : ∃ cur, w.heap[b]? = some (.cells cur T (0, 0)) ∧ cap ≤ cur.size ∧ cur.toList.take xs.length = xs

theorem Row.lt {w : World} {b : Nat} {T : TypeId} {xs : List Value} {cap : Nat} (h : Row w b T xs cap) : b < w.heap.size := by
  obtain ⟨cur, hc, _⟩ := h.there; exact (Array.getElem?_eq_some_iff.1 hc).1

theorem Row.cell {w : World} {b : Nat} {T : TypeId} {xs : List Value} {cap : Nat} (h : Row w b T xs cap) (i : Nat) {v : Value} (hv : xs[i]? = some v) : w.cell? ⟨b, i, none⟩ = some v := by
  obtain ⟨cur, hc, _, ht⟩ := h.there
  rw [cell_of_row w b i cur T (0, 0) hc]
  rw [← ht, List.getElem?_take] at hv
  split at hv
  · simpa using hv
  · cases hv

theorem Row.frozen {w : World} {b : Nat} {T : TypeId} {xs : List Value} {cap : Nat} (h : Row w b T xs cap) (i : Nat) : w.frozen? ⟨b, i, none⟩ = false := by
  obtain ⟨cur, hc, _⟩ := h.there
  simp [World.frozen?, hc]

theorem Row.keeps {S : List Nat} {w w' : World} {b : Nat} {T : TypeId} {xs : List Value} {cap : Nat} (h : Row w b T xs cap) (hk : Keeps S w w') (hb : b ∉ S) : Row w' b T xs cap := by
  obtain ⟨cur, hc, hr⟩ := h.there
  exact ⟨h.room, cur, hk.obj hc hb, hr⟩

theorem heap_setCell_at (w : World) (b i : Nat) (v : Value) (cur : Array Value) (T : TypeId) (fz : Nat × Nat) (h : w.heap[b]? = some (.cells cur T fz)) :
    (w.setCell ⟨b, i, none⟩ v).heap[b]? = some (.cells (cur.setIfInBounds i v) T fz) := by
  simp [World.setCell, Array.getElem?_modify, h]

theorem Row.set {w : World} {b : Nat} {T : TypeId} {xs : List Value} {cap : Nat} (h : Row w b T xs cap) (i : Nat) (v : Value) : Row (w.setCell ⟨b, i, none⟩ v) b T (xs.set i v) cap := by
  obtain ⟨cur, hc, hm, ht⟩ := h.there
  refine ⟨by simpa using h.room, _, heap_setCell_at w b i v cur T (0, 0) hc, by simpa using hm, ?_⟩
  simp only [List.length_set, Array.toList_setIfInBounds, List.take_set]
  rw [ht]

theorem Addr.add_off (b off i : Nat) : (⟨b, off, none⟩ : Addr).add i = ⟨b, off + i, none⟩ := by
  unfold Addr.add
  by_cases h : i = 0
  · subst h; rfl
  · rw [if_neg h]

theorem Addr.add_block (a : Addr) (i : Nat) : (a.add i).block = a.block := by
  unfold Addr.add; split <;> rfl

/-- The bytes that a slice reads as: the nil slice, or one at places of one block. -/
def Reads (w : World) (v : Value) (l : List UInt8) (M : Nat) : Prop :=
  (v = .slice none 0 0 ∧ l = []) ∨
  ∃ ad cap, v = .slice (some ad) l.length cap ∧ l.length ≤ cap ∧ (l ≠ [] → ad.block = M) ∧ ∀ i c, l[i]? = some c → w.cell? (ad.add i) = some (bv c)

theorem Reads.keeps {S : List Nat} {w w' : World} {v : Value} {l : List UInt8} {M : Nat} (h : Reads w v l M) (hk : Keeps S w w') (hM : M ∉ S) : Reads w' v l M := by
  rcases h with h | ⟨ad, cap, hv, hcap, hb, hc⟩
  · exact .inl h
  · refine .inr ⟨ad, cap, hv, hcap, hb, fun i c hi => hk.cell (hc i c hi) ?_⟩
    rw [Addr.add_block, hb (by intro e; simp [e] at hi)]
    exact hM

theorem Reads.nil (w : World) (M : Nat) : Reads w (.slice none 0 0) [] M := .inl ⟨rfl, rfl⟩

/-- Of bytes that are there, where they are. -/
theorem Reads.at {w : World} {v : Value} {l : List UInt8} {M : Nat} (h : Reads w v l M) (hl : l ≠ []) :
    ∃ off cap, v = .slice (some ⟨M, off, none⟩) l.length cap ∧ l.length ≤ cap ∧ ∀ i c, l[i]? = some c → w.cell? ⟨M, off + i, none⟩ = some (bv c) := by
  rcases h with ⟨_, h⟩ | ⟨ad, cap, rfl, hcap, hb, hc⟩
  · exact absurd h hl
  · obtain ⟨b, off, spot⟩ := ad
    obtain rfl : b = M := hb hl
    match l, hl with
    | c0 :: r, _ =>
      have h0 := hc 0 c0 rfl
      have hs : spot = none := by
        cases spot with
        | none => rfl
        | some x =>
          exfalso
          simp only [Addr.add, if_true] at h0
          unfold World.cell? at h0
          split at h0
          · simp at h0
          · cases h0
      subst hs
      exact ⟨off, cap, rfl, hcap, fun i c hi => by have := hc i c hi; rwa [Addr.add_off] at this⟩

theorem Row.reads {w : World} {b : Nat} {T : TypeId} {l : List UInt8} {cap : Nat} (h : Row w b T (l.map bv) cap) : Reads w (.slice (some ⟨b, 0, none⟩) l.length cap) l b :=
  .inr ⟨⟨b, 0, none⟩, cap, rfl, by simpa using h.room, fun _ => rfl, fun i x hx => by rw [Addr.add_off, Nat.zero_add]; exact h.cell i (by simp [hx])⟩

/-- A row that was appended to, and is none of the nil slice. -/
theorem Row.ofOwns {w : World} {base : Nat} {T : TypeId} {v : Value} {n : Nat} {xs : List Value} (h : w.ownsRow base T 1 v n xs) (hv : v ≠ .slice none 0 0) :
    ∃ b c, v = .slice (some ⟨b, 0, none⟩) n c ∧ base ≤ b ∧ Row w b T xs c := by
  obtain ⟨hl, h2⟩ := h
  rw [Nat.mul_one] at hl
  rcases h2 with ⟨rfl, _⟩ | ⟨g, cap, cur, rfl, hb, hg, hn, _, hs, ht⟩
  · exact absurd rfl hv
  · rw [Nat.mul_one] at hs ht
    exact ⟨g, cap, rfl, hb, by omega, cur, hg, by omega, by rw [hl]; exact ht⟩

/-- A region that draws: all but its tail leaves the world alone. -/
theorem wp_region_tail {P : Program} {id : Nat} {Q : Exit → Act → World → Prop} {a : Act} {w : World} {l : List Oper} (n : Nat) (hm : P.follows .mixedOrders = true) (hB : Region.lexTailB .any l.toArray n = true)
    (h : ∀ w2, w2 = w.drew → wpStill P l.toArray w2 (fun a' => wpList P l.toArray Q (l.drop n) a' w2) (l.take n) a) : (Code.region id l.toArray true).wp P Q a w :=
  wp_region_still_tail n hm hB (h w.drew rfl)

theorem cell_alloc_new (w : World) (cs : Array Value) (T : TypeId) (i : Nat) : (w.alloc (.cells cs T)).cell? ⟨w.heap.size, i, none⟩ = cs[i]? :=
  cell_of_row _ _ _ cs T (0, 0) (heap_alloc_new w _)

theorem frozen_alloc_new (w : World) (cs : Array Value) (T : TypeId) (i : Nat) : (w.alloc (.cells cs T)).frozen? ⟨w.heap.size, i, none⟩ = false := by
  unfold World.frozen?
  rw [show (w.alloc (.cells cs T)).heap[(⟨w.heap.size, i, none⟩ : Addr).block]? = some (.cells cs T (0, 0)) from heap_alloc_new w _]
  simp

theorem one_bytes (l : List UInt8) : ∀ u ∈ l.map bv, u.oneCell' = true := by
  intro u hu; obtain ⟨c, _, rfl⟩ := List.mem_map.1 hu; rfl

theorem one_ints (l : List Int) : ∀ u ∈ l.map (Value.int .i64), u.oneCell' = true := by
  intro u hu; obtain ⟨c, _, rfl⟩ := List.mem_map.1 hu; rfl

end Go.Proofs.Ytdcfcljgennipaa
