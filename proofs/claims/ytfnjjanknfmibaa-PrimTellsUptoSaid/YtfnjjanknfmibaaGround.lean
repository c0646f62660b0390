/-
  Words for worlds: what a call keeps, a row of cells at the head of a block, bytes that a slice reads as. No function of the program is named here.
  Contracts that every seat wants: lightshiplow's Is, Fresh, Among; the rows of bytes and ints in the table of types.
  Arguments: bytes, and slices of structs of one-cell fields, as the walks take them; Put's at.
  Words for numbers of 32 bits, whole blocks, arrays that are filled, and slice expressions over bytes. No function of the program is named here.
  Rows of one's own: what keeps them, bytes appended to bytes.
  Slices of slices of bytes that came in.
-/
import Derived.WalkKit
import Derived.WalkSpells
import Derived.WalkLawsBesides
import Derived.Lib.Hide
import Derived.StillTailTactics
import Derived.Test.YtfnjjanknfmibaaRows
import Derived.Deep.QuietTactic
import Derived.BigQuiet
import Derived.Outline
import Derived.ProofKit
import Derived.OpenShut
import Derived.Deep.Slices
import Derived.Deep.Fields
import Derived.Laws.Rows
import Derived.Laws.CopyRow
import Derived.Deep.MidRow
import Derived.Lib.SlBytesConst
import Derived.Laws.AppendOwnNone
namespace Go.Proofs.Ytfnjjanknfmibaa
open Go.RowKit

/-- A byte as a value. -/
def bv (c : UInt8) : Value := .int .u8 (c.toNat : Int)

/-- All blocks that were there, but those of S, are as they were. -/
structure Keeps (S : List Nat) (w w' : World) : Prop where
  os : w'.os = w.os
  tape : w'.tape = w.tape
  output : w'.output = w.output
  size : w.heap.size ≤ w'.heap.size
  block : ∀ k, k < w.heap.size → k ∉ S → w'.heap[k]? = w.heap[k]?

theorem Keeps.refl (S : List Nat) (w : World) : Keeps S w w := ⟨rfl, rfl, rfl, Nat.le_refl _, fun _ _ _ => rfl⟩

theorem Keeps.trans {S : List Nat} {a b c : World} (h : Keeps S a b) (k : Keeps S b c) : Keeps S a c :=
  ⟨k.os.trans h.os, k.tape.trans h.tape, k.output.trans h.output, Nat.le_trans h.size k.size,
    fun i hi hs => (k.block i (Nat.lt_of_lt_of_le hi h.size) hs).trans (h.block i hi hs)⟩

/-- Blocks that are new in between may be written, too. -/
theorem Keeps.then {S T : List Nat} {a b c : World} (h : Keeps S a b) (k : Keeps T b c) (hT : ∀ x ∈ T, x ∈ S ∨ a.heap.size ≤ x) : Keeps S a c :=
  ⟨k.os.trans h.os, k.tape.trans h.tape, k.output.trans h.output, Nat.le_trans h.size k.size,
    fun i hi hs => (k.block i (Nat.lt_of_lt_of_le hi h.size) (fun ht => by rcases hT i ht with g | g; exact hs g; omega)).trans (h.block i hi hs)⟩

theorem Keeps.mono {S T : List Nat} {a b : World} (h : Keeps S a b) (hT : ∀ x ∈ S, x ∈ T) : Keeps T a b :=
  ⟨h.os, h.tape, h.output, h.size, fun i hi hs => h.block i hi (fun g => hs (hT i g))⟩

/-- Blocks that are written, but were not there. -/
theorem Keeps.news {S T : List Nat} {a b : World} (h : Keeps S a b) (hT : ∀ x ∈ S, x ∈ T ∨ a.heap.size ≤ x) : Keeps T a b :=
  ⟨h.os, h.tape, h.output, h.size, fun i hi hs => h.block i hi (fun g => by rcases hT i g with q | q; exact hs q; omega)⟩

theorem Keeps.drew (S : List Nat) (w : World) : Keeps S w w.drew := ⟨rfl, rfl, rfl, Nat.le_refl _, fun _ _ _ => rfl⟩

theorem Keeps.drewN (S : List Nat) (w : World) (n : Nat) : Keeps S w (w.drewN n) := ⟨rfl, rfl, rfl, Nat.le_refl _, fun _ _ _ => rfl⟩

theorem Keeps.alloc (S : List Nat) (w : World) (o : Obj) : Keeps S w (w.alloc o) := ⟨rfl, rfl, rfl, by simp, fun k hk _ => Below.heap_alloc _ _ _ hk⟩

theorem Keeps.setCell {S : List Nat} (w : World) {p : Addr} (hp : p.block ∈ S) (v : Value) : Keeps S w (w.setCell p v) :=
  ⟨rfl, rfl, rfl, by simp [World.setCell], fun k _ hs => Below.heap_setCell _ _ _ _ (fun e => hs (e ▸ hp))⟩

theorem Keeps.grown {S : List Nat} {w w' : World} {row : Option Nat} (hg : w.grownBy w' row) (hr : ∀ k, row = some k → k ∈ S ∨ w.heap.size ≤ k) : Keeps S w w' :=
  ⟨hg.os, hg.tape, hg.output, hg.size, fun k hk hs => hg.block k hk (fun e => by rcases hr k e.symm with g | g; exact hs g; omega)⟩

theorem Keeps.ofBelow {S : List Nat} {w w' : World} (hb : Below w.heap.size w w') : Keeps S w w' := ⟨hb.os, hb.tape, hb.output, hb.size, fun k hk _ => hb.block k hk⟩

theorem Keeps.below {w w' : World} (h : Keeps [] w w') : Below w.heap.size w w' := ⟨h.os, h.tape, h.output, h.size, fun k hk => h.block k hk (by simp)⟩

theorem Keeps.cell {S : List Nat} {w w' : World} (h : Keeps S w w') {p : Addr} {v : Value} (hc : w.cell? p = some v) (hp : p.block ∉ S) : w'.cell? p = some v :=
  (World.cell?_of_block (h.block p.block (World.block_lt_of_cell? w p hc) hp)).trans hc

theorem Keeps.obj {S : List Nat} {w w' : World} (h : Keeps S w w') {b : Nat} {o : Obj} (hb : w.heap[b]? = some o) (hp : b ∉ S) : w'.heap[b]? = some o :=
  (h.block b (Array.getElem?_eq_some_iff.1 hb).1 hp).trans hb

/-- At the head of block b, not frozen, stand the values xs, with room for cap of them. -/
structure Row (w : World) (b : Nat) (T : TypeId) (xs : List Value) (cap : Nat) : Prop where
  room : xs.length ≤ cap
  there : ∃ cur, w.heap[b]? = some (.cells cur T (0, 0)) ∧ cap ≤ cur.size ∧ cur.toList.take xs.length = xs

theorem Row.lt {w : World} {b : Nat} {T : TypeId} {xs : List Value} {cap : Nat} (h : Row w b T xs cap) : b < w.heap.size := by
  obtain ⟨cur, hc, _⟩ := h.there; exact (Array.getElem?_eq_some_iff.1 hc).1

theorem Row.cell {w : World} {b : Nat} {T : TypeId} {xs : List Value} {cap : Nat} (h : Row w b T xs cap) (i : Nat) {v : Value} (hv : xs[i]? = some v) : w.cell? ⟨b, i, none⟩ = some v := by
  obtain ⟨cur, hc, _, ht⟩ := h.there
  rw [cell_of_row w b i cur T (0, 0) hc]
  rw [← ht, List.getElem?_take] at hv
  split at hv
  · simpa using hv
  · cases hv

theorem Row.frozen {w : World} {b : Nat} {T : TypeId} {xs : List Value} {cap : Nat} (h : Row w b T xs cap) (i : Nat) : w.frozen? ⟨b, i, none⟩ = false := by
  obtain ⟨cur, hc, _⟩ := h.there
  simp [World.frozen?, hc]

theorem Row.keeps {S : List Nat} {w w' : World} {b : Nat} {T : TypeId} {xs : List Value} {cap : Nat} (h : Row w b T xs cap) (hk : Keeps S w w') (hb : b ∉ S) : Row w' b T xs cap := by
  obtain ⟨cur, hc, hr⟩ := h.there
  exact ⟨h.room, cur, hk.obj hc hb, hr⟩

theorem heap_setCell_at (w : World) (b i : Nat) (v : Value) (cur : Array Value) (T : TypeId) (fz : Nat × Nat) (h : w.heap[b]? = some (.cells cur T fz)) :
    (w.setCell ⟨b, i, none⟩ v).heap[b]? = some (.cells (cur.setIfInBounds i v) T fz) := by
  simp [World.setCell, Array.getElem?_modify, h]

theorem Row.set {w : World} {b : Nat} {T : TypeId} {xs : List Value} {cap : Nat} (h : Row w b T xs cap) (i : Nat) (v : Value) : Row (w.setCell ⟨b, i, none⟩ v) b T (xs.set i v) cap := by
  obtain ⟨cur, hc, hm, ht⟩ := h.there
  refine ⟨by simpa using h.room, _, heap_setCell_at w b i v cur T (0, 0) hc, by simpa using hm, ?_⟩
  simp only [List.length_set, Array.toList_setIfInBounds, List.take_set]
  rw [ht]

theorem Addr.add_off (b off i : Nat) : (⟨b, off, none⟩ : Addr).add i = ⟨b, off + i, none⟩ := by
  unfold Addr.add
  by_cases h : i = 0
  · subst h; rfl
  · rw [if_neg h]

theorem Addr.add_block (a : Addr) (i : Nat) : (a.add i).block = a.block := by
  unfold Addr.add; split <;> rfl

/-- The bytes that a slice reads as: the nil slice, or one at places of one block. -/
def Reads (w : World) (v : Value) (l : List UInt8) (M : Nat) : Prop :=
  (v = .slice none 0 0 ∧ l = []) ∨
  ∃ ad cap, v = .slice (some ad) l.length cap ∧ l.length ≤ cap ∧ (l ≠ [] → ad.block = M) ∧ ∀ i c, l[i]? = some c → w.cell? (ad.add i) = some (bv c)

theorem Reads.keeps {S : List Nat} {w w' : World} {v : Value} {l : List UInt8} {M : Nat} (h : Reads w v l M) (hk : Keeps S w w') (hM : M ∉ S) : Reads w' v l M := by
  rcases h with h | ⟨ad, cap, hv, hcap, hb, hc⟩
  · exact .inl h
  · refine .inr ⟨ad, cap, hv, hcap, hb, fun i c hi => hk.cell (hc i c hi) ?_⟩
    rw [Addr.add_block, hb (by intro e; simp [e] at hi)]
    exact hM

theorem Reads.nil (w : World) (M : Nat) : Reads w (.slice none 0 0) [] M := .inl ⟨rfl, rfl⟩

/-- Of bytes that are there, where they are. -/
theorem Reads.at {w : World} {v : Value} {l : List UInt8} {M : Nat} (h : Reads w v l M) (hl : l ≠ []) :
    ∃ off cap, v = .slice (some ⟨M, off, none⟩) l.length cap ∧ l.length ≤ cap ∧ ∀ i c, l[i]? = some c → w.cell? ⟨M, off + i, none⟩ = some (bv c) := by
  rcases h with ⟨_, h⟩ | ⟨ad, cap, rfl, hcap, hb, hc⟩
  · exact absurd h hl
  · obtain ⟨b, off, spot⟩ := ad
    obtain rfl : b = M := hb hl
    match l, hl with
    | c0 :: r, _ =>
      have h0 := hc 0 c0 rfl
      have hs : spot = none := by
        cases spot with
        | none => rfl
        | some x =>
          exfalso
          simp only [Addr.add, if_true] at h0
          unfold World.cell? at h0
          split at h0
          · simp at h0
          · cases h0
      subst hs
      exact ⟨off, cap, rfl, hcap, fun i c hi => by have := hc i c hi; rwa [Addr.add_off] at this⟩

theorem Row.reads {w : World} {b : Nat} {T : TypeId} {l : List UInt8} {cap : Nat} (h : Row w b T (l.map bv) cap) : Reads w (.slice (some ⟨b, 0, none⟩) l.length cap) l b :=
  .inr ⟨⟨b, 0, none⟩, cap, rfl, by simpa using h.room, fun _ => rfl, fun i x hx => by rw [Addr.add_off, Nat.zero_add]; exact h.cell i (by simp [hx])⟩

/-- A row that was appended to, and is none of the nil slice. -/
theorem Row.ofOwns {w : World} {base : Nat} {T : TypeId} {v : Value} {n : Nat} {xs : List Value} (h : w.ownsRow base T 1 v n xs) (hv : v ≠ .slice none 0 0) :
    ∃ b c, v = .slice (some ⟨b, 0, none⟩) n c ∧ base ≤ b ∧ Row w b T xs c := by
  obtain ⟨hl, h2⟩ := h
  rw [Nat.mul_one] at hl
  rcases h2 with ⟨rfl, _⟩ | ⟨g, cap, cur, rfl, hb, hg, hn, _, hs, ht⟩
  · exact absurd rfl hv
  · rw [Nat.mul_one] at hs ht
    exact ⟨g, cap, rfl, hb, by omega, cur, hg, by omega, by rw [hl]; exact ht⟩

/-- A region that draws: all but its tail leaves the world alone. -/
theorem wp_region_tail {P : Program} {id : Nat} {Q : Exit → Act → World → Prop} {a : Act} {w : World} {l : List Oper} (n : Nat) (hm : P.follows .mixedOrders = true) (hB : Region.lexTailB .any l.toArray n = true)
    (h : ∀ w2, w2 = w.drew → wpStill P l.toArray w2 (fun a' => wpList P l.toArray Q (l.drop n) a' w2) (l.take n) a) : (Code.region id l.toArray true).wp P Q a w :=
  wp_region_still_tail n hm hB (h w.drew rfl)

theorem cell_alloc_new (w : World) (cs : Array Value) (T : TypeId) (i : Nat) : (w.alloc (.cells cs T)).cell? ⟨w.heap.size, i, none⟩ = cs[i]? :=
  cell_of_row _ _ _ cs T (0, 0) (heap_alloc_new w _)

theorem frozen_alloc_new (w : World) (cs : Array Value) (T : TypeId) (i : Nat) : (w.alloc (.cells cs T)).frozen? ⟨w.heap.size, i, none⟩ = false := by
  unfold World.frozen?
  rw [show (w.alloc (.cells cs T)).heap[(⟨w.heap.size, i, none⟩ : Addr).block]? = some (.cells cs T (0, 0)) from heap_alloc_new w _]
  simp

theorem one_bytes (l : List UInt8) : ∀ u ∈ l.map bv, u.oneCell' = true := by
  intro u hu; obtain ⟨c, _, rfl⟩ := List.mem_map.1 hu; rfl

theorem one_ints (l : List Int) : ∀ u ∈ l.map (Value.int .i64), u.oneCell' = true := by
  intro u hu; obtain ⟨c, _, rfl⟩ := List.mem_map.1 hu; rfl

end Go.Proofs.Ytfnjjanknfmibaa

namespace Go.Proofs.Ytfnjjanknfmibaa
open Go.RowKit

theorem infoByte : (Try.prog.info? 5).map (fun i => (i.zero, i.size, i.bytes)) = some (some (.int .u8 0), 1, 1) := by kernel_rfl
theorem infoInt : (Try.prog.info? 3).map (fun i => (i.zero, i.size, i.bytes)) = some (some (.int .i64 0), 1, 8) := by kernel_rfl

theorem foldl_push (l : List UInt8) : ∀ s : ByteArray, (l.map fun c => (c.toNat : Int)).foldl (fun r n => r.push (UInt8.ofNat n.toNat)) s = ⟨s.data ++ l.toArray⟩ := by
  induction l with
  | nil => intro s; simp
  | cons c l ih =>
    intro s
    rw [List.map_cons, List.foldl_cons, ih]
    have : UInt8.ofNat ((c.toNat : Int)).toNat = c := by simp
    rw [this]
    simp [ByteArray.push]

theorem conv_reads {w : World} {v : Value} {l : List UInt8} {M : Nat} (h : Reads w v l M) : (convert 49 9 v).run Try.prog w = .ok (.string ⟨l.toArray⟩) w := by
  rcases h with ⟨rfl, rfl⟩ | ⟨ad, cap, rfl, _, _, hc⟩
  · rw [run_convert_bytes_string w 49 9 5 none 0 0 Try.underlying49 Try.underlying5 Try.underlying9]
    rfl
  · rw [run_convert_bytes_string w 49 9 5 _ _ _ Try.underlying49 Try.underlying5 Try.underlying9]
    have hl : (loadCells ad l.length).run Try.prog w = .ok ((l.map fun c => (c.toNat : Int)).map (Value.int .u8)).toArray w := by
      have := run_loadCells_list (P := Try.prog) w ad (l.map bv) (fun j u hu => by
        rw [List.getElem?_map] at hu
        obtain ⟨c, h1, rfl⟩ := Option.map_eq_some_iff.1 hu
        exact hc j c h1)
      rw [List.length_map] at this
      rw [this, List.map_map]
      rfl
    rw [run_bytesToString w ad l.length cap _ hl, foldl_push]
    simp

theorem Row.ofOwnsAt {w : World} {base : Nat} {T : TypeId} {b n cap : Nat} {xs : List Value} (h : w.ownsRow base T 1 (.slice (some ⟨b, 0, none⟩) n cap) n xs) : Row w b T xs cap := by
  obtain ⟨b', c', hv, _, hr⟩ := Row.ofOwns h (by simp)
  simp at hv
  obtain ⟨rfl, rfl⟩ := hv
  exact hr

end Go.Proofs.Ytfnjjanknfmibaa

namespace Go.Proofs.Ytfnjjanknfmibaa
open Go.RowKit Go.Deep Go.ChangeShapes Go.WideShapes

section
variable {H : Type} {enc : TypeId × Value → H} {P : Program} {w : World} {base : Nat} {spare : Nat → Bool} {held : Bool}

/-- Of a slice of structs that is read: where each field of each element lies, and that it is read. -/
theorem structs_read {t e : TypeId} {fs : Array Field} {fuel : Nat} {v : Value} {x : DataW H × List MemPlace} (ht : P.underlying t = some (.slice e)) (he : P.underlying e = some (.struct fs))
    (hone : oneCellFields P fs = true) (hC : P.cellsOf e = fs.size) (h : DataW.trod enc P w base spare held fuel t [v] = some x) :
    v = .slice none 0 0 ∨ ∃ (a : Addr) (len cap : Nat), v = .slice (some a) len cap ∧ len ≤ cap ∧ cap ≤ maxLen ∧
      ∀ i, i < len → ∀ (j : Nat) (f : Field), fs[j]? = some f → ∃ (u : Value) (y : DataW H × List MemPlace) (n : Nat), w.cell? (a.add (i * fs.size + j)) = some u ∧ DataW.trod enc P w base spare held n f.type [u] = some y := by
  rcases open_slice ht h with ⟨hcs, _⟩ | ⟨a, len, cap, m, n, D, Pl, hcs, _, hl, hm, hmm, _, hi⟩
  · exact .inl (by simpa using hcs)
  · refine .inr ⟨a, len, cap, by simpa using hcs, hl, hm, fun i hlt j f hj => ?_⟩
    have him : i < m := by rw [hmm]; split <;> omega
    obtain ⟨cells, hc, htr⟩ := hi i him
    rw [hC] at hc
    obtain ⟨xs, k, _, _, _, hxl, hfs⟩ := DataW.trod_struct he htr
    obtain ⟨_, hcl, hat⟩ := World.cells?_some hc
    have hjl : j < fs.size := (Array.getElem?_eq_some_iff.1 hj).1
    obtain ⟨hoff, hcell⟩ := hone_of hone j f hj
    have hrd := hfs j f hj
    rw [hoff, hcell] at hrd
    have hlc : j < cells.length := by omega
    have h1 : (cells.drop j).take 1 = [cells[j]] := by
      rw [List.drop_eq_getElem_cons hlc]; rfl
    rw [h1, List.getElem?_eq_getElem (show j < xs.length by omega)] at hrd
    exact ⟨cells[j], _, k, by rw [← add_add, hat j (by omega), List.getElem?_eq_getElem hlc], hrd⟩
end

/-- A number that fits a byte is one. -/
theorem byte_of_wf {n : Int} (h : (Lit.int .u8 n).wf = true) : ∃ c : UInt8, n = (c.toNat : Int) := by
  have hb := bounds_u8 h
  exact ⟨UInt8.ofNat n.toNat, by rw [UInt8.toNat_ofNat_of_lt' (by have : UInt8.size = 256 := rfl; omega)]; omega⟩

theorem bytes_of {w : World} {ad : Addr} {len : Nat} (h : ∀ i, i < len → ∃ n : Int, w.cell? (ad.add i) = some (.int .u8 n) ∧ (Lit.int .u8 n).wf = true) :
    ∃ l : List UInt8, l.length = len ∧ ∀ i c, l[i]? = some c → w.cell? (ad.add i) = some (bv c) := by
  induction len with
  | zero => exact ⟨[], rfl, fun i c hc => by simp at hc⟩
  | succ k ih =>
    obtain ⟨l, hl, hc⟩ := ih (fun i hi => h i (by omega))
    obtain ⟨n, hn, hwf⟩ := h k (by omega)
    obtain ⟨c, rfl⟩ := byte_of_wf hwf
    refine ⟨l ++ [c], by simp [hl], fun i x hx => ?_⟩
    by_cases hi : i < l.length
    · rw [List.getElem?_append_left hi] at hx; exact hc i x hx
    · have hil : i = l.length := by
        have := (List.getElem?_eq_some_iff.1 hx).1
        simp at this; omega
      subst hil
      simp at hx
      subst hx
      rw [hl]; exact hn

/-- Bytes that came in. -/
theorem bytes_read {H : Type} {enc : TypeId × Value → H} {W : World} {b0 fuel : Nat} {spare : Nat → Bool} {held : Bool} {v : Value} {x : DataW H × List MemPlace} (h : DataW.trod enc Try.prog W b0 spare held fuel 49 [v] = some x) :
    ∃ l M, Reads W v l M ∧ l.length ≤ maxLen ∧ (l ≠ [] → M < W.heap.size) := by
  rcases open_ints Try.underlying49 Try.underlying5 (by kernel_rfl) h with ⟨hcs, _⟩ | ⟨a, len, cap, zs, hcs, _, hl, hm, hz, _, hcell, hwz⟩
  · obtain rfl : v = .slice none 0 0 := by simpa using hcs
    exact ⟨[], 0, Reads.nil _ _, by simp, fun h => absurd rfl h⟩
  · obtain rfl : v = .slice (some a) len cap := by simpa using hcs
    have hzl : len ≤ zs.length := by rw [hz]; split <;> omega
    obtain ⟨l, hll, hlc⟩ := bytes_of (w := W) (ad := a) (len := len) (fun i hi => ⟨_, hcell i (by omega), hwz _ (by rw [List.getD_eq_getElem?_getD, List.getElem?_eq_getElem (by omega)]; exact List.getElem_mem _)⟩)
    refine ⟨l, a.block, .inr ⟨a, cap, by rw [hll], by omega, fun _ => rfl, hlc⟩, by omega, fun hne => ?_⟩
    have h0 : 0 < l.length := List.length_pos_iff.2 hne
    have := hlc 0 l[0] (List.getElem?_eq_getElem h0)
    have hb := World.block_lt_of_cell? W _ this
    rwa [Addr.add_block] at hb

theorem Reads.anyBlock {w : World} {v : Value} {M : Nat} (h : Reads w v [] M) (M' : Nat) : Reads w v [] M' := by
  rcases h with h | ⟨ad, cap, hv, hc, _, hr⟩
  · exact .inl h
  · exact .inr ⟨ad, cap, hv, hc, fun h => absurd rfl h, hr⟩

/-- Bytes that lie below a number do not lie in blocks from it on. -/
theorem Reads.away {w : World} {v : Value} {l : List UInt8} {M base : Nat} (h : Reads w v l M) (hM : l ≠ [] → M < base) (S : List Nat) (hS : ∀ x ∈ S, base ≤ x) : ∃ M', Reads w v l M' ∧ M' ∉ S := by
  by_cases hl : l = []
  · subst hl
    refine ⟨S.foldr max 0 + 1, h.anyBlock _, fun hm => ?_⟩
    have : ∀ (L : List Nat) (x : Nat), x ∈ L → x ≤ L.foldr max 0 := by
      intro L
      induction L with
      | nil => simp
      | cons y L ih => intro x hx; simp at hx; rcases hx with rfl | hx; simp; omega; have := ih x hx; simp; omega
    have := this S _ hm
    omega
  · exact ⟨M, h, fun hm => by have := hS M hm; have := hM hl; omega⟩
end Go.Proofs.Ytfnjjanknfmibaa

namespace Go.Proofs.Ytfnjjanknfmibaa
open Go.RowKit

/-- A number of 32 bits as a value. -/
abbrev uv (x : BitVec 32) : Value := .int .u32 (x.toNat : Int)

theorem bits_ofInt (x : BitVec 32) : BitVec.ofInt IntKind.u32.bits (x.toNat : Int) = x := by
  show BitVec.ofInt 32 (x.toNat : Int) = x
  simp

theorem wrap_nat32 (x : BitVec 32) : IntKind.u32.wrap (x.toNat : Int) = x.toNat := by
  have := x.isLt
  exact IntWalk.u32_in _ (by omega)

theorem bits_xor32 (x y : BitVec 32) : bits .xor .u32 (x.toNat : Int) (y.toNat : Int) = ((x ^^^ y).toNat : Int) := by
  unfold bits
  simp only [bits_ofInt]
  exact wrap_nat32 _

theorem bits_and32 (x y : BitVec 32) : bits .and .u32 (x.toNat : Int) (y.toNat : Int) = ((x &&& y).toNat : Int) := by
  unfold bits
  simp only [bits_ofInt]
  exact wrap_nat32 _

theorem bits_or32 (x y : BitVec 32) : bits .or .u32 (x.toNat : Int) (y.toNat : Int) = ((x ||| y).toNat : Int) := by
  unfold bits
  simp only [bits_ofInt]
  exact wrap_nat32 _

theorem bits_not32 (s : BitVec 32) : bits .xor .u32 4294967295 (s.toNat : Int) = ((~~~ s).toNat : Int) := by
  have h : (4294967295 : Int) = ((BitVec.allOnes 32).toNat : Int) := rfl
  rw [h, bits_xor32, BitVec.allOnes_xor]

theorem add32 (x y : BitVec 32) : IntKind.u32.wrap ((x.toNat : Int) + (y.toNat : Int)) = ((x + y).toNat : Int) := by
  rw [BitVec.toNat_add]
  show ((x.toNat : Int) + y.toNat) % 4294967296 = _
  omega

theorem add32m (x y : BitVec 32) : ((x.toNat : Int) + (y.toNat : Int)) % 4294967296 = ((x + y).toNat : Int) := add32 x y

theorem shr32 (s : BitVec 32) (k : Nat) : (s.toNat : Int) / (2 : Int) ^ k = ((s >>> k).toNat : Int) := by
  rw [BitVec.toNat_ushiftRight, Nat.shiftRight_eq_div_pow, Int.natCast_ediv, Int.natCast_pow]; rfl

theorem shl32 (s : BitVec 32) (k : Nat) : IntKind.u32.wrap ((s.toNat : Int) * (2 : Int) ^ k) = ((s <<< k).toNat : Int) := by
  rw [BitVec.toNat_shiftLeft, Nat.shiftLeft_eq]
  show ((s.toNat : Int) * 2 ^ k) % 4294967296 = _
  rw [Int.natCast_emod, Int.natCast_mul, Int.natCast_pow]
  rfl

theorem byte32 (c : UInt8) : (c.toNat : Int) = ((c.toBitVec.setWidth 32).toNat : Int) := by
  have : c.toNat < 256 := c.toNat_lt
  rw [BitVec.toNat_setWidth, Nat.mod_eq_of_lt]
  · rfl
  · show c.toNat < _; omega

/-- A table, as far as it is made. -/
def tabK (n : Nat) (f : Nat → BitVec 32) (k : Nat) : List Value := (List.range n).map fun i => if i < k then uv (f i) else uv 0#32

theorem tabK_length (n : Nat) (f : Nat → BitVec 32) (k : Nat) : (tabK n f k).length = n := by simp [tabK]

theorem tabK_set (n : Nat) (f : Nat → BitVec 32) (k : Nat) : (tabK n f k).set k (uv (f k)) = tabK n f (k + 1) := by
  apply List.ext_getElem
  · simp [tabK]
  · intro i h1 h2
    rw [List.getElem_set]
    simp only [tabK, List.getElem_map, List.getElem_range]
    by_cases e : k = i
    · subst e; simp
    · rw [if_neg e]
      by_cases l : i < k
      · rw [if_pos l, if_pos (by omega)]
      · rw [if_neg l, if_neg (by omega)]

theorem tabK_get (n : Nat) (f : Nat → BitVec 32) (k i : Nat) (h : i < n) : (tabK n f k)[i]? = some (if i < k then uv (f i) else uv 0#32) := by
  simp [tabK, h]

def tab (n : Nat) (f : Nat → BitVec 32) : List Value := (List.range n).map fun i => uv (f i)

theorem tabK_all (n : Nat) (f : Nat → BitVec 32) : tabK n f n = tab n f := by
  unfold tabK tab
  apply List.map_congr_left
  intro i hi
  rw [if_pos (by simpa using hi)]

theorem tab_length (n : Nat) (f : Nat → BitVec 32) : (tab n f).length = n := by simp [tab]

theorem tab_get (n : Nat) (f : Nat → BitVec 32) (i : Nat) (h : i < n) : (tab n f)[i]? = some (uv (f i)) := by
  simp [tab, h]

theorem tab_congr {n : Nat} {f g : Nat → BitVec 32} (h : ∀ i, i < n → f i = g i) : tab n f = tab n g := by
  unfold tab
  apply List.map_congr_left
  intro i hi
  rw [h i (by simpa using hi)]

theorem tab_set {n : Nat} {f g : Nat → BitVec 32} (k : Nat) (x : BitVec 32) (h : ∀ i, i < n → g i = if i = k then x else f i) : (tab n f).set k (uv x) = tab n g := by
  apply List.ext_getElem
  · simp [tab]
  · intro i h1 h2
    rw [List.getElem_set]
    simp only [tab, List.getElem_map, List.getElem_range]
    rw [h i (by simpa [tab] using h2)]
    by_cases e : k = i
    · subst e; simp
    · rw [if_neg e, if_neg (fun e' => e e'.symm)]

theorem tab_one (n : Nat) (f : Nat → BitVec 32) : (tab n f).toArray.all (·.oneCell') = true := by
  rw [List.all_toArray, List.all_eq_true]
  intro u hu
  obtain ⟨i, _, rfl⟩ := List.mem_map.1 hu
  rfl

theorem tab_ones (n : Nat) (f : Nat → BitVec 32) : ∀ u ∈ tab n f, u.oneCell' = true := by
  intro u hu
  obtain ⟨i, _, rfl⟩ := List.mem_map.1 hu
  rfl

/-- A whole block of cells. -/
def Whole (w : World) (b : Nat) (T : TypeId) (xs : List Value) : Prop := w.heap[b]? = some (.cells xs.toArray T (0, 0))

theorem Whole.keeps {S : List Nat} {w w' : World} {b : Nat} {T : TypeId} {xs : List Value} (h : Whole w b T xs) (hk : Keeps S w w') (hb : b ∉ S) : Whole w' b T xs := hk.obj h hb

theorem Whole.cell {w : World} {b : Nat} {T : TypeId} {xs : List Value} (h : Whole w b T xs) (i : Nat) : w.cell? ⟨b, i, none⟩ = xs[i]? := by
  rw [cell_of_row w b i _ T (0, 0) h]; simp

theorem Whole.frozen {w : World} {b : Nat} {T : TypeId} {xs : List Value} (h : Whole w b T xs) (i : Nat) : w.frozen? ⟨b, i, none⟩ = false := by
  unfold Whole at h; simp [World.frozen?, h]

theorem Whole.set {w : World} {b : Nat} {T : TypeId} {xs : List Value} (h : Whole w b T xs) (i : Nat) (v : Value) : Whole (w.setCell ⟨b, i, none⟩ v) b T (xs.set i v) := by
  unfold Whole
  rw [heap_setCell_at w b i v _ T (0, 0) h]
  simp

theorem Whole.lt {w : World} {b : Nat} {T : TypeId} {xs : List Value} (h : Whole w b T xs) : b < w.heap.size := (Array.getElem?_eq_some_iff.1 h).1

theorem Whole.new (w : World) (T : TypeId) (xs : List Value) : Whole (w.alloc (.cells xs.toArray T)) w.heap.size T xs := heap_alloc_new w _

theorem Whole.new_at (w : World) (T : TypeId) (xs : List Value) (b : Nat) (hb : w.heap.size = b) : Whole (w.alloc (.cells xs.toArray T)) b T xs := hb ▸ Whole.new w T xs

theorem Keeps.setRow {S : List Nat} (w : World) {g : Nat} (hp : g ∈ S) (cells : Array Value) : Keeps S w (w.setRow g cells) :=
  ⟨rfl, rfl, rfl, by simp [World.setRow], fun k _ hs => by
    have : g ≠ k := fun e => hs (e ▸ hp)
    simp [World.setRow, Array.getElem?_modify, this]⟩

theorem Whole.setRow {w : World} {b : Nat} {T : TypeId} {xs : List Value} (h : Whole w b T xs) (ys : List Value) : Whole (w.setRow b ys.toArray) b T ys := by
  unfold Whole at h ⊢
  simp [World.setRow, Array.getElem?_modify, h]

theorem Whole.range {w : World} {b : Nat} {T : TypeId} {pre cs post : List Value} (h : Whole w b T (pre ++ (cs ++ post))) (o : Nat) (ho : pre.length = o) : w.rangeAt b o cs := by
  intro j v hv
  have hj : j < cs.length := (List.getElem?_eq_some_iff.1 hv).1
  rw [h.cell, List.getElem?_append_right (by omega), ho, Nat.add_sub_cancel_left, List.getElem?_append_left hj, hv]

theorem Whole.there {w : World} {b : Nat} {T : TypeId} {xs : List Value} (h : Whole w b T xs) (o n : Nat) (ho : o + n ≤ xs.length) : w.there b o n := by
  intro j hj
  refine ⟨?_, h.frozen _⟩
  rw [h.cell, List.getElem?_eq_getElem (by omega)]; rfl

theorem Whole.setCells {w : World} {b : Nat} {T : TypeId} {pre cs post : List Value} (vs : List Value) (h : Whole w b T (pre ++ (cs ++ post))) (o : Nat) (ho : pre.length = o) (hl : vs.length = cs.length) : Whole (w.setCells b o vs) b T (pre ++ (vs ++ post)) := by
  induction vs generalizing w pre cs o with
  | nil =>
    obtain rfl : cs = [] := List.eq_nil_of_length_eq_zero hl.symm
    exact h
  | cons v vs ih =>
    match cs, hl with
    | c :: cs, hl =>
      have h1 := h.set o v
      have e1 : (pre ++ (c :: cs ++ post)).set o v = (pre ++ [v]) ++ (cs ++ post) := by
        rw [List.set_append_right _ _ (by omega), ho, Nat.sub_self]; simp
      rw [e1] at h1
      have := ih (pre := pre ++ [v]) (cs := cs) h1 (o + 1) (by simp [ho]) (by simpa using hl)
      rw [List.append_assoc] at this
      exact this

theorem Keeps.setCells {S : List Nat} (w : World) {b : Nat} (hp : b ∈ S) (o : Nat) (vs : List Value) : Keeps S w (w.setCells b o vs) := by
  induction vs generalizing w o with
  | nil => exact Keeps.refl _ _
  | cons v vs ih => exact (Keeps.setCell w (p := ⟨b, o, none⟩) hp v).trans (ih _ _)

/-- A callee that draws, in a quiet region behind other draws. -/
theorem quiet_more {P : Program} {f : FuncId} {args : Array Value} {w : World} {a n : Nat} {v : Value}
    (h : Calls P f args (w.drewN (a + n)) fun e w' => e = .returned v ∧ ∃ m, w' = (w.drewN (a + n)).drewN m) :
    Calls P f args (w.drewN (a + n)) fun e w'' => e = .returned v ∧ ∃ m, w'' = w.drewN (a + m) :=
  h.mono fun _ _ ⟨he, m, hm⟩ => ⟨he, n + m, by rw [hm, World.drewN_drewN, Nat.add_assoc]⟩

theorem quiet_none {P : Program} {f : FuncId} {args : Array Value} {w : World} {a n : Nat} {v : Value}
    (h : Calls P f args (w.drewN (a + n)) fun e w' => e = .returned v ∧ w.drewN (a + n) = w') :
    Calls P f args (w.drewN (a + n)) fun e w'' => e = .returned v ∧ ∃ m, w'' = w.drewN (a + m) :=
  h.mono fun _ _ ⟨he, hm⟩ => ⟨he, n, hm.symm⟩

/-- A struct that is built of what is known. -/
theorem wpList_build_at {P : Program} {ops : Array Oper} {rest : List Oper} {o : Oper} {a : Act} {w : World} {Q : Exit → Act → World → Prop} (hg : o.guard = none) (t : TypeId) (parts : Array (Nat × Operand)) (ho : o.op = .build t parts)
    (cs : Array Value) (hc : P.built t (parts.map fun (i, x) => (i, a.eval x)).toList = some cs) (h : wpList P ops Q rest (a.put o.dst (.agg cs)) w) : wpList P ops Q (o :: rest) a w :=
  wpList_build hg t parts ho (by rw [hc]; rfl) (by rw [hc]; exact h)

theorem sizeByte (w : World) : (sizeOf 5).run Try.prog w = .ok 1 w := by
  obtain ⟨i0, hi, hz0, hz1, hz2⟩ := info_parts infoByte
  simp [sizeOf, typeInfo, hi, hz1]

theorem szByte : (Try.prog.info? 5).map (·.size) = some 1 := by kernel_rfl

theorem aggByte (w : World) : (isAgg 5).run Try.prog w = .ok false w := by simp [isAgg, run_underlying Try.underlying5]
theorem aggU32 (w : World) : (isAgg 22).run Try.prog w = .ok false w := by simp [isAgg, run_underlying Try.underlying22]

/-- An element of an array that is a value. -/
theorem run_index_at (w : World) (T E : TypeId) (n : Nat) (hu : Try.prog.underlying T = some (.array n E)) (hs : (Try.prog.info? E).map (·.size) = some 1) (ha : ∀ w, (isAgg E).run Try.prog w = .ok false w) (cs : List Value) (hl : cs.length = n) (k : Nat) (kd : IntKind) (z : Int) (hv : cs[k]? = some (.int kd z)) :
    (Instr.index T (.agg cs.toArray) (.int .i64 k)).run Try.prog w = .ok (.int kd z) w := by
  have hk : k < cs.length := (List.getElem?_eq_some_iff.1 hv).1
  obtain ⟨i, hi, hs⟩ : ∃ i, Try.prog.info? E = some i ∧ i.size = 1 := by
    cases hq : Try.prog.info? E with
    | none => rw [hq] at hs; cases hs
    | some i => rw [hq] at hs; exact ⟨i, rfl, by simpa using hs⟩
  have hkn : k < n := by omega
  simp [Instr.index, asIntOf, run_underlying hu, sizeOf, typeInfo, hi, hs, part, hv, hkn, ha]

/-- A part of bytes that a slice reads as. -/
theorem Reads.cut {w : World} {a : Option Addr} {cap : Nat} {l : List UInt8} {M : Nat} (h : Reads w (.slice a l.length cap) l M) (lo hi : Nat) (h1 : lo ≤ hi) (h2 : hi ≤ l.length) :
    ∃ p c, sliced a lo hi cap 1 = .slice p ((l.drop lo).take (hi - lo)).length c ∧ Reads w (.slice p ((l.drop lo).take (hi - lo)).length c) ((l.drop lo).take (hi - lo)) M := by
  have hlen : ((l.drop lo).take (hi - lo)).length = hi - lo := by simp; omega
  refine ⟨if cap = lo then a else a.map (·.add (lo * 1)), cap - lo, by unfold sliced; rw [hlen], ?_⟩
  rw [hlen]
  rcases h with ⟨hv, rfl⟩ | ⟨ad, c, hv, hc, hb, hcell⟩
  · simp at h2
    subst h2
    obtain rfl : lo = 0 := by omega
    simp at hv
    obtain ⟨rfl, rfl⟩ := hv
    exact .inl ⟨by simp, by simp⟩
  · simp at hv
    obtain ⟨rfl, rfl⟩ := hv
    by_cases e : cap = lo
    · have h0 : (l.drop lo).take (hi - lo) = [] := by
        apply List.eq_nil_of_length_eq_zero; rw [hlen]; omega
      rw [if_pos e, h0]
      refine .inr ⟨ad, cap - lo, by simp; omega, by simp, fun hh => absurd rfl hh, fun i c hi => by simp at hi⟩
    · rw [if_neg e]
      refine .inr ⟨ad.add (lo * 1), cap - lo, by rw [hlen]; rfl, by rw [hlen]; omega, ?_, ?_⟩
      · intro hne
        rw [Addr.add_block]
        exact hb (by intro e'; subst e'; simp at hne)
      · intro i c hi
        rw [List.getElem?_take] at hi
        split at hi
        · rw [List.getElem?_drop] at hi
          have := hcell _ c hi
          rw [Nat.mul_one]
          rw [Deep.add_add]; exact this
        · cases hi

theorem Reads.len {w : World} {a : Option Addr} {n cap : Nat} {l : List UInt8} {M : Nat} (h : Reads w (.slice a n cap) l M) : n = l.length ∧ l.length ≤ cap := by
  rcases h with ⟨hv, rfl⟩ | ⟨ad, c, hv, hc, _⟩
  · simp at hv; simp [hv]
  · simp at hv; obtain ⟨_, rfl, rfl⟩ := hv; exact ⟨rfl, hc⟩

theorem Reads.shape {w : World} {v : Value} {l : List UInt8} {M : Nat} (h : Reads w v l M) : ∃ a cap, v = .slice a l.length cap ∧ l.length ≤ cap := by
  rcases h with ⟨rfl, rfl⟩ | ⟨ad, c, rfl, hc, _⟩
  · exact ⟨none, 0, rfl, Nat.le_refl _⟩
  · exact ⟨some ad, c, rfl, hc⟩

theorem elemBytes : Try.prog.elem 49 = 5 := by kernel_rfl
theorem underBytes : Try.prog.underlying 49 = some (.slice (Try.prog.elem 49)) := by rw [elemBytes]; exact Try.underlying49

theorem run_cut_h (w : World) (a : Option Addr) (len cap hi : Nat) (h : hi ≤ cap) : (Instr.sliceAt 49 (.slice a len cap) none (some (.int .i64 hi)) none).run Try.prog w = .ok (sliced a 0 hi cap 1) w := by
  have hu := underBytes
  rw [run_sliceAt_slice _ _ _ _ _ _ hu, run_slice_h _ _ _ _ _ hu _ _ (by omega) (by omega), elemBytes, sizeByte]
  rfl

theorem run_cut_l (w : World) (a : Option Addr) (len cap lo : Nat) (h : lo ≤ len) : (Instr.sliceAt 49 (.slice a len cap) (some (.int .i64 lo)) none none).run Try.prog w = .ok (sliced a lo len cap 1) w := by
  have hu := underBytes
  rw [run_sliceAt_slice _ _ _ _ _ _ hu, run_slice_l _ _ _ _ _ hu _ _ (by omega) (by omega), elemBytes, sizeByte]
  rfl

theorem run_cut_lh (w : World) (a : Option Addr) (len cap lo hi : Nat) (h1 : lo ≤ hi) (h2 : hi ≤ cap) : (Instr.sliceAt 49 (.slice a len cap) (some (.int .i64 lo)) (some (.int .i64 hi)) none).run Try.prog w = .ok (sliced a lo hi cap 1) w := by
  have hu := underBytes
  rw [run_sliceAt_slice _ _ _ _ _ _ hu, run_slice_lh _ _ _ _ _ hu _ _ _ _ (by omega) (by omega) (by omega), elemBytes, sizeByte]
  rfl

/-- The first bytes that a slice reads as. -/
theorem Reads.head {w : World} {a : Option Addr} {cap : Nat} {l : List UInt8} {M : Nat} (h : Reads w (.slice a l.length cap) l M) (n : Nat) (h2 : n ≤ l.length) :
    ∃ p c, (∀ w, (Instr.sliceAt 49 (.slice a l.length cap) none (some (.int .i64 n)) none).run Try.prog w = .ok (.slice p (l.take n).length c) w) ∧ Reads w (.slice p (l.take n).length c) (l.take n) M := by
  obtain ⟨p, c, e, r⟩ := h.cut 0 n (Nat.zero_le _) h2
  have hc := h.len.2
  rw [List.drop_zero, Nat.sub_zero] at e r
  exact ⟨p, c, fun w => by rw [run_cut_h _ _ _ _ _ (by omega), e], r⟩

/-- The bytes behind some. -/
theorem Reads.tail {w : World} {a : Option Addr} {cap : Nat} {l : List UInt8} {M : Nat} (h : Reads w (.slice a l.length cap) l M) (n : Nat) (h2 : n ≤ l.length) :
    ∃ p c, (∀ w, (Instr.sliceAt 49 (.slice a l.length cap) (some (.int .i64 n)) none none).run Try.prog w = .ok (.slice p (l.drop n).length c) w) ∧ Reads w (.slice p (l.drop n).length c) (l.drop n) M := by
  obtain ⟨p, c, e, r⟩ := h.cut n l.length h2 (Nat.le_refl _)
  rw [List.take_of_length_le (by simp)] at e r
  exact ⟨p, c, fun w => by rw [run_cut_l _ _ _ _ _ h2, e], r⟩

theorem Reads.lit (w : World) (l : List UInt8) (cs : Array Value) (T : TypeId) (n : Nat) (fz : Nat × Nat) (hcs : cs = (l.map bv).toArray) (hn : n = l.length) :
    Reads (w.alloc (.cells cs T fz)) (.slice (some ⟨w.heap.size, 0, none⟩) n n) l w.heap.size := by
  subst hn
  refine .inr ⟨⟨w.heap.size, 0, none⟩, l.length, rfl, Nat.le_refl _, fun _ => rfl, fun i c hi => ?_⟩
  rw [Addr.add_off, Nat.zero_add, cell_of_row _ _ _ cs T fz (heap_alloc_new w _), hcs]
  simp [hi]
end Go.Proofs.Ytfnjjanknfmibaa

namespace Go.Proofs.Ytfnjjanknfmibaa
open Go.RowKit

theorem Whole.owns {w : World} {b base n cap : Nat} {T : TypeId} {xs ys : List Value} (h : Whole w b T (xs ++ ys)) (hb : base ≤ b) (hn : xs.length = n) (hc : n + ys.length = cap) (hm : cap ≤ maxLen) : w.ownsRow base T 1 (.slice (some ⟨b, 0, none⟩) n cap) n xs := by
  refine ⟨by omega, .inr ⟨b, cap, _, rfl, hb, h, by omega, hm, by simp; omega, ?_⟩⟩
  simp [hn]

theorem run_min2 (w : World) (ts : Array TypeId) (t : TypeId) (a b : Int) (n : Nat) (hn : (n : Int) = min a b) :
    (Builtin.min_ ts t #[.int .i64 a, .int .i64 b]).run Try.prog w = .ok (.int .i64 (n : Int)) w := by
  rw [run_min_int2, hn]
  congr 2
  rw [Int.min_def]
  split <;> split <;> omega

theorem owns_shape2 {w : World} {base : Nat} {T : TypeId} {size n : Nat} {v : Value} {xs : List Value} (h : w.ownsRow base T size v n xs) : ∃ ao cap, v = .slice ao n cap := by
  rcases h.2 with ⟨rfl, rfl⟩ | ⟨g, cap, cur, rfl, _⟩
  · exact ⟨none, 0, rfl⟩
  · exact ⟨_, cap, rfl⟩

theorem Keeps.owned2 {S : List Nat} {w wr w' : World} {T : TypeId} {size n : Nat} {v : Value} {xs : List Value} (hk : Keeps S w wr) (h : wr.ownsRow w.heap.size T size v n xs) (hg : wr.grownBy w' v.ownBlock) : Keeps S w w' :=
  ⟨hg.os.trans hk.os, hg.tape.trans hk.tape, hg.output.trans hk.output, Nat.le_trans hk.size hg.size, fun k hlt hs =>
    (hg.block k (Nat.lt_of_lt_of_le hlt hk.size) (fun e => by have := (h.lt k e.symm).1; omega)).trans (hk.block k hlt hs)⟩

theorem World.ownsRow.keeps {w w' : World} {base : Nat} {T : TypeId} {size n : Nat} {v : Value} {xs : List Value} {S : List Nat} (h : w.ownsRow base T size v n xs) (hk : Keeps S w w') (hS : ∀ g, v.ownBlock = some g → g ∉ S) : w'.ownsRow base T size v n xs := by
  obtain ⟨hl, h2⟩ := h
  refine ⟨hl, ?_⟩
  rcases h2 with h2 | ⟨g, cap, cur, rfl, hb, hg, hr⟩
  · exact .inl h2
  · exact .inr ⟨g, cap, cur, rfl, hb, hk.obj hg (hS g rfl), hr⟩

theorem owns_reads {w : World} {base n : Nat} {v : Value} {l : List UInt8} (h : w.ownsRow base 5 1 v n (l.map bv)) (hb : 0 < w.heap.size) : ∃ M, Reads w v l M ∧ M < w.heap.size := by
  have h' := h
  obtain ⟨hl, h2⟩ := h
  rw [List.length_map, Nat.mul_one] at hl
  rcases h2 with ⟨rfl, rfl⟩ | ⟨g, cap, cur, rfl, _, hg, _⟩
  · obtain rfl : l = [] := List.eq_nil_of_length_eq_zero hl
    exact ⟨0, Reads.nil _ _, hb⟩
  · have hr := (Row.ofOwnsAt h').reads
    rw [hl] at hr
    exact ⟨g, hr, (Array.getElem?_eq_some_iff.1 hg).1⟩

theorem wpList_append_reads {ops : Array Oper} {rest : List Oper} {o : Oper} {a : Act} {w : World} {Q : Exit → Act → World → Prop} (hgd : o.guard = none) (s x : Operand)
    (ho : o.op = .call { callee := .builtin .append, args := #[s, x], argTypes := #[49, 49] }) (base : Nat) (v : Value) (l : List UInt8) (hs : a.eval s = v) (hown : w.ownsRow base 5 1 v l.length (l.map bv))
    (u : Value) (m : List UInt8) (M : Nat) (hx : a.eval x = u) (hr : Reads w u m M) (hlen : l.length + m.length ≤ 1000000) (hbase : base ≤ w.heap.size)
    (h : ∀ v' w', w'.ownsRow base 5 1 v' (l ++ m).length ((l ++ m).map bv) → Keeps v.ownBlock.toList w w' → wpList Try.prog ops Q rest (a.put o.dst v') w') : wpList Try.prog ops Q (o :: rest) a w := by
  obtain ⟨i0, hi, hz0, hz1, hz2⟩ := info_parts infoByte
  rcases hr with ⟨rfl, rfl⟩ | ⟨ad, cap, rfl, hcap, hb, hc⟩
  · refine wpList_append_own_none hgd s x 49 ho base 5 i0 1 Try.underlying49 hi v l.length (l.map bv) hs (by rw [← hz1] at hown ⊢; exact hown) hx ?_
    exact h v w (by rw [List.append_nil]; exact hown) (Keeps.refl _ _)
  · refine wpList_append_own w hgd s x 49 ho base 5 i0 (.int .u8 0) 1 1 Try.underlying49 hi hz0 hz1 hz2 rfl (by decide) v l.length (l.map bv) hs hown ad m.length cap (m.map bv) hx (by simp) ?_ (one_bytes _) (by unfold maxLen; omega) (by omega) hbase ?_
    · intro j y hy
      rw [List.getElem?_map] at hy
      obtain ⟨c, h1, rfl⟩ := Option.map_eq_some_iff.1 hy
      exact hc j c h1
    · intro v' w' hown' hg _
      refine h v' w' (by rw [List.length_append, List.map_append]; exact hown') (Keeps.grown hg (fun k hk => .inl (by simp [hk])))
end Go.Proofs.Ytfnjjanknfmibaa

namespace Go.Proofs.Ytfnjjanknfmibaa
open Go.RowKit Go.Deep Go.ChangeShapes Go.WideShapes

/-- A slice of slices of bytes, as it lies. -/
def Parts (w : World) (v : Value) (ls : List (List UInt8)) : Prop :=
  (v = .slice none 0 0 ∧ ls = []) ∨ ∃ (a : Addr) (cap : Nat), v = .slice (some a) ls.length cap ∧ ls.length ≤ maxLen ∧ ls.length ≤ cap ∧
    ∀ i l, ls[i]? = some l → ∃ u M, w.cell? (a.add i) = some u ∧ Reads w u l M ∧ l.length ≤ maxLen ∧ (l ≠ [] → M < w.heap.size)

theorem parts_of {w : World} {a : Addr} {len : Nat} (h : ∀ i, i < len → ∃ u l M, w.cell? (a.add i) = some u ∧ Reads w u l M ∧ l.length ≤ maxLen ∧ (l ≠ [] → M < w.heap.size)) :
    ∃ ls : List (List UInt8), ls.length = len ∧ ∀ i l, ls[i]? = some l → ∃ u M, w.cell? (a.add i) = some u ∧ Reads w u l M ∧ l.length ≤ maxLen ∧ (l ≠ [] → M < w.heap.size) := by
  induction len with
  | zero => exact ⟨[], rfl, fun i l hl => by simp at hl⟩
  | succ k ih =>
    obtain ⟨ls, hl, hc⟩ := ih (fun i hi => h i (by omega))
    obtain ⟨u, l, M, hu⟩ := h k (by omega)
    refine ⟨ls ++ [l], by simp [hl], fun i x hx => ?_⟩
    by_cases hi : i < ls.length
    · rw [List.getElem?_append_left hi] at hx; exact hc i x hx
    · have hil : i = ls.length := by
        have := (List.getElem?_eq_some_iff.1 hx).1
        simp at this; omega
      subst hil
      simp at hx
      subst hx
      rw [hl]; exact ⟨u, M, hu⟩

theorem cellsBytes : Try.prog.cellsOf 49 = 1 := by kernel_rfl

/-- The parts, as the walk takes them. -/
def PartsAt (w : World) (B o : Nat) (ls : List (List UInt8)) : Prop :=
  ∀ i l, ls[i]? = some l → ∃ pp cc M, w.cell? ⟨B, o + i, none⟩ = some (.slice pp l.length cc) ∧ Reads w (.slice pp l.length cc) l M ∧ l.length ≤ maxLen ∧ (l ≠ [] → M < w.heap.size)

/-- The parts, as the walk takes them: one block. -/
theorem Parts.at {w : World} {v : Value} {ls : List (List UInt8)} (h : Parts w v ls) : ∃ (a : Option Addr) (c B o : Nat), v = .slice a ls.length c ∧ (ls ≠ [] → a = some ⟨B, o, none⟩) ∧ PartsAt w B o ls ∧ ls.length ≤ maxLen ∧ ls.length ≤ c := by
  rcases h with ⟨rfl, rfl⟩ | ⟨a, c, rfl, hm, hcp, hp⟩
  · exact ⟨none, 0, 0, 0, rfl, fun h => absurd rfl h, fun i l hl => by simp at hl, by simp, by simp⟩
  · by_cases he : ls = []
    · subst he
      exact ⟨some a, c, 0, 0, rfl, fun h => absurd rfl h, fun i l hl => by simp at hl, hm, by simp⟩
    · obtain ⟨b, o, spot⟩ := a
      match ls, he with
      | l0 :: lr, _ =>
        obtain ⟨u, M, h0, _⟩ := hp 0 l0 rfl
        have hs : spot = none := by
          cases spot with
          | none => rfl
          | some x =>
            exfalso
            simp only [Addr.add, if_true] at h0
            unfold World.cell? at h0
            split at h0
            · simp at h0
            · cases h0
        subst hs
        refine ⟨some ⟨b, o, none⟩, c, b, o, rfl, fun _ => rfl, fun i l hl => ?_, hm, hcp⟩
        obtain ⟨u, M, hu, hr, hl2, hM⟩ := hp i l hl
        rw [Addr.add_off] at hu
        obtain ⟨pp, cc, rfl, _⟩ := hr.shape
        exact ⟨pp, cc, M, hu, hr, hl2, hM⟩

theorem PartsAt.keeps {S : List Nat} {w w' : World} {B o : Nat} {ls : List (List UInt8)} (h : PartsAt w B o ls) (hk : Keeps S w w') (hS : ∀ x ∈ S, w.heap.size ≤ x) : PartsAt w' B o ls := by
  intro i l hl
  obtain ⟨pp, cc, M, hc, hr, hm, hM⟩ := h i l hl
  have hB := World.block_lt_of_cell? _ _ hc
  refine ⟨pp, cc, if l = [] then w.heap.size + (S.foldr (· + ·) 0) + 1 else M, hk.cell hc (fun hm => by have := hS _ hm; omega), ?_, hm, fun hne => by rw [if_neg hne]; have := hM hne; have := hk.size; omega⟩
  by_cases he : l = []
  · subst he
    rcases hr with h1 | ⟨ad, cap, hv, hcap, hb, hcell⟩
    · exact .inl h1
    · exact .inr ⟨ad, cap, hv, hcap, fun h => absurd rfl h, fun i c hi => by simp at hi⟩
  · rw [if_neg he]
    exact hr.keeps hk (fun hm => by have := hS _ hm; have := hM he; omega)
end Go.Proofs.Ytfnjjanknfmibaa
