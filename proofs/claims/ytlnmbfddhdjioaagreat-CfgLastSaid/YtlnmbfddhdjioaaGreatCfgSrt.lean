/-
  Keys and values: the entries by rising keys.
  Keys and values: sorted: the entries by rising keys.
  Keys and values: sorted, whole.
-/
import Derived.Test.YtlnmbfddhdjioaaGreatCfgRng
import Derived.Test.YtlnmbfddhdjioaaGreatCfgSort
import Derived.Sort.OwnSorted
namespace Go.Proofs.YtlnmbfddhdjioaaGreat
open Go.RowKit Go.Sort Go.Shelf

theorem heap_sortedV {w : World} {g n : Nat} {os : Array Obj} {cur : Array Value} {e : TypeId} {fr : Nat × Nat} (d : Array Value) (hb : w.heap[g]? = some (.cells cur e fr)) :
    (grow (putRow id (Sort.ahead w n) g 0 d) os).heap[g]? = some (.cells (putCells id 0 d cur) e fr) := by
  have hg : g < w.heap.size := (Array.getElem?_eq_some_iff.1 hb).1
  rw [heap_grow_old _ _ (by simpa using hg)]
  simp [putRow, mapBlock, Sort.ahead, Array.getElem?_modify, hb, onCells]
theorem grownBy_sortedV {w : World} {g n : Nat} {os : Array Obj} (d : Array Value) : w.grownBy (grow (putRow id (Sort.ahead w n) g 0 d) os) (some g) := by
  refine ⟨rfl, rfl, rfl, by simp, fun k hk hne => ?_⟩
  rw [heap_grow_old _ _ (by simpa using hk)]
  have : g ≠ k := fun e => hne (by rw [e])
  simp [putRow, mapBlock, Sort.ahead, Array.getElem?_modify, this]
theorem take_putCellsV (cur : Array Value) (ts : List Value) (h : ts.length ≤ cur.size) : (putCells id 0 ts.toArray cur).toList.take ts.length = ts := by
  apply List.ext_getElem?
  intro j
  by_cases hj : j < ts.length
  · rw [List.getElem?_take_of_lt hj, Array.getElem?_toList]
    simp [putCells, hj, show j < cur.size by omega]
  · rw [List.getElem?_take_eq_none (by omega), List.getElem?_eq_none (by omega)]
theorem ownsRow_sortedV {w : World} {base g cap n m size : Nat} {e : TypeId} {os : Array Obj} {cur : Array Value} {xs : List Value} (hl : xs.length = m * size) (hbase : base ≤ g) (hb : w.heap[g]? = some (.cells cur e (0, 0)))
    (h1 : m ≤ cap) (h2 : cap ≤ maxLen) (h3 : cur.size = cap * size) :
    (grow (putRow id (Sort.ahead w n) g 0 xs.toArray) os).ownsRow base e size (.slice (some ⟨g, 0, none⟩) m cap) m xs :=
  ⟨hl, .inr ⟨g, cap, _, rfl, hbase, heap_sortedV _ hb, h1, h2, by simp [putCells, h3], by rw [← hl]; exact take_putCellsV cur xs (by rw [hl, h3]; exact Nat.mul_le_mul_right _ h1)⟩⟩
theorem holds_of_blockV {w : World} {g : Nat} {cur : Array Value} {e : TypeId} {xs : List Value} (hb : w.heap[g]? = some (.cells cur e (0, 0))) (ht : cur.toList.take xs.length = xs) : Holds id w g 0 xs.toArray := by
  intro j hj
  have hj' : j < xs.length := by simpa using hj
  refine ⟨?_, by simp [World.frozen?, hb]⟩
  have h1 : (cur.toList.take xs.length)[j]? = xs[j]? := by rw [ht]
  rw [List.getElem?_take_of_lt hj'] at h1
  simp only [World.cell?, hb, Nat.zero_add]
  simp only [Option.isSome_none, Bool.false_eq_true, if_false]
  rw [← Array.getElem?_toList, h1]
  simp [hj']

/-- the i-th one, or the first one -/
def nthZ (z0 : List UInt8 × (List UInt8 × Value)) (ys : KVs) (i : Nat) : List UInt8 × (List UInt8 × Value) := ys[i]?.getD z0
def encN (z0 : List UInt8 × (List UInt8 × Value)) (ys : KVs) (i : Nat) : List Value := entCells (nthZ z0 ys i).2.2
def cfN (z0 : List UInt8 × (List UInt8 × Value)) (ys : KVs) (i j : Nat) : Int := Lib.compareBytes (nthZ z0 ys i).1 (nthZ z0 ys j).1

theorem ltN (z0 : List UInt8 × (List UInt8 × Value)) (ys : KVs) (i j : Nat) : ltOf (cfN z0 ys) i j = bytesBefore (nthZ z0 ys i).1 (nthZ z0 ys j).1 := compare_before _ _
theorem before_total_trans {a b c : List UInt8} (h1 : bytesBefore a b = false) (h2 : bytesBefore b c = false) : bytesBefore a c = false := by
  cases h : bytesBefore a c with
  | false => rfl
  | true =>
    exfalso
    by_cases e : a = b
    · subst e; rw [h] at h2; cases h2
    · have hba := (WideAt.bytes_total _ _ e).resolve_left (by rw [h1]; decide)
      have := WideShapes.bytes_trans _ _ _ hba h
      rw [this] at h2; cases h2
theorem swoN (z0 : List UInt8 × (List UInt8 × Value)) (ys : KVs) : SWO (ltOf (cfN z0 ys)) where
  irrefl x := by rw [ltN]; exact WideAt.bytes_irrefl _
  trans x y z h1 h2 := by rw [ltN] at *; exact WideShapes.bytes_trans _ _ _ h1 h2
  ntrans x y z h1 h2 := by rw [ltN] at *; exact before_total_trans h1 h2

theorem flatN_row (z0 : List UInt8 × (List UInt8 × Value)) (ys : KVs) (d : Array Nat) : flatK (encN z0 ys) 2 d = (rowZ (d.toList.map (nthZ z0 ys))).toArray := by
  obtain ⟨l⟩ := d
  unfold flatK
  apply Array.ext_getElem?
  intro t
  have key : ∀ (l : List Nat) (t : Nat), (rowZ (l.map (nthZ z0 ys)))[t]? = if t < l.length * 2 then some ((encN z0 ys (l[t / 2]?.getD 0))[t % 2]!) else none := by
    intro l
    induction l with
    | nil => intro t; simp [rowZ]
    | cons x r ih =>
      intro t
      have e : rowZ ((x :: r).map (nthZ z0 ys)) = entCells (nthZ z0 ys x).2.2 ++ rowZ (r.map (nthZ z0 ys)) := by simp [rowZ]
      have hl := entCells_length (nthZ z0 ys x).2.2
      rw [e]
      by_cases ht : t < 2
      · rw [List.getElem?_append_left (by omega)]
        have h2 : t / 2 = 0 := by omega
        have h3 : t % 2 = t := by omega
        rw [if_pos (by simp; omega), h2, h3]
        simp only [List.getElem?_cons_zero, Option.getD_some]
        unfold encN
        rw [List.getElem?_eq_getElem (by omega), getElem!_pos _ _ (by omega)]
      · rw [List.getElem?_append_right (by omega), ih, hl]
        have h2 : t / 2 = (t - 2) / 2 + 1 := by omega
        have h3 : t % 2 = (t - 2) % 2 := by omega
        rw [h2, h3, List.getElem?_cons_succ]
        by_cases hlt : t - 2 < r.length * 2
        · rw [if_pos hlt, if_pos (by simp; omega)]
        · rw [if_neg hlt, if_neg (by simp; omega)]
  simp only [List.getElem?_toArray, Array.getElem?_map, key]
  by_cases ht : t < l.length * 2
  · rw [if_pos ht]
    have h2 : t / 2 < l.length := by omega
    simp [ht, h2]
  · rw [if_neg ht]
    simp [ht]

theorem rangeN_map (z0 : List UInt8 × (List UInt8 × Value)) (ys : KVs) : (List.range ys.length).map (nthZ z0 ys) = ys := by
  apply List.ext_getElem?
  intro i
  by_cases h : i < ys.length
  · simp [h, nthZ]
  · simp [h]

theorem sortedN_pairwise {n : Nat} {lt : Nat → Nat → Bool} {d : Array Nat} (hn : d.size = n) (h : SortedIn lt 0 n d) : d.toList.Pairwise fun a b => lt b a = false := by
  rw [List.pairwise_iff_getElem]
  intro i j hi hj hij
  have := h i j (Nat.zero_le _) hij (by simpa [hn] using hj)
  simpa [getElem!_pos d i (by simpa using hi), getElem!_pos d j (by simpa using hj)] using this
end Go.Proofs.YtlnmbfddhdjioaaGreat

namespace Go.Proofs.YtlnmbfddhdjioaaGreat
open Go.RowKit Go.Sort Go.Shelf

theorem keeps_sortWorldK {w : World} {g m : Nat} {os : Array Obj} (F : Array Value) : Keeps [g] w (grow (putRow id (Sort.ahead w m) g 0 F) os) :=
  Keeps.grown (grownBy_sortedV F) (fun k hk => by cases hk; simp)

set_option maxRecDepth 100000 in
set_option maxHeartbeats 1000000 in
theorem SortFunc_some (w0 w : World) (base : Nat) (z0 : List UInt8 × (List UInt8 × Value)) (r : KVs) (he : ∀ z ∈ z0 :: r, EntAt base w0 z.2.2 (z.1, z.2.1)) (hk : Keeps [] w0 w) (g cap : Nat)
    (ho : w.ownsRow w0.heap.size 51 2 (.slice (some ⟨g, 0, none⟩) (z0 :: r).length cap) (z0 :: r).length (rowZ (z0 :: r))) (hn : (z0 :: r).length ≤ 100000) :
    Calls Tryz.prog 89 #[.slice (some ⟨g, 0, none⟩) (z0 :: r).length cap, .func (.func 60) #[] #[]] w fun e w' => e = .returned (.tuple #[]) ∧
      ∃ xs, (z0 :: r).Perm xs ∧ xs.Pairwise (fun a b => bytesBefore b.1 a.1 = false) ∧ w'.ownsRow w0.heap.size 51 2 (.slice (some ⟨g, 0, none⟩) (z0 :: r).length cap) (z0 :: r).length (rowZ xs) ∧ Keeps [g] w w' := by
  obtain ⟨ys, hys⟩ : ∃ ys, ys = z0 :: r := ⟨_, rfl⟩
  rw [← hys] at he ho hn ⊢
  obtain ⟨hlen, ho2⟩ := ho
  obtain ⟨g', cap', cur, hv, hg0, hcur, hc1, hc2, hc3, hc4⟩ : ∃ g' cap' cur, Value.slice (some ⟨g, 0, none⟩) ys.length cap = .slice (some ⟨g', 0, none⟩) ys.length cap' ∧ w0.heap.size ≤ g' ∧ w.heap[g']? = some (.cells cur 51 (0, 0)) ∧ ys.length ≤ cap' ∧ cap' ≤ maxLen ∧ cur.size = cap' * 2 ∧ cur.toList.take (ys.length * 2) = rowZ ys := by
    rcases ho2 with ⟨h, _⟩ | h
    · simp at h
    · exact h
  simp at hv
  obtain ⟨rfl, rfl⟩ := hv
  have hd : (Array.range ys.length).size = ys.length := by simp
  have hrow : flatK (encN z0 ys) 2 (Array.range ys.length) = (rowZ ys).toArray := by
    rw [flatN_row]; congr 1; congr 1
    rw [Array.toList_range]; exact rangeN_map z0 ys
  have hH : HoldsK (encN z0 ys) 2 w g 0 (Array.range ys.length) := by
    unfold HoldsK; rw [hrow]
    exact holds_of_blockV hcur (by rw [hlen]; exact hc4)
  have hglt : g < w.heap.size := (Array.getElem?_eq_some_iff.1 hcur).1
  have hmem : ∀ i, nthZ z0 ys i ∈ ys := by
    intro i
    unfold nthZ
    cases h : ys[i]? with
    | none => rw [hys]; simp
    | some x => exact List.mem_of_getElem? h
  have hcmp : CmpLays Tryz.prog 60 #[] (encN z0 ys) 2 (cfN z0 ys) g 0 ys.length w := by
    intro m os dk _ i j
    have hW : Keeps [g] w (sortWorldK (encN z0 ys) 2 w g 0 m dk os) := keeps_sortWorldK _
    generalize sortWorldK (encN z0 ys) 2 w g 0 m dk os = W at hW ⊢
    have hrd : ∀ i, ∃ a n c b p d M, encN z0 ys i = [.slice a n c, .slice b p d] ∧ Reads W (.slice a n c) (nthZ z0 ys i).1 M := by
      intro i
      obtain ⟨kv, vv, hv, hkb, hvb⟩ := he _ (hmem i)
      obtain ⟨a, c, rfl, _⟩ := hkb.shape
      obtain ⟨b, d, rfl, _⟩ := hvb.shape
      obtain ⟨M, hr, hM⟩ := hkb
      refine ⟨a, _, c, b, _, d, M, by unfold encN; rw [hv]; rfl, ?_⟩
      exact (hr.keepsIf hk (by simp)).keepsIf hW (fun hl hm => by have := hM hl; simp at hm; omega)
    obtain ⟨a1, n1, c1, b1, p1, d1, M1, e1, r1⟩ := hrd i
    obtain ⟨a2, n2, c2, b2, p2, d2, M2, e2, r2⟩ := hrd j
    rw [e1, e2]
    exact byKey_any W a1 n1 c1 b1 p1 d1 a2 n2 c2 b2 p2 d2 _ _ M1 M2 r1 r2
  have hcon := AnyQ.slices_SortFunc sortE 2 Tryz.isAgg51 Tryz.sizeOf51 (encN z0 ys) (fun _ => entCells_length _) (fun _ => entCells_one _) (cfN z0 ys) (swoN z0 ys) 60 #[] g 0 cap (Array.range ys.length) w
    (enters_of Tryz.func60 (by kernel_rfl) rfl) (by rw [hd]; exact hcmp) hH hglt (by rw [hd]; omega)
  rw [hd] at hcon
  refine hcon.mono ?_
  rintro e w' ⟨rfl, d', n, os, ⟨hp1, _, hp3⟩, hs, rfl⟩
  refine ⟨rfl, d'.toList.map (nthZ z0 ys), ?_, ?_, ?_, keeps_sortWorldK _⟩
  · rw [hd] at hp1
    have q1 : d'.extract 0 ys.length = d' := by rw [← hp1]; simp
    have q2 : (Array.range ys.length).extract 0 ys.length = Array.range ys.length := by
      have := Array.extract_size (xs := Array.range ys.length); rwa [hd] at this
    rw [q1, q2, Array.toList_range] at hp3
    have := (hp3.map (nthZ z0 ys)).symm
    rwa [rangeN_map] at this
  · rw [hd] at hp1
    rw [List.pairwise_map]
    have := sortedN_pairwise hp1 hs
    exact this.imp (fun {a b} h => by rw [ltN] at h; exact h)
  · rw [hd] at hp1
    unfold sortWorldK putRowK
    rw [flatN_row]
    exact ownsRow_sortedV (by rw [rowZ_length, List.length_map]; simp [hp1]) hg0 hcur hc1 hc2 hc3
end Go.Proofs.YtlnmbfddhdjioaaGreat

namespace Go.Proofs.YtlnmbfddhdjioaaGreat
open Go.RowKit Go.Sort Go.Shelf

/-- A slice of entries. -/
def EntsAt (base : Nat) (w : World) (v : Value) (es : List Ent) : Prop :=
  ∃ (ao : Option Addr) (cap : Nat), v = .slice ao es.length cap ∧ es.length ≤ cap ∧ ∀ (i : Nat) (e : Ent), es[i]? = some e → ∃ (g : Nat) (kv vv : Value), ao = some ⟨g, 0, none⟩ ∧ base ≤ g ∧ g < w.heap.size ∧
    w.cell? ⟨g, i * 2, none⟩ = some kv ∧ w.cell? ⟨g, i * 2 + 1, none⟩ = some vv ∧ BytesAt base w kv e.1 ∧ BytesAt base w vv e.2

theorem EntsAt.keeps {S : List Nat} {base : Nat} {w w' : World} {v : Value} {es : List Ent} (h : EntsAt base w v es) (hk : Keeps S w w') (hS : ∀ x ∈ S, x < base ∨ w.heap.size ≤ x) : EntsAt base w' v es := by
  obtain ⟨ao, cap, hv, hl, hc⟩ := h
  refine ⟨ao, cap, hv, hl, fun i e he => ?_⟩
  obtain ⟨g, kv, vv, h1, h2, h3, c0, c1, b0, b1⟩ := hc i e he
  have hn : g ∉ S := fun hm => by rcases hS g hm with h | h <;> omega
  exact ⟨g, kv, vv, h1, h2, by have := hk.size; omega, hk.cell c0 hn, hk.cell c1 hn, b0.keeps hk hS, b1.keeps hk hS⟩
theorem EntsAt.shape {base : Nat} {w : World} {v : Value} {es : List Ent} (h : EntsAt base w v es) : ∃ ao cap, v = .slice ao es.length cap ∧ es.length ≤ cap := by
  obtain ⟨ao, cap, hv, hl, _⟩ := h; exact ⟨ao, cap, hv, hl⟩
theorem EntsAt.nil (base : Nat) (w : World) : EntsAt base w (.slice none 0 0) [] := ⟨none, 0, rfl, Nat.le_refl _, fun i e h => by simp at h⟩

theorem rowZ_get : ∀ (zs : KVs) (i : Nat) (z : List UInt8 × (List UInt8 × Value)) (j : Nat), zs[i]? = some z → j < 2 → (rowZ zs)[i * 2 + j]? = (entCells z.2.2)[j]?
  | [], i, z, j, h, _ => by simp at h
  | y :: r, 0, z, j, h, hj => by
    simp at h; subst h
    have hl := entCells_length y.2.2
    simp only [rowZ, List.flatMap_cons]
    rw [List.getElem?_append_left (by omega)]; congr 1; omega
  | y :: r, i + 1, z, j, h, hj => by
    have ih := rowZ_get r i z j (by simpa using h) hj
    have hl := entCells_length y.2.2
    simp only [rowZ, List.flatMap_cons]
    rw [List.getElem?_append_right (by omega), hl]
    rw [show (i + 1) * 2 + j - 2 = i * 2 + j by omega]
    exact ih

theorem EntsAt.ofRow {base b0 : Nat} {w : World} {v : Value} {zs : KVs} (h : w.ownsRow b0 51 2 v zs.length (rowZ zs)) (hb : base ≤ b0) (he : ∀ z ∈ zs, EntAt base w z.2.2 (z.1, z.2.1)) : EntsAt base w v (mapK Prod.fst zs) := by
  rcases h.2 with ⟨rfl, h0⟩ | ⟨g, cap, cur, rfl, hg, hcur, hc1, hc2, hc3, hc4⟩
  · have : zs = [] := List.eq_nil_of_length_eq_zero h0
    subst this
    exact EntsAt.nil _ _
  · refine ⟨_, cap, by rw [mapK_length], by rw [mapK_length]; exact hc1, fun i e hi => ?_⟩
    simp only [mapK, List.getElem?_map] at hi
    obtain ⟨z, hz, rfl⟩ := Option.map_eq_some_iff.1 hi
    have hlt := (List.getElem?_eq_some_iff.1 hz).1
    obtain ⟨kv, vv, hv, bk, bv1⟩ := he z (List.mem_of_getElem? hz)
    obtain ⟨a, c, rfl, _⟩ := bk.shape
    obtain ⟨b, d, rfl, _⟩ := bv1.shape
    have hcell : ∀ j u, j < 2 → (entCells z.2.2)[j]? = some u → w.cell? ⟨g, i * 2 + j, none⟩ = some u := by
      intro j u hj hu
      have h1 := rowZ_get zs i z j hz hj
      rw [hu, ← hc4, List.getElem?_take_of_lt (by omega)] at h1
      unfold World.cell?
      simp only [hcur, Option.isSome_none, Bool.false_eq_true, if_false]
      rw [← Array.getElem?_toList]; exact h1
    rw [hv] at hcell
    exact ⟨g, _, _, rfl, by omega, (Array.getElem?_eq_some_iff.1 hcur).1, hcell 0 _ (by omega) rfl, hcell 1 _ (by omega) rfl, bk, bv1⟩

theorem rise_of_sorted {xs : KVs} (h : xs.Pairwise fun a b => bytesBefore b.1 a.1 = false) (hne : xs.Pairwise fun a b => a.1 ≠ b.1) : Rise xs := by
  have := h.and hne
  exact this.imp (fun {a b} ⟨h1, h2⟩ => (WideAt.bytes_total _ _ h2).resolve_right (by rw [h1]; decide))

set_option maxRecDepth 100000 in
set_option maxHeartbeats 400000 in
theorem Collect_any (w : World) (B bm base : Nat) (zs : KVs) (hz : MapZ base w B zs) (hb : w.cell? ⟨bm, 0, none⟩ = some (.map (some B))) (hbm : bm < w.heap.size) (hn : zs.length ≤ 100000) :
    Calls Tryz.prog 88 #[.func (.func 90) #[] #[.pointer (some ⟨bm, 0, none⟩)]] w fun e w' => ∃ ys v, zs.Perm ys ∧ e = .returned v ∧ w'.ownsRow w.heap.size 51 2 v ys.length (rowZ ys) ∧ Keeps [] w w' := by
  have HA := Lib.hid (AppendSeq_any w B bm base zs hz hb hbm hn)
  clear hz hb
  go_enter Tryz.func88, Tryz.ntmps88
  go_wp2_with (go_at_call 106; refine HA.out.mono ?_; rintro e w1 ⟨ys, v, hp, rfl, ho, hk⟩; obtain ⟨ao, cp, rfl⟩ := owns_shape2 ho; have HP := Lib.hid hp; have HO := Lib.hid ho; have HK := Lib.hid hk; clear hp ho hk)
  go_ret
  exact ⟨ys, _, HP.out, rfl, HO.out, HK.out⟩

set_option maxRecDepth 100000 in
set_option maxHeartbeats 1000000 in
theorem SortedFunc_any (w : World) (B bm base : Nat) (zs : KVs) (hz : MapZ base w B zs) (hb : w.cell? ⟨bm, 0, none⟩ = some (.map (some B))) (hbm : bm < w.heap.size) (hbase : base ≤ w.heap.size) (hn : zs.length ≤ 100000) :
    Calls Tryz.prog 62 #[.func (.func 90) #[] #[.pointer (some ⟨bm, 0, none⟩)], .func (.func 60) #[] #[]] w fun e w' => ∃ v, e = .returned v ∧ EntsAt base w' v (mapK Prod.fst zs) ∧ Keeps [] w w' := by
  have HC := Lib.hid (Collect_any w B bm base zs hz hb hbm hn)
  have HZ := Lib.hid hz
  clear hz hb
  go_enter Tryz.func62, Tryz.ntmps62
  go_wp2_with fail
  refine HC.out.mono ?_
  rintro e w1 ⟨ys, v, hp, rfl, ho, hk⟩
  have hzk : ∀ z ∈ ys, EntAt base w z.2.2 (z.1, z.2.1) := fun z hz => HZ.out.ent z (hp.mem_iff.2 hz)
  have HZK := Lib.hid hzk
  have HP := Lib.hid hp
  have HK := Lib.hid hk
  have hyl : ys.length ≤ 100000 := by rw [← hp.length_eq]; exact hn
  match ys, ho, hzk, HP, HZK, hyl with
  | [], ho, _, HP, _, _ =>
    obtain ⟨ao, cp, rfl⟩ := owns_shape2 ho
    have HO := Lib.hid ho
    have hS := fun W => AnyF.slices_SortFunc_none sortE ao cp (.func (.func 60) #[] #[]) W
    change ∀ W, Calls Tryz.prog 89 _ W _ at hS
    have HS := Lib.hid hS
    clear ho hp hk hS hzk
    go_wp2_with (go_at_call 89; refine (HS.out _).mono ?_; rintro e w2 ⟨rfl, rfl⟩)
    go_ret
    refine ⟨_, rfl, ?_, HK.out⟩
    have e0 : zs = [] := HP.out.eq_nil
    subst e0
    exact EntsAt.ofRow (zs := []) HO.out hbase (by simp)
  | z0 :: r, ho, hzk, HP, HZK, hyl =>
    obtain ⟨g, cap, rfl⟩ : ∃ g cap, v = .slice (some ⟨g, 0, none⟩) (z0 :: r).length cap := by
      rcases ho.2 with ⟨_, h0⟩ | ⟨g, cap, cur, rfl, _⟩
      · simp at h0
      · exact ⟨g, cap, rfl⟩
    have HS := Lib.hid (SortFunc_some w w1 base z0 r hzk hk g cap ho hyl)
    have hgl := ho.lt g rfl
    clear ho hp hk hzk
    obtain ⟨N, hN⟩ : ∃ N, N = (z0 :: r).length := ⟨_, rfl⟩
    have HN := Lib.hid hN
    rw [← hN] at HS ⊢
    clear hN
    go_wp2_with (go_at_call 89; refine HS.out.mono ?_; rintro e w2 ⟨rfl, xs, hp2, hs2, ho2, hk2⟩; have HP2 := Lib.hid hp2; have HS2 := Lib.hid hs2; have HO2 := Lib.hid ho2; have HK2 := Lib.hid hk2; clear hp2 hs2 ho2 hk2)
    go_ret
    have hpz : zs.Perm xs := HP.out.trans HP2.out
    have hne : xs.Pairwise fun a b => a.1 ≠ b.1 := (hpz.pairwise_iff (fun {a b} h => Ne.symm h)).1 HZ.out.rise.ne
    have hxz : zs = xs := rise_unique HZ.out.rise (rise_of_sorted HS2.out hne) hpz
    have kk : Keeps [] w w2 := HK.out.then HK2.out (fun x hx => .inr (by simp at hx; omega))
    refine ⟨_, rfl, ?_, kk⟩
    have hl : N = zs.length := by rw [HN.out, hpz.length_eq, HP2.out.length_eq]
    have ho3 := HO2.out
    rw [← hxz, hl] at ho3
    rw [hl]
    exact EntsAt.ofRow ho3 hbase (fun z hz => (HZ.out.ent z hz).keeps kk (by simp))

set_option maxRecDepth 100000 in
set_option maxHeartbeats 400000 in
theorem values_any (w : World) (B : Nat) :
    Calls Tryz.prog 63 #[.map (some B)] w fun e w' => e = .returned (.func (.func 90) #[] #[.pointer (some ⟨w.heap.size, 0, none⟩)]) ∧ w' = w.alloc (.cells #[.map (some B)] 73) := by
  go_enter Tryz.func63, Tryz.ntmps63
  go_wp2
  go_ret
  exact ⟨rfl, rfl⟩

set_option maxRecDepth 100000 in
set_option maxHeartbeats 1000000 in
theorem sorted_any (w : World) (B base : Nat) (es : List Ent) (hm : MapAt base w B es) (hbase : base ≤ w.heap.size) (hn : es.length ≤ 100000) :
    Calls Tryz.prog 32 #[.map (some B)] w fun e w' => ∃ v, e = .returned v ∧ EntsAt base w' v es ∧ Keeps [] w w' := by
  obtain ⟨zs, hz, he⟩ := hm
  have hk0 : Keeps [] w (w.alloc (.cells #[.map (some B)] 73)) := Keeps.alloc [] _ _
  have hl := MapAt.length he hz
  have HS := Lib.hid (SortedFunc_any (w.alloc (.cells #[.map (some B)] 73)) B w.heap.size base zs (hz.keeps hk0 (by simp) (by simp)) (by rw [cell_alloc_new]; rfl) (by simp) (by simp; omega) (by omega))
  rw [he] at HS
  clear hz he hl
  have K0 := Lib.hid hk0
  clear hk0
  go_enter Tryz.func32, Tryz.ntmps32
  go_wp2_with (go_at_call 63; refine (values_any _ _).mono ?_; rintro e w1 ⟨rfl, rfl⟩)
  go_wp2_with (go_at_call 62; refine HS.out.mono ?_; rintro e w2 ⟨v, rfl, hv, hk⟩; obtain ⟨ao, cp, rfl, _⟩ := hv.shape; have HV := Lib.hid hv; have HK := Lib.hid (K0.out.trans hk); clear hv hk)
  go_ret
  exact ⟨_, rfl, HV.out, HK.out⟩
end Go.Proofs.YtlnmbfddhdjioaaGreat
