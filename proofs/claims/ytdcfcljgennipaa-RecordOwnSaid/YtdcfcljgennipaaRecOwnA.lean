/-
  RecordOwn, walked: what it wants.
-/
import Derived.Test.YtdcfcljgennipaaRecP
import Derived.Test.YtdcfcljgennipaaRingM
import Derived.Deep.AppendLies
import Derived.Deep.RegionLaw
import Derived.Deep.Cut
namespace Go.Proofs.Ytdcfcljgennipaa
open Go.RowKit

/-- A slice of bytes whose cells may be written, in memory that is newer than a number of blocks. -/
def Bare (n0 : Nat) (W : World) (v : Value) : Prop :=
  ∃ (ao : Option Addr) (n c : Nat), v = .slice ao n c ∧ n ≤ maxLen ∧ (0 < n → ∃ (g : Nat) (cur : Array Value), ao = some ⟨g, 0, none⟩ ∧ n0 ≤ g ∧ W.heap[g]? = some (.cells cur 5 (0, 0)) ∧ n ≤ cur.size)

theorem Bare.keeps {n0 : Nat} {W X : World} {v : Value} (h : Bare n0 W v) (hk : Keeps [] W X) : Bare n0 X v := by
  obtain ⟨ao, n, c, h1, h2, h3⟩ := h
  refine ⟨ao, n, c, h1, h2, fun h0 => ?_⟩
  obtain ⟨g, cur, k1, k2, k3, k4⟩ := h3 h0
  exact ⟨g, cur, k1, k2, hk.obj k3 (by simp), k4⟩

theorem Bare.set {n0 : Nat} {W : World} {v : Value} (h : Bare n0 W v) (g i : Nat) (x : Value) (cur : Array Value) (hg : W.heap[g]? = some (.cells cur 5 (0, 0))) : Bare n0 (W.setCell ⟨g, i, none⟩ x) v := by
  obtain ⟨ao, n, c, h1, h2, h3⟩ := h
  refine ⟨ao, n, c, h1, h2, fun h0 => ?_⟩
  obtain ⟨g', cur', k1, k2, k3, k4⟩ := h3 h0
  by_cases e : g' = g
  · subst e
    rw [hg] at k3
    cases k3
    exact ⟨g', _, k1, k2, heap_setCell_at W g' i x cur 5 (0, 0) hg, by simpa using k4⟩
  · refine ⟨g', cur', k1, k2, ?_, k4⟩
    exact (Keeps.setCell (S := [g]) W (p := ⟨g, i, none⟩) (by simp) x).obj k3 (by simpa using e)

theorem Bare.ofOwns {n0 n : Nat} {W : World} {v : Value} {xs : List Value} (h : W.ownsRow n0 5 1 v n xs) : Bare n0 W v := by
  obtain ⟨_, h⟩ := h
  rcases h with ⟨rfl, h0⟩ | ⟨g, cap, cur, rfl, hb, hc, h1, h2, h3, _⟩
  · exact ⟨none, 0, 0, rfl, Nat.zero_le _, fun h => by omega⟩
  · exact ⟨some ⟨g, 0, none⟩, n, cap, rfl, by omega, fun _ => ⟨g, cur, rfl, hb, hc, by omega⟩⟩

/-- What the loops of RecordOwn go through: a list of records, each one's payload bare. -/
structure Bares (n0 : Nat) (W : World) (g : Nat) (curL : Array Value) (rs : List (Nat × R4)) (vs : List Value) : Prop where
  list : rs ≠ [] → W.heap[g]? = some (.cells curL 29 (0, 0))
  bare : ∀ v ∈ vs, Bare n0 W v

theorem Bares.keeps {n0 : Nat} {W X : World} {g : Nat} {curL : Array Value} {rs : List (Nat × R4)} {vs : List Value} (h : Bares n0 W g curL rs vs) (hk : Keeps [] W X) : Bares n0 X g curL rs vs :=
  ⟨fun e => hk.obj (h.list e) (by simp), fun v hv => (h.bare v hv).keeps hk⟩

theorem Bares.set {n0 : Nat} {W : World} {g : Nat} {curL : Array Value} {rs : List (Nat × R4)} {vs : List Value} (h : Bares n0 W g curL rs vs) (b i : Nat) (x : Value) (cur : Array Value) (hb : W.heap[b]? = some (.cells cur 5 (0, 0))) :
    Bares n0 (W.setCell ⟨b, i, none⟩ x) g curL rs vs := by
  refine ⟨fun e => ?_, fun v hv => (h.bare v hv).set b i x cur hb⟩
  have hl := h.list e
  refine (Keeps.setCell (S := [b]) W (p := ⟨b, i, none⟩) (by simp) x).obj hl ?_
  simp only [List.mem_singleton]
  rintro rfl
  rw [hb] at hl
  cases hl

/-- Of a list that is owned. -/
theorem Bares.ofOwns {n0 L : Nat} {W : World} {ao : Option Addr} {cp : Nat} {rs : List (Nat × R4)} {vs : List Value} (h : W.ownsRow n0 29 4 (.slice ao L cp) L (recsCells rs vs)) (hr : RecsIn n0 W rs vs) (hL : L = rs.length) :
    ∃ (g : Nat) (curL : Array Value), Bares n0 W g curL rs vs ∧ (rs ≠ [] → ao = some ⟨g, 0, none⟩) ∧ L ≤ cp ∧ ∀ (j : Nat) (v : Value), (recsCells rs vs)[j]? = some v → curL[j]? = some v := by
  obtain ⟨h0, h⟩ := h
  have hb : ∀ v ∈ vs, Bare n0 W v := fun v hv => by
    obtain ⟨i, hi⟩ := List.mem_iff_getElem?.1 hv
    have hlt := (List.getElem?_eq_some_iff.1 hi).1
    rw [hr.len] at hlt
    exact Bare.ofOwns (hr.pay i _ v (List.getElem?_eq_getElem hlt) hi)
  rcases h with ⟨hv, hn⟩ | ⟨g, cap, cur, hv, _, hc, h1, _, _, h4⟩
  · simp at hv
    refine ⟨0, #[], ⟨fun e => ?_, hb⟩, fun e => ?_, by omega, fun j v hj => ?_⟩
    · exact absurd (List.eq_nil_of_length_eq_zero (by omega)) e
    · exact absurd (List.eq_nil_of_length_eq_zero (by omega)) e
    · have := (List.getElem?_eq_some_iff.1 hj).1; omega
  · simp at hv
    refine ⟨g, cur, ⟨fun _ => hc, hb⟩, fun _ => hv.1, by omega, fun j v hj => ?_⟩
    rw [← h4] at hj
    have hlt := (List.getElem?_eq_some_iff.1 hj).1
    rw [List.getElem?_take] at hj
    split at hj
    · simpa using hj
    · cases hj

theorem write_align {s : FS} (p : List UInt8) (hp : p.length ≤ 4080) (hd : s.down = false) (hl : s.bs.length = 2048) : s.write 2 p = (s, 11) := by
  have hm : s.mayProgram 2 (headB p.length).length = 11 := FS.mayProgram_align hd (by rw [headB_length]; unfold FS.has; omega) (.inl (by decide))
  have hpr := FS.program_no hm (by decide)
  unfold FS.write
  rw [if_neg (by omega), if_neg (fun h => by have := h.1; revert this; decide)]
  unfold stepP
  rw [hpr, if_pos (by simp)]

theorem write_out {s : FS} (a : Int) (p : List UInt8) (hp : p.length ≤ 4080) (hd : s.down = false) (h4 : a % 4 = 0) (hh : ¬ s.has a (sizeN p.length : Nat)) : s.write a p = (s, 10) := by
  have hr : s.readErr a (sizeN p.length) = 10 := by
    unfold FS.readErr
    rw [hd, if_neg (by simp), if_neg hh]
  unfold FS.write
  rw [if_neg (by omega), if_pos ⟨h4, by rw [hr]; decide⟩, hr]

/-- Write, of no flash. -/
theorem Write_none (w : World) (x : Option Addr) (n cap : Nat) (hn : n ≤ 4080) :
    Calls Try.prog 22 #[.pointer none, .int .i64 0, .slice x n cap] w fun e w' => e = .returned (.int .i64 1) ∧ Keeps [] w w' :=
  Write_early w none 0 x n cap hn 1 (by decide) ((recWhole_not w none (.inl rfl) _).mono fun _ _ ⟨h1, h2⟩ => ⟨h1, h2 ▸ Keeps.refl _ _⟩)
end Go.Proofs.Ytdcfcljgennipaa
