/-
  Contracts: AreRecords of lists that are the same; all; what a list of records reads as.
-/
import Derived.Test.YtlnmbfddhdjioaaGreatRecH
namespace Go.Proofs.YtlnmbfddhdjioaaGreat
open Go.RowKit

/-- A list of records, as it lies. -/
def RecsAt (w : World) (v : Value) (rs : List (Nat × R4)) : Prop :=
  ∃ (ao : Option Addr) (cap : Nat), v = .slice ao rs.length cap ∧ rs.length ≤ cap ∧ ∀ (i : Nat) (x : Nat × R4), rs[i]? = some x → ∃ (g : Nat) (pv : Value) (M : Nat), ao = some ⟨g, 0, none⟩ ∧ g < w.heap.size ∧
    w.cell? ⟨g, i * 4, none⟩ = some (.int .i64 x.1) ∧ w.cell? ⟨g, i * 4 + 1, none⟩ = some (.int .i64 x.2.size) ∧ w.cell? ⟨g, i * 4 + 2, none⟩ = some (.int .u8 (x.2.kind.toNat : Int)) ∧ w.cell? ⟨g, i * 4 + 3, none⟩ = some pv ∧
    Reads w pv x.2.pay M ∧ M < w.heap.size

theorem RecsAt.keeps {S : List Nat} {w w' : World} {v : Value} {rs : List (Nat × R4)} (h : RecsAt w v rs) (hk : Keeps S w w') (hS : ∀ x ∈ S, w.heap.size ≤ x) : RecsAt w' v rs := by
  obtain ⟨ao, cap, hv, hl, hc⟩ := h
  refine ⟨ao, cap, hv, hl, fun i x hx => ?_⟩
  obtain ⟨g, pv, M, h1, hg, c0, c1, c2, c3, hr, hM⟩ := hc i x hx
  have hn : ∀ k, k < w.heap.size → k ∉ S := fun k hk hm => by have := hS k hm; omega
  exact ⟨g, pv, M, h1, by have := hk.size; omega, hk.cell c0 (hn _ hg), hk.cell c1 (hn _ hg), hk.cell c2 (hn _ hg), hk.cell c3 (hn _ hg), hr.keeps hk (hn _ hM), by have := hk.size; omega⟩

theorem RecsAt.ofScan {w : World} {base : Nat} {ao : Option Addr} {cp : Nat} {rs : List (Nat × R4)} {vs : List Value} (ho : w.ownsRow base 122 4 (.slice ao rs.length cp) rs.length (recsCells rs vs)) (hr : RecsIn base w rs vs) (hw : 0 < w.heap.size) : RecsAt w (.slice ao rs.length cp) rs := by
  have hcap : rs.length ≤ cp := by
    rcases ho.2 with ⟨h, h0⟩ | ⟨g, cap, cur, h, _, _, h1, _⟩
    · simp at h; omega
    · simp at h; omega
  refine ⟨ao, cp, rfl, hcap, fun i x hx => ?_⟩
  have hi := (List.getElem?_eq_some_iff.1 hx).1
  obtain ⟨v, hv⟩ : ∃ v, vs[i]? = some v := ⟨_, List.getElem?_eq_getElem (by rw [hr.len]; exact hi)⟩
  obtain ⟨M, hrd, hM⟩ := owns_reads (hr.pay i x v hx hv) hw
  rcases ho.2 with ⟨_, h0⟩ | ⟨g, cap, cur, h, _, hg, _⟩
  · omega
  · simp at h
    obtain ⟨h, _⟩ := h
    have hob : (Value.slice ao rs.length cp).ownBlock = some g := by rw [h]; rfl
    have hc := ho.cells hob
    have hh : ∀ j, j < 4 → w.cell? ⟨g, i * 4 + j, none⟩ = (recCells x.1 x.2 v)[j]? := by
      intro j hj
      have hgt := recsCells_get rs vs i x v j hx hv hj
      cases hq : (recCells x.1 x.2 v)[j]? with
      | none => simp [recCells] at hq; omega
      | some u =>
        rw [hq] at hgt
        have := hc _ u hgt
        rwa [Addr.add_off, Nat.zero_add] at this
    exact ⟨g, v, M, h, (Array.getElem?_eq_some_iff.1 hg).1, hh 0 (by decide), hh 1 (by decide), hh 2 (by decide), hh 3 (by decide), hrd, hM⟩

/-- The first ones of a list. -/
theorem RecsAt.take {w : World} {ao : Option Addr} {n cap : Nat} {rs : List (Nat × R4)} (h : RecsAt w (.slice ao n cap) rs) (k : Nat) (hk : k ≤ rs.length) : RecsAt w (.slice ao k cap) (rs.take k) := by
  obtain ⟨ao', cap', hv, hl, hc⟩ := h
  simp at hv
  obtain ⟨rfl, rfl, rfl⟩ := hv
  have hlen : (rs.take k).length = k := by simp; omega
  refine ⟨ao, cap, by rw [hlen], by omega, fun i x hx => ?_⟩
  rw [List.getElem?_take] at hx
  split at hx
  · exact hc i x hx
  · cases hx

end Go.Proofs.YtlnmbfddhdjioaaGreat
