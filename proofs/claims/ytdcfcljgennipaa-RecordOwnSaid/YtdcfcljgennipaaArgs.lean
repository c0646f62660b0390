/-
  Arguments: bytes, and slices of structs of one-cell fields, as the walks take them; Put's at.
-/
import Derived.Test.YtdcfcljgennipaaBase
import Derived.ProofKit
import Derived.OpenShut
import Derived.Deep.Slices
import Derived.Deep.Fields
namespace Go.Proofs.Ytdcfcljgennipaa
open Go.RowKit Go.Deep Go.ChangeShapes Go.WideShapes

section
variable {H : Type} {enc : TypeId × Value → H} {P : Program} {w : World} {base : Nat} {spare : Nat → Bool} {held : Bool}

/-- Of a slice of structs that is read: where each field of each element lies, and that it is read. -/
theorem structs_read {t e : TypeId} {fs : Array Field} {fuel : Nat} {v : Value} {x : DataW H × List MemPlace} (ht : P.underlying t = some (.slice e)) (he : P.underlying e = some (.struct fs))
    (hone : oneCellFields P fs = true) (hC : P.cellsOf e = fs.size) (h : DataW.trod enc P w base spare held fuel t [v] = some x) :
    v = .slice none 0 0 ∨ ∃ (a : Addr) (len cap : Nat), v = .slice (some a) len cap ∧ len ≤ cap ∧ cap ≤ maxLen ∧
      ∀ i, i < len → ∀ (j : Nat) (f : Field), fs[j]? = some f → ∃ (u : Value) (y : DataW H × List MemPlace) (n : Nat), w.cell? (a.add (i * fs.size + j)) = some u ∧ DataW.trod enc P w base spare held n f.type [u] = some y := by
  rcases open_slice ht h with ⟨hcs, _⟩ | ⟨a, len, cap, m, n, D, Pl, hcs, _, hl, hm, hmm, _, hi⟩
  · exact .inl (by simpa using hcs)
  · refine .inr ⟨a, len, cap, by simpa using hcs, hl, hm, fun i hlt j f hj => ?_⟩
    have him : i < m := by rw [hmm]; split <;> omega
    obtain ⟨cells, hc, htr⟩ := hi i him
    rw [hC] at hc
    obtain ⟨xs, k, _, _, _, hxl, hfs⟩ := DataW.trod_struct he htr
    obtain ⟨_, hcl, hat⟩ := World.cells?_some hc
    have hjl : j < fs.size := (Array.getElem?_eq_some_iff.1 hj).1
    obtain ⟨hoff, hcell⟩ := hone_of hone j f hj
    have hrd := hfs j f hj
    rw [hoff, hcell] at hrd
    have hlc : j < cells.length := by omega
    have h1 : (cells.drop j).take 1 = [cells[j]] := by
      rw [List.drop_eq_getElem_cons hlc]; rfl
    rw [h1, List.getElem?_eq_getElem (show j < xs.length by omega)] at hrd
    exact ⟨cells[j], _, k, by rw [← add_add, hat j (by omega), List.getElem?_eq_getElem hlc], hrd⟩
end

/-- A number that fits a byte is one. -/
theorem byte_of_wf {n : Int} (h : (Lit.int .u8 n).wf = true) : ∃ c : UInt8, n = (c.toNat : Int) := by
  have hb := bounds_u8 h
  exact ⟨UInt8.ofNat n.toNat, by rw [UInt8.toNat_ofNat_of_lt' (by have : UInt8.size = 256 := rfl; omega)]; omega⟩

theorem bytes_of {w : World} {ad : Addr} {len : Nat} (h : ∀ i, i < len → ∃ n : Int, w.cell? (ad.add i) = some (.int .u8 n) ∧ (Lit.int .u8 n).wf = true) :
    ∃ l : List UInt8, l.length = len ∧ ∀ i c, l[i]? = some c → w.cell? (ad.add i) = some (bv c) := by
  induction len with
  | zero => exact ⟨[], rfl, fun i c hc => by simp at hc⟩
  | succ k ih =>
    obtain ⟨l, hl, hc⟩ := ih (fun i hi => h i (by omega))
    obtain ⟨n, hn, hwf⟩ := h k (by omega)
    obtain ⟨c, rfl⟩ := byte_of_wf hwf
    refine ⟨l ++ [c], by simp [hl], fun i x hx => ?_⟩
    by_cases hi : i < l.length
    · rw [List.getElem?_append_left hi] at hx; exact hc i x hx
    · have hil : i = l.length := by
        have := (List.getElem?_eq_some_iff.1 hx).1
        simp at this; omega
      subst hil
      simp at hx
      subst hx
      rw [hl]; exact hn

/-- Bytes that came in. -/
theorem bytes_read {H : Type} {enc : TypeId × Value → H} {W : World} {b0 fuel : Nat} {spare : Nat → Bool} {held : Bool} {v : Value} {x : DataW H × List MemPlace} (h : DataW.trod enc Try.prog W b0 spare held fuel 22 [v] = some x) :
    ∃ l M, Reads W v l M ∧ l.length ≤ maxLen ∧ (l ≠ [] → M < W.heap.size) := by
  rcases open_ints Try.underlying22 Try.underlying5 (by kernel_rfl) h with ⟨hcs, _⟩ | ⟨a, len, cap, zs, hcs, _, hl, hm, hz, _, hcell, hwz⟩
  · obtain rfl : v = .slice none 0 0 := by simpa using hcs
    exact ⟨[], 0, Reads.nil _ _, by simp, fun h => absurd rfl h⟩
  · obtain rfl : v = .slice (some a) len cap := by simpa using hcs
    have hzl : len ≤ zs.length := by rw [hz]; split <;> omega
    obtain ⟨l, hll, hlc⟩ := bytes_of (w := W) (ad := a) (len := len) (fun i hi => ⟨_, hcell i (by omega), hwz _ (by rw [List.getD_eq_getElem?_getD, List.getElem?_eq_getElem (by omega)]; exact List.getElem_mem _)⟩)
    refine ⟨l, a.block, .inr ⟨a, cap, by rw [hll], by omega, fun _ => rfl, hlc⟩, by omega, fun hne => ?_⟩
    have h0 : 0 < l.length := List.length_pos_iff.2 hne
    have := hlc 0 l[0] (List.getElem?_eq_getElem h0)
    have hb := World.block_lt_of_cell? W _ this
    rwa [Addr.add_block] at hb

theorem Reads.anyBlock {w : World} {v : Value} {M : Nat} (h : Reads w v [] M) (M' : Nat) : Reads w v [] M' := by
  rcases h with h | ⟨ad, cap, hv, hc, _, hr⟩
  · exact .inl h
  · exact .inr ⟨ad, cap, hv, hc, fun h => absurd rfl h, hr⟩

/-- Bytes that lie below a number do not lie in blocks from it on. -/
theorem Reads.away {w : World} {v : Value} {l : List UInt8} {M base : Nat} (h : Reads w v l M) (hM : l ≠ [] → M < base) (S : List Nat) (hS : ∀ x ∈ S, base ≤ x) : ∃ M', Reads w v l M' ∧ M' ∉ S := by
  by_cases hl : l = []
  · subst hl
    refine ⟨S.foldr max 0 + 1, h.anyBlock _, fun hm => ?_⟩
    have : ∀ (L : List Nat) (x : Nat), x ∈ L → x ≤ L.foldr max 0 := by
      intro L
      induction L with
      | nil => simp
      | cons y L ih => intro x hx; simp at hx; rcases hx with rfl | hx; simp; omega; have := ih x hx; simp; omega
    have := this S _ hm
    omega
  · exact ⟨M, h, fun hm => by have := hS M hm; have := hM hl; omega⟩
end Go.Proofs.Ytdcfcljgennipaa
