/-
  The document's sum: a round, as the walk reckons it.
-/
import Derived.Test.YtlnmbfddhdjioaaDoorShaLongG
namespace Go.Proofs.YtlnmbfddhdjioaaDoor
open Go.RowKit

/-- A callee that changes nothing, in a quiet region. -/
theorem quiet_same0 {P : Program} {f : FuncId} {args : Array Value} {w : World} {n : Nat} {v : Value} (h : Calls P f args (w.drewN n) fun e w' => e = .returned v ∧ w.drewN n = w') :
    Calls P f args (w.drewN n) fun e w'' => e = .returned v ∧ ∃ m, w'' = w.drewN m :=
  h.mono fun _ _ ⟨h1, h2⟩ => ⟨h1, n, h2.symm⟩

theorem rnd_get (s : W8) (k w : BitVec 32) : tab 8 (rnd s k w).get = [uv (rt s k w + ru s), uv (s.get 0), uv (s.get 1), uv (s.get 2), uv (s.get 3 + rt s k w), uv (s.get 4), uv (s.get 5), uv (s.get 6)] := rfl

/-- What stands for 'one' in a round, in the order of the document's sum. -/
theorem rt_sum (s : W8) (k w : BitVec 32) : s.get 7 + bs1 (s.get 4) + chs (s.get 4) (s.get 5) (s.get 6) + k + w = rt s k w := by
  show _ = s.get 7 + (bs1 (s.get 4) + chs (s.get 4) (s.get 5) (s.get 6)) + k + w
  rw [BitVec.add_assoc (s.get 7)]

theorem ru_sum (s : W8) : bs0 (s.get 0) + maj (s.get 0) (s.get 1) (s.get 2) = ru s := rfl

/-- The words that a block adds, one by one. -/
theorem add_tab (s v : W8) (i : Nat) (hi : i < 8) : (tab 8 fun j => if j < i then s.get j + v.get j else s.get j).set i (uv (s.get i + v.get i)) = tab 8 fun j => if j < i + 1 then s.get j + v.get j else s.get j := by
  apply tab_set
  intro j _
  by_cases h : j = i
  · subst h; simp
  · rw [if_neg h]
    by_cases h2 : j < i
    · rw [if_pos h2, if_pos (by omega)]
    · rw [if_neg h2, if_neg (by omega)]

theorem add_tab_end (s v : W8) : (tab 8 fun j => if j < 8 then s.get j + v.get j else s.get j) = tab 8 (s.add v).get :=
  tab_congr fun i hi => by rw [if_pos hi, W8.add_get]
theorem add_tab_start (s v : W8) : (tab 8 fun j => if j < 0 then s.get j + v.get j else s.get j) = tab 8 s.get :=
  tab_congr fun i _ => by rw [if_neg (by omega)]

/-- The first k roots. -/
theorem root2_nv (k : Nat) (hk : k < 8) : nv (rootK 2 (PL.getD k 0) 41 % 4294967296) = uv (h0.get k) := by rw [roots2 k hk]
theorem root3_nv (k : Nat) (hk : k < 64) : nv (rootK 3 (PL.getD k 0) 41 % 4294967296) = uv (kk k) := by rw [roots3 k hk]
theorem PL_get (k : Nat) (hk : k < 64) : (PL.map nv)[k]? = some (nv (PL.getD k 0)) ∧ PL.getD k 0 < 65536 := by
  have hl : k < PL.length := by rw [PL_length]; exact hk
  rw [List.getElem?_map, List.getD_eq_getElem?_getD, List.getElem?_eq_getElem hl]
  exact ⟨rfl, (PL_pos _ (List.getElem_mem _)).2⟩

theorem seg_cells {w : World} {b c : Nat} {l : List UInt8} (h : Row w b 5 (l.map bv) c) (q : Nat) (i : Nat) (x : UInt8) (hx : (blockAt l q)[i]? = some x) : w.cell? ⟨b, 64 * q + i, none⟩ = some (bv x) := by
  unfold blockAt at hx
  rw [List.getElem?_take, List.getElem?_drop] at hx
  split at hx
  · exact h.cell _ (by rw [List.getElem?_map, hx]; rfl)
  · cases hx

theorem blockAt_length (l : List UInt8) (q : Nat) (hq : 64 * q + 64 ≤ l.length) : (blockAt l q).length = 64 := by
  unfold blockAt; simp; omega
end Go.Proofs.YtlnmbfddhdjioaaDoor
