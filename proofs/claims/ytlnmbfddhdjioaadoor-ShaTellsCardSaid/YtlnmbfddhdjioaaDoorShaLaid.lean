/-
  What the listed package variables give a walk: the two tables of roots, cell by cell; and a first world that has them.
-/
import Derived.Test.YtlnmbfddhdjioaaDoorShaG
import Derived.ProofKit
import Derived.LaidMore
import Derived.OpenShut
import Derived.Stop.Joined
namespace Go.Proofs.YtlnmbfddhdjioaaDoor
open Go.ChangeShapes Go.WideShapes Go.ChangeAt Go.WideElems Go.RowKit

theorem gSq : Tryd.prog.globalNamed "lightship/sha.squareRoots" = some 0 := by kernel_rfl
theorem gCu : Tryd.prog.globalNamed "lightship/sha.cubeRoots" = some 1 := by kernel_rfl
theorem tSq : (Tryd.prog.globals[0]?).map (·.type) = some 45 := by kernel_rfl
theorem tCu : (Tryd.prog.globals[1]?).map (·.type) = some 72 := by kernel_rfl

/-- The list that the rows name. -/
abbrev laid2 {H : Type} : List (String × DataW H) := [("lightship/sha.squareRoots", Rows.laid_lightship_sha_squareRoots), ("lightship/sha.cubeRoots", Rows.laid_lightship_sha_cubeRoots)]

theorem door_met (os : Os) (args : Array Value) : laidMetH Tryd.prog laid2 ((World.doorLaid Tryd.prog 400 os).forCall (fun _ _ => 0) ⟨#[], args, []⟩).memory :=
  laidMetH_of_parts3 (fuel := 8) (laidMet_of_run' 8 (by kernel_rfl) (by kernel_rfl)) (by kernel_rfl) (by kernel_rfl)

theorem cells32 : Tryd.prog.cellsOf 38 = 1 := by kernel_rfl

theorem rows_of {H : Type} {enc : TypeId × Value → H} {W : World} {g n fuel : Nat} {t : TypeId} {cs : Array Value} {f : Nat → BitVec 32} {x : List MemPlace} {sp : Nat → Bool} {held : Bool} {D : DataW H} (ht : Tryd.prog.underlying t = some (.array n 38))
    (hD : D = .agg ((List.range n).map fun i => .lit (.int .u32 ((f i).toNat : Int))))
    (hd : DataW.trod enc Tryd.prog W 0 sp held fuel t cs.toList = some (D, x)) (hcell : ∀ i, W.cell? ⟨g, i, none⟩ = cs[i]?) : W.rangeAt g 0 (tab n f) := by
  obtain ⟨xs, m1, hm, hx1, hlen, hn3, hel⟩ := DataW.trod_array ht hd
  intro j v hv
  have hj : j < n := by have := (List.getElem?_eq_some_iff.1 hv).1; simpa [tab_length] using this
  rw [tab_get n f j hj] at hv
  cases hv
  have h0 := hel j hj
  rw [cells32] at h0
  rw [Nat.zero_add, hcell]
  simp only [Prod.mk.injEq] at hx1
  have hxj : xs[j]? = some (xs[j]'(by omega)) := List.getElem?_eq_getElem (by omega)
  rw [hxj] at h0
  obtain ⟨k, e1, e2, _⟩ := DataW.trod_int Tryd.underlying38 h0
  have hk : DataW.lit (H := H) (.int .u32 k) = .lit (.int .u32 ((f j).toNat : Int)) := by
    have h1 := hx1.1
    rw [hD] at h1
    simp only [DataW.agg.injEq] at h1
    have h2 := congrArg (fun l => l[j]?) h1
    simp only [List.getElem?_map, List.getElem?_range hj, hxj, Option.map_some, Option.some.injEq] at h2
    rw [h2, e2]
  simp only [DataW.lit.injEq, Lit.int.injEq, true_and] at hk
  subst hk
  have h3 : cs.toList[j]? = some (.int .u32 ((f j).toNat : Int)) := by
    have h4 := congrArg (fun l => l[0]?) e1
    simpa using h4
  simpa using h3

theorem of_laid {W : World} (h : laidMetH Tryd.prog laid2 W) : Roots W := by
  rw [MakeChecks.laidMetH_plain _ _ _ (by kernel_rfl)] at h
  obtain ⟨ps, ⟨g0, t0, cs0, f0, p0, q0, hg0, ht0, hv0, hd0, ⟨g1, t1, cs1, f1, p1, q1, hg1, ht1, hv1, hd1, _, _⟩, _⟩, _, _⟩ := h
  obtain rfl := Option.some.inj (gSq.symm.trans hg0)
  obtain rfl := Option.some.inj (gCu.symm.trans hg1)
  obtain rfl := Option.some.inj (tSq.symm.trans ht0)
  obtain rfl := Option.some.inj (tCu.symm.trans ht1)
  exact ⟨rows_of Tryd.underlying45 (f := h0.get) (by rfl) hd0 (World.var?_cell hg0 hv0), rows_of Tryd.underlying72 (f := kk) (by rfl) hd1 (World.var?_cell hg1 hv1)⟩
end Go.Proofs.YtlnmbfddhdjioaaDoor
