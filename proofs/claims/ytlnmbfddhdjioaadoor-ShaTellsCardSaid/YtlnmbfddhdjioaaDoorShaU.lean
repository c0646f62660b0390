/-
  Two sums that are the same, compared.
-/
import Derived.Test.YtlnmbfddhdjioaaDoorShaT
import Derived.Laws.StructEq
namespace Go.Proofs.YtlnmbfddhdjioaaDoor
open Go.RowKit

theorem run_part (w : World) (xs : Array Value) (i : Nat) (z : Int) (h : xs[i]? = some (.int .u8 z)) : (_root_.Go.part 5 xs i).run Tryd.prog w = .ok (.int .u8 z) w := by
  simp [_root_.Go.part, h]

theorem equal_same (w : World) (d : Nat) (xs : Array Value) (h : ∀ i, i < 32 → ∃ z, xs[i]? = some (.int .u8 z)) : (Op.equalIn (d + 1 + 1) 27 (.agg xs) (.agg xs)).run Tryd.prog w = .ok true w := by
  rw [Op.equalIn]
  simp only [Sem.run_bind, run_underlying Tryd.underlying27, Result.andThen_ok, sizeByte]
  rw [Std.Legacy.Range.forIn_eq_forIn_range']
  have key : ∀ (L : List Nat), (∀ i ∈ L, i < 32) → ∀ w : World,
      (forIn (m := Sem) L ((none, ()) : Option Bool × Unit) fun i _ => do
        let a ← _root_.Go.part 5 xs (i * 1)
        let b ← _root_.Go.part 5 xs (i * 1)
        let c ← Op.equalIn (d + 1) 5 a b
        if (!c) = true then pure (ForInStep.done (some false, ())) else pure (ForInStep.yield (none, ()))).run Tryd.prog w = .ok (none, ()) w := by
    intro L
    induction L with
    | nil => intro _ w; rfl
    | cons i L ih =>
      intro hL w
      obtain ⟨z, hz⟩ := h i (hL i (by simp))
      rw [List.forIn_cons]
      simp only [Sem.run_bind, Nat.mul_one, run_part _ _ _ _ hz, Result.andThen_ok, run_equalIn_int _ _ _ _ _ _ _ Tryd.underlying5, beq_self_eq_true, Bool.not_true, Bool.false_eq_true, if_false, Sem.run_pure]
      have := ih (fun j hj => hL j (by simp [hj])) w
      simp only [Nat.mul_one] at this
      exact this
  rw [key _ (by intro i hi; simpa using hi)]
  rfl

theorem guard_none : Tryd.prog.eqGuardType Tryd.prog.depth 27 = false := by kernel_rfl

theorem thirtytwo (l : List UInt8) (hl : l.length = 32) : ∀ i, i < 32 → ∃ z, (l.map bv).toArray[i]? = some (.int .u8 z) := by
  intro i hi
  exact ⟨_, by simp [List.getElem?_eq_getElem (show i < l.length by omega)]; rfl⟩

theorem run_same (w : World) (l : List UInt8) (hl : l.length = 32) : (Op.equalIn 10000 27 (.agg (l.map bv).toArray) (.agg (l.map bv).toArray)).run Tryd.prog w = .ok true w :=
  equal_same w 9998 _ (thirtytwo l hl)

theorem run_neq_same (w : World) (l : List UInt8) (hl : l.length = 32) : (binOp .neq 27 (.agg (l.map bv).toArray) (.agg (l.map bv).toArray)).run Tryd.prog w = .ok (.bool false) w := by
  rw [run_neq_struct, equal_same w 9998 _ (thirtytwo l hl)]
  rfl

theorem run_eql_same (w : World) (l : List UInt8) (hl : l.length = 32) : (binOp .eql 27 (.agg (l.map bv).toArray) (.agg (l.map bv).toArray)).run Tryd.prog w = .ok (.bool true) w := by
  rw [run_eql_struct, equal_same w 9998 _ (thirtytwo l hl)]
  rfl

theorem run_guard (w : World) (op : BinOp) (x y : Operand) (xs ys : Array Value) : (eqGuard op 27 x y (.agg xs) (.agg ys)).run Tryd.prog w = .ok () w := run_eqGuard_agg w op _ x y xs ys guard_none
end Go.Proofs.YtlnmbfddhdjioaaDoor
