/-
  Keys and values: what the statements ask of a flash and of lists of entries.
-/
import Derived.Test.YtlnmbfddhdjioaaGreatCfgOps
namespace Go.Proofs.YtlnmbfddhdjioaaGreat
open Go.RowKit Go.Deep

theorem quiet_same6 {P : Program} {f : FuncId} {args : Array Value} {w : World} {n : Nat} {v : Value} (h : Calls P f args (w.drewN n) fun e w' => e = .returned v ∧ w.drewN n = w') :
    Calls P f args (w.drewN n) fun e w'' => e = .returned v ∧ ∃ m, w'' = w.drewN m :=
  h.mono fun _ _ ⟨h1, h2⟩ => ⟨h1, n, h2.symm⟩

def sumW (s : FS) (first : Nat) : Nat → Int
  | 0 => 0
  | j + 1 => sumW s first j + s.wearOf ((first + j : Nat) : Int)

theorem sumW_bound (s : FS) (first : Nat) (hb : ∀ k : Nat, 0 ≤ s.wearOf k ∧ s.wearOf k ≤ 1000000) : ∀ j, 0 ≤ sumW s first j ∧ sumW s first j ≤ j * 1000000
  | 0 => by simp [sumW]
  | j + 1 => by have := sumW_bound s first hb j; have := hb (first + j); unfold sumW; omega

theorem getK_cons {α : Type} (k : List UInt8) (e : List UInt8 × α) (r : List (List UInt8 × α)) : getK k (e :: r) = if e.1 = k then some e.2 else getK k r := by
  unfold getK
  by_cases h : e.1 = k <;> simp [h]

theorem getK_drop {es : List Ent} {i : Nat} {e : Ent} (k : List UInt8) (he : es[i]? = some e) : getK k (es.drop i) = if e.1 = k then some e.2 else getK k (es.drop (i + 1)) := by
  rw [List.drop_eq_getElem?_toList_append, he]
  exact getK_cons k e _

end Go.Proofs.YtlnmbfddhdjioaaGreat
