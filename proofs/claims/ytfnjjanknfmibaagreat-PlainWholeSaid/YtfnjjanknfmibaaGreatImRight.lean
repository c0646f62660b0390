/-
  Words as bytes: which words are right, and how many bytes they have (the program's and the document's).
-/
import Derived.Test.YtfnjjanknfmibaaGreatImStr
namespace Go.Proofs.YtfnjjanknfmibaaGreat
open Go.RowKit Go.Deep
set_option linter.unusedVariables false

theorem okC_iff (c : UInt8) : okC c = true ↔ 33 ≤ c.toNat ∧ c.toNat ≤ 126 := by
  unfold okC; simp

theorem all_take_succ {a : List UInt8} {k : Nat} {c : UInt8} (h : a[k]? = some c) (p : UInt8 → Bool) : (a.take (k + 1)).all p = ((a.take k).all p && p c) := by
  rw [List.take_add_one, h]; simp

theorem all_bad {a : List UInt8} {k : Nat} {c : UInt8} (h : a[k]? = some c) (p : UInt8 → Bool) (hp : p c = false) : a.all p = false := by
  rw [List.all_eq_false]
  exact ⟨c, List.mem_of_getElem? h, by simp [hp]⟩

/-- A word, as a value. -/
def wvl (x : Wd) (a : Option Addr) (cap : Nat) : Value := .agg #[str x.name, bv x.flags, .slice a x.code.length cap]

end Go.Proofs.YtfnjjanknfmibaaGreat
