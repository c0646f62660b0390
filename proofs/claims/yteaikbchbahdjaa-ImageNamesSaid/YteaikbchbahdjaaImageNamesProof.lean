/-
  ImageNames: names that are alike are so the other way about, and of three; a name is found as large letters and as small ones; the last one is. For every input the law returns true, and each argument reads as it read before. No condition.
-/
import Derived.Test.YteaikbchbahdjaaRows
import Derived.WalkKit
import Derived.ProofKit
import Derived.OpenShut
import Derived.ShutString
import Derived.ChangeOld
import Derived.Below
import Derived.SizedLaws
import Derived.Test.YteaikbchbahdjaaImNamesA
import Derived.ChangeMaps5
namespace Go.Proofs.Yteaikbchbahdjaa
theorem ImageNames_str (w : World) (P : Nat → Prop) (v : Value) (l : List Wd) (h : WordsIn w P v l) (s t : ByteArray) (hs : s.data.toList.length ≤ 140737488351232) (ht : t.data.toList.length ≤ maxLen) :
    Calls Try.prog 6 #[v, .string s, .string t] w fun e w' => e = .returned (.bool true) ∧ Keeps [] w w' := by
  have hz := ImageNames_any w P v l h s.data.toList t.data.toList hs ht
  rw [str_back, str_back] at hz
  exact hz

end Go.Proofs.Yteaikbchbahdjaa
namespace Go.Proofs.Yteaikbchbahdjaa.imageNames
open Go.ChangeShapes Go.WideShapes Go.ChangeAt Go.RowKit
set_option linter.unusedVariables false

theorem own : ownKnob Try.prog.godebug = none := by kernel_rfl
theorem laidOut : laidOutB Try.prog = true := by kernel_rfl

set_option maxRecDepth 100000 in
theorem lifted (os : Os) (started : os.Started) (H : Type) (enc : TypeId × Value → H) :
    ReturnsInHanded {} Try.checked os 6 .any (Rows.imageNamesSpec.pre6 enc Try.prog Try.f6 Rows.imageNamesRow.domain false) (Rows.imageNamesSpec.post enc Try.prog Try.f6 false true false false) := by
  refine returnsInHanded_of_change_sized (C := Try.checked) own started (by kernel_rfl) Try.func6
    (ChangeSpec.witness6 (enc := enc) (C := Try.checked) false ⟨#[], #[.slice none 0 0, .string ⟨#[]⟩, .string ⟨#[]⟩], []⟩ 8 (by kernel_rfl) (by kernel_rfl) (by kernel_rfl) (by kernel_rfl)) ?_
  intro W base args ds gs before hval0 hW hcnd hsz _
  have hval : ∀ (j : Nat) t v, Try.f6.params[j]? = some t → args[j]? = some v → Value.okWide Try.prog W .any base t v := hval0
  have hW' := hW
  obtain ⟨p, q, hA0, hV, rfl, hfz, hnd⟩ := hW
  have hA : DataW.TrodAll enc Try.prog W 0 (fun _ => true) true Try.f6.params.toList args.toList ds p := hA0
  rw [Try.params6] at hA hval
  obtain ⟨v0, vs0, d0, ds0, p0, q0, hargs, rfl, rfl, h0, r0⟩ := trodAll_cons hA
  obtain ⟨v1, vs1, d1, ds1, p1, q1, rfl, rfl, rfl, h1, r1⟩ := trodAll_cons r0
  obtain ⟨v2, vs2, d2, ds2, p2, q2, rfl, rfl, rfl, h2, r2⟩ := trodAll_cons r1
  obtain ⟨rfl, rfl, rfl⟩ := trodAll_nil r2
  obtain rfl : args = #[v0, v1, v2] := by cases args; simp_all
  obtain ⟨rfl, rfl⟩ := trodVars_none hV
  obtain ⟨a0, len0, cap0, rfl⟩ := okWide_slice Try.underlying22 (hval 0 22 v0 rfl rfl)
  have k0 := h0
  have lt0 : ∀ x ∈ p0, x.block < W.heap.size := by obtain ⟨m, hm⟩ := k0; exact DataW.trod_lt m _ _ _ hm
  obtain ⟨fuel0, hf0⟩ := h0
  obtain ⟨z0, w0⟩ := words10_read (show DataW.trod enc Try.prog W 0 (fun _ => true) true fuel0 22 [.slice a0 len0 cap0] = some _ from hf0)
  obtain ⟨s1, rfl, rfl, rfl, ls1⟩ := Go.ChangeMaps.open_string Try.underlying9 (hval 1 9 v1 rfl rfl) h1
  have lz1 : s1.data.toList.length ≤ 140737488351232 := by
    have := List.all_eq_true.1 hsz s1.data.toList.length (DataW.weights_mem_each (j := 1) (t := 9) (d := .lit (.string s1.data.toList)) (by kernel_rfl) rfl _ (by simp [DataW.weights]))
    exact of_decide_eq_true this
  obtain ⟨s2, rfl, rfl, rfl, ls2⟩ := Go.ChangeMaps.open_string Try.underlying9 (hval 2 9 v2 rfl rfl) h2
  have lz2 : s2.data.toList.length ≤ 140737488351232 := by
    have := List.all_eq_true.1 hsz s2.data.toList.length (DataW.weights_mem_each (j := 2) (t := 9) (d := .lit (.string s2.data.toList)) (by kernel_rfl) rfl _ (by simp [DataW.weights]))
    exact of_decide_eq_true this
  clear hA0 hval0
  refine (ImageNames_str W _ _ z0 w0 s1 s2 lz1 ls2).mono fun e W' ⟨he, hkp⟩ => ?_
  have bel := hkp.below
  subst he
  exact ⟨_, rfl, _, _, _, [], _, [], hW', trodAll_mk1 (shut_bool Try.underlying4 _), (trodAll_cons_mk (Below.trod laidOut (by kernel_rfl) (of_decide_eq_true (by kernel_rfl)) k0 bel lt0) (trodAll_cons_mk (Go.ChangeMaps.shut_string Try.underlying9 ls1) (trodAll_cons_mk (Go.ChangeMaps.shut_string Try.underlying9 ls2) trodAll_mk0))), rfl, bel.frame _, fun h => by cases h⟩

theorem over : Rows.imageNamesRow.holds Try.pinned (OpenSpec.ofChange Rows.imageNamesSpec) :=
  OpenClaim.holds_of_wide 6 Try.f6 rfl rfl rfl rfl rfl rfl rfl ⟨rfl, rfl, rfl, rfl, rfl⟩ rfl rfl rfl rfl rfl (by kernel_rfl) Try.func6 (by kernel_rfl)
    (of_decide_eq_true (by kernel_rfl)) (by unfold Func.isWrapper; first | (rw [if_pos (by decide +kernel)]; kernel_rfl) | (rw [if_neg (by decide +kernel)]; exact ⟨rfl, rfl⟩))
    (fun os started H enc _ => lifted os started H enc)

theorem proved : Rows.ImageNamesSaid := over
#print axioms proved
end Go.Proofs.Yteaikbchbahdjaa.imageNames
