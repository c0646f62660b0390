/-
  PrimWords: a list that is right is so up to any of its words; a word more is right just if it is by itself behind these; a list that is not is told at the first word that is not. For every input the law returns true, and each argument reads as it read before. No condition.
-/
import Derived.Test.YtcljddfmelnniaaRows
import Derived.WalkKit
import Derived.ProofKit
import Derived.OpenShut
import Derived.ShutString
import Derived.ChangeOld
import Derived.Below
import Derived.Test.YtcljddfmelnniaaPmWordsA
import Derived.Lib.SmallJoins
import Derived.ChangeMaps5
namespace Go.Proofs.Ytcljddfmelnniaa
open Go.RowKit Go.ChangeShapes Go.WideShapes Go.Joins in
theorem word10_read {H : Type} {enc : TypeId × Value → H} {W : World} {b0 base : Nat} {spare : Nat → Bool} {held : Bool} {r : Reach} {v : Value} {d : DataW H} {p : List MemPlace} (hv : Value.okWide Try.prog W r b0 43 v) (h : DataW.Trod enc Try.prog W base spare held 43 v d p) :
    ∃ (x : Wd) (a : Option Addr) (n c : Nat), v = .agg #[str x.name, bv x.flags, .slice a n c] ∧ Stands W (fun _ => True) (x, .slice a n c) := by
  obtain ⟨c0, c1, c2, y0, y1, y2, m, rfl, _, _, h0, h1, h2⟩ := open_agg3 Try.underlying43 (by kernel_rfl) (by kernel_rfl) hv h
  obtain ⟨s, hs, _, ws⟩ := DataW.trod_string Try.underlying9 h0
  obtain ⟨d, hd, _, wd⟩ := DataW.trod_int Try.underlying5 h1
  simp at hs hd
  subst hs hd
  obtain ⟨c, rfl⟩ := byte_of_wf wd
  obtain ⟨code, M, off, hr, hlen⟩ := words_read h2
  obtain ⟨ao, cp, rfl, _⟩ := hr.shape
  exact ⟨⟨s.data.toList, c, code⟩, ao, code.length, cp, by rw [str_back]; rfl, ao, cp, M, off, rfl, hr, fun _ => trivial, ws, hlen⟩

theorem PrimWords_u8 (w : World) (ao : Option Addr) (n c : Nat) (l : List Wd) (hl : WordsIn w (fun k => k < w.heap.size) (.slice ao n c) l) (hz : ao = none → c = 0)
    (x : Wd) (a3 : Option Addr) (n3 c3 : Nat) (hx : Stands w (fun _ => True) (x, .slice a3 n3 c3)) (cut : Int) (hcut : (Lit.int .u8 cut).wf = true) :
    Calls Try.prog 6 #[.slice ao n c, .agg #[str x.name, bv x.flags, .slice a3 n3 c3], .int .u8 cut] w fun e w' => e = .returned (.bool true) ∧ Keeps [] w w' := by
  obtain ⟨b, rfl⟩ := byte_of_wf hcut
  exact PrimWords_any w ao n c l hl hz x a3 n3 c3 hx b.toNat b.toNat_lt

end Go.Proofs.Ytcljddfmelnniaa
namespace Go.Proofs.Ytcljddfmelnniaa.primWords
open Go.ChangeShapes Go.WideShapes Go.ChangeAt Go.RowKit
set_option linter.unusedVariables false

theorem own : ownKnob Try.prog.godebug = none := by kernel_rfl
theorem laidOut : laidOutB Try.prog = true := by kernel_rfl

set_option maxRecDepth 100000 in
theorem lifted (os : Os) (started : os.Started) (H : Type) (enc : TypeId × Value → H) :
    ReturnsInHanded {} Try.checked os 6 .any (Rows.primWordsSpec.pre6 enc Try.prog Try.f6 Rows.primWordsRow.domain false) (Rows.primWordsSpec.post enc Try.prog Try.f6 false true false false) := by
  refine returnsInHanded_of_change (C := Try.checked) own started (by kernel_rfl) Try.func6
    (ChangeSpec.witness6 (enc := enc) (C := Try.checked) false ⟨#[], #[.slice none 0 0, .agg #[.string ⟨#[]⟩, .int .u8 0, .slice none 0 0], .int .u8 0], []⟩ 8 (by kernel_rfl) (by kernel_rfl) (by kernel_rfl) (by kernel_rfl)) ?_
  intro W base args ds gs before hval0 hW hcnd _
  have hval : ∀ (j : Nat) t v, Try.f6.params[j]? = some t → args[j]? = some v → Value.okWide Try.prog W .any base t v := hval0
  have hW' := hW
  obtain ⟨p, q, hA0, hV, rfl, hfz, hnd⟩ := hW
  have hA : DataW.TrodAll enc Try.prog W 0 (fun _ => true) true Try.f6.params.toList args.toList ds p := hA0
  rw [Try.params6] at hA hval
  obtain ⟨v0, vs0, d0, ds0, p0, q0, hargs, rfl, rfl, h0, r0⟩ := trodAll_cons hA
  obtain ⟨v1, vs1, d1, ds1, p1, q1, rfl, rfl, rfl, h1, r1⟩ := trodAll_cons r0
  obtain ⟨v2, vs2, d2, ds2, p2, q2, rfl, rfl, rfl, h2, r2⟩ := trodAll_cons r1
  obtain ⟨rfl, rfl, rfl⟩ := trodAll_nil r2
  obtain rfl : args = #[v0, v1, v2] := by cases args; simp_all
  obtain ⟨rfl, rfl⟩ := trodVars_none hV
  obtain ⟨a0, len0, cap0, rfl⟩ := okWide_slice Try.underlying24 (hval 0 24 v0 rfl rfl)
  have k0 := h0
  have lt0 : ∀ x ∈ p0, x.block < W.heap.size := by obtain ⟨m, hm⟩ := k0; exact DataW.trod_lt m _ _ _ hm
  obtain ⟨fuel0, hf0⟩ := h0
  have y0 := words11_nil (show DataW.trod enc Try.prog W 0 (fun _ => true) true fuel0 24 [.slice a0 len0 cap0] = some _ from hf0)
  obtain ⟨z0, w0⟩ := words10_read (show DataW.trod enc Try.prog W 0 (fun _ => true) true fuel0 24 [.slice a0 len0 cap0] = some _ from hf0)
  have k1 := h1
  have lt1 : ∀ x ∈ p1, x.block < W.heap.size := by obtain ⟨m, hm⟩ := k1; exact DataW.trod_lt m _ _ _ hm
  obtain ⟨x1, a1, n1, c1, ev1, w1⟩ := word10_read (hval 1 43 v1 rfl rfl) h1
  subst ev1
  obtain ⟨a2, rfl, rfl, rfl, w2⟩ := open_int Try.underlying5 (hval 2 5 v2 rfl rfl) h2
  clear hA0 hval0
  refine (PrimWords_u8 W _ _ _ z0 w0 y0 x1 a1 n1 c1 w1 a2 w2).mono fun e W' ⟨he, hkp⟩ => ?_
  have bel := hkp.below
  subst he
  exact ⟨_, rfl, _, _, _, [], _, [], hW', trodAll_mk1 (shut_bool Try.underlying4 _), (trodAll_cons_mk (Below.trod laidOut (by kernel_rfl) (of_decide_eq_true (by kernel_rfl)) k0 bel lt0) (trodAll_cons_mk (Below.trod laidOut (by kernel_rfl) (of_decide_eq_true (by kernel_rfl)) k1 bel lt1) (trodAll_cons_mk (shut_int Try.underlying5 w2) trodAll_mk0))), rfl, bel.frame _, fun h => by cases h⟩

theorem over : Rows.primWordsRow.holds Try.pinned (OpenSpec.ofChange Rows.primWordsSpec) :=
  OpenClaim.holds_of_wide 6 Try.f6 rfl rfl rfl rfl rfl rfl rfl ⟨rfl, rfl, rfl, rfl, rfl⟩ rfl rfl rfl rfl rfl (by kernel_rfl) Try.func6 (by kernel_rfl)
    (of_decide_eq_true (by kernel_rfl)) (by unfold Func.isWrapper; first | (rw [if_pos (by decide +kernel)]; kernel_rfl) | (rw [if_neg (by decide +kernel)]; exact ⟨rfl, rfl⟩))
    (fun os started H enc _ => lifted os started H enc)

theorem proved : Rows.PrimWordsSaid := over
#print axioms proved
end Go.Proofs.Ytcljddfmelnniaa.primWords
