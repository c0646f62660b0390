/-
  CfgQuiet, walked.
-/
import Derived.Test.YtlnmbfddhdjioaaGreatCfgAre
namespace Go.Proofs.YtlnmbfddhdjioaaGreat
open Go.RowKit Go.Deep

theorem Cfg.wear_in {N first n k i t : Nat} {es : List Ent} {s : FS} (h : Cfg N first n k i t es s) (ht : t ≤ 1000000) (q : Nat) : 0 ≤ s.wearOf q ∧ s.wearOf q ≤ 1000000 := by
  by_cases hq : q < s.wear.length
  · rw [wearOf_nat s q hq, List.getD_eq_getElem?_getD, List.getElem?_eq_getElem hq]
    have := h.wears _ (List.getElem_mem hq)
    simp only [Option.getD_some]
    omega
  · unfold FS.wearOf
    rw [if_neg (by omega)]
    omega

theorem All_is {F B W N first n k i t m : Nat} {es : List Ent} {s : FS} (w : World) (hF : FlashE w F B W s) (hc : Cfg N first n k i t es s) (hm : m = es.length) :
    Calls Tryz.prog 13 #[.pointer (some ⟨F, 0, none⟩), .agg #[.int .i64 first, .int .i64 n]] w fun e w' => ∃ ao cp, e = .returned (.tuple #[.slice ao m cp, .int .i64 0]) ∧ EntsAt 0 w' (.slice ao m cp) es ∧ m ≤ cp ∧ Keeps [] w w' := by
  refine (All_ok w hF hc).mono ?_
  rintro e w' ⟨v, rfl, he, k⟩
  obtain ⟨ao, cp, rfl, hcp⟩ := he.shape
  rw [← hm] at hcp he ⊢
  exact ⟨ao, cp, rfl, he.mono (Nat.zero_le _), hcp, k⟩

theorem ringS {w : World} {b : Nat} (h : Whole w b 25 [.int .i64 1, .int .i64 3]) : w.cell? ⟨b, 0, none⟩ = some (.int .i64 1) ∧ w.cell? ⟨b, 1, none⟩ = some (.int .i64 3) := ⟨(h.cell 0).trans rfl, (h.cell 1).trans rfl⟩

theorem Good.weight {es : List Ent} (h : Good es) {e : Ent} (he : e ∈ es) : weightL e.1 e.2 ≠ 0 := by
  rw [weightL_ok (k := e.1) (v := e.2) (h.ok e he)]
  have := wE_pos e
  show wE e ≠ 0
  omega

end Go.Proofs.YtlnmbfddhdjioaaGreat
