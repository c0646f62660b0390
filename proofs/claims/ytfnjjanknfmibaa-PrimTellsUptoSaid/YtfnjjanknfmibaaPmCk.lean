/-
  Words that are right in a list: the checker, where it stands, the places of words ahead.
-/
import Derived.Test.YtfnjjanknfmibaaPmPlaces
import Derived.Deep.RegionHeld3
import Derived.Deep.RegionWith
import Derived.Deep.CutRange
import Derived.Deep.Cut
namespace Go.Proofs.Ytfnjjanknfmibaa
open Go.RowKit Go.Deep
set_option linter.unusedVariables false

set_option maxRecDepth 100000 in
theorem before_any (w : World) (n i : Nat) (hn : n < 4294967296) (hi : i ≤ 1000000000) : Calls Try.prog 77 #[.int .u32 (n : Int), .int .i64 (i : Int)] w fun e w' => e = .returned (.bool (decide (n < i))) ∧ w = w' := by
  have e1 : IntKind.u64.wrap (n : Int) = (n : Int) := IntWalk.u64_in _ (by omega)
  have e2 : IntKind.u64.wrap (i : Int) = (i : Int) := IntWalk.u64_in _ (by omega)
  by_cases h : n < i
  · have h' : (n : Int) < (i : Int) := by omega
    rw [show decide (n < i) = true by simpa using h]
    go_enter Try.func77, Try.ntmps77
    go_wp2
    go_ret
    exact ⟨rfl, rfl⟩
  · have h' : ¬ (n : Int) < (i : Int) := by omega
    rw [show decide (n < i) = false by simpa using h]
    go_enter Try.func77, Try.ntmps77
    go_wp2
    go_ret
    exact ⟨rfl, rfl⟩

abbrev ik (n : Nat) : Lit := .int .i64 (n : Int)
set_option maxRecDepth 100000 in
theorem intKeyed : Maps.Keyed Try.prog 3 := Maps.int_keyed Try.underlying3
set_option maxRecDepth 100000 in
theorem intKey {n : Nat} (h : n ≤ 1000000000) : keyOf Try.prog 3 (.int .i64 (n : Int)) = some (ik n) := Maps.keyOf_int_mk Try.underlying3 (WalkArith.wf_i64 (by omega))
set_option maxRecDepth 100000 in
theorem ik_inj {a b : Nat} (h : ik a = ik b) : a = b := by
  injection h with _ h; omega
set_option maxRecDepth 100000 in
theorem zeroPlaces (w : World) : (zeroValue 108).run Try.prog w = .ok (.map none) w := by kernel_rfl

/-- The places of words that were asked for: those that are there are right. -/
def OthersAt (w : World) (mb : Nat) (l : List Wd) (N : Nat) : Prop :=
  ∃ n D, w.ownsMap Try.prog 3 tokV mb n D ∧ n ≤ N ∧ ∀ j : Nat, j ≤ 1000000000 → Maps.has D (ik j) = true → ∃ Bj, D.atKey (ik j) (.held (.map none)) = .held (.map (some Bj)) ∧ mb < Bj ∧ SetAt w Bj (startsD (wordI l j).code)

set_option maxRecDepth 100000 in
theorem OthersAt.keeps {S : List Nat} {w w' : World} {mb N : Nat} {l : List Wd} (h : OthersAt w mb l N) (hk : Keeps S w w') (hm : ∀ x ∈ S, x < mb ∨ w.heap.size ≤ x) : OthersAt w' mb l N := by
  obtain ⟨n, D, ho, hn, hj⟩ := h
  have hlt := ho.lt
  refine ⟨n, D, ownsMap_keepsV ho hk (fun hx => by have := hm mb hx; omega), hn, fun j hj1 hj2 => ?_⟩
  obtain ⟨Bj, h1, h2, h3⟩ := hj j hj1 hj2
  have := h3.lt
  exact ⟨Bj, h1, h2, h3.keeps hk (fun hx => by have := hm Bj hx; omega)⟩
set_option maxRecDepth 100000 in
theorem OthersAt.made (w : World) (l : List Wd) : OthersAt (w.alloc (.map #[] 0)) w.heap.size l 0 := ⟨0, .map [], World.ownsMap_made _ _ _ _, Nat.le_refl _, fun j _ hj => by cases hj⟩
set_option maxRecDepth 100000 in
theorem OthersAt.mono {w : World} {mb N N' : Nat} {l : List Wd} (h : OthersAt w mb l N) (hn : N ≤ N') : OthersAt w mb l N' := by
  obtain ⟨n, D, ho, hn', hj⟩ := h
  exact ⟨n, D, ho, by omega, hj⟩

set_option maxRecDepth 100000 in
theorem tokV_inj {v : Value} {D : DataW Value} {ps : List MemPlace} (h : tokV v = some (D, ps)) : D = .held v := by
  unfold tokV at h; injection h with h; injection h with h1 h2; exact h1.symm

set_option maxRecDepth 100000 in
theorem OthersAt.look {w : World} {mb N : Nat} {l : List Wd} (h : OthersAt w mb l N) {j : Nat} (hj : j ≤ 1000000000) :
    (∃ Bj, (Instr.lookup 65 (.map (some mb)) (.int .i64 (j : Int)) true).run Try.prog w = .ok (.tuple #[.map (some Bj), .bool true]) w ∧ mb < Bj ∧ SetAt w Bj (startsD (wordI l j).code)) ∨
    (Instr.lookup 65 (.map (some mb)) (.int .i64 (j : Int)) true).run Try.prog w = .ok (.tuple #[.map none, .bool false]) w := by
  obtain ⟨n, D, ho, hn, hh⟩ := h
  obtain ⟨v, ps, hrun, hv⟩ := ho.look_ok (t := 65) (e := 108) intKeyed Try.underlying65 (zeroPlaces w) (zd := .held (.map none)) (zp := []) rfl (intKey hj)
  have hv' := tokV_inj hv
  cases hq : Maps.has D (ik j) with
  | true =>
    obtain ⟨Bj, h1, h2, h3⟩ := hh j hj hq
    rw [h1] at hv'
    injection hv' with hv'
    rw [hq, ← hv'] at hrun
    exact .inl ⟨Bj, hrun, h2, h3⟩
  | false =>
    rw [Maps.atKey_of_not_has hq] at hv'
    injection hv' with hv'
    rw [hq, ← hv'] at hrun
    exact .inr hrun

/-- Where a checker stands: the table, the list, the map of places. -/
structure Ck (w : World) (B mb : Nat) (l : List Wd) (v : Value) (N : Nat) : Prop where
  whole : Whole w B 67 (cellsP tabL ++ [v, .map (some mb)])
  words : WordsIn w (fun k => k < mb) v l
  others : OthersAt w mb l N
  above : mb < B

set_option maxRecDepth 100000 in
theorem Ck.tab {w : World} {B mb N : Nat} {l : List Wd} {v : Value} (h : Ck w B mb l v N) : TabAt w B := fun k u hk => by
  have hl := (List.getElem?_eq_some_iff.1 hk).1
  rw [h.whole.cell, List.getElem?_append_left hl, hk]
set_option maxRecDepth 100000 in
theorem Ck.list {w : World} {B mb N : Nat} {l : List Wd} {v : Value} (h : Ck w B mb l v N) : w.cell? ⟨B, 791, none⟩ = some v := by
  rw [h.whole.cell, List.getElem?_append_right (by rw [cellsP_length, tabL_length]; omega), cellsP_length, tabL_length]; rfl
set_option maxRecDepth 100000 in
theorem Ck.map {w : World} {B mb N : Nat} {l : List Wd} {v : Value} (h : Ck w B mb l v N) : w.cell? ⟨B, 792, none⟩ = some (.map (some mb)) := by
  rw [h.whole.cell, List.getElem?_append_right (by rw [cellsP_length, tabL_length]; omega), cellsP_length, tabL_length]; rfl
set_option maxRecDepth 100000 in
theorem Ck.next {w w' : World} {B mb N : Nat} {l : List Wd} {v : Value} (h : Ck w B mb l v N) (hk : Keeps [] w w') : Ck w' B mb l v N :=
  ⟨h.whole.keeps hk (by simp), h.words.next hk, h.others.keeps hk (by simp), h.above⟩
set_option maxRecDepth 100000 in
theorem Ck.turn {w w' : World} {B mb N N' : Nat} {l : List Wd} {v : Value} (h : Ck w B mb l v N) (hk : Keeps [mb] w w') (ho : OthersAt w' mb l N') : Ck w' B mb l v N' :=
  ⟨h.whole.keeps hk (by have := h.above; simp; omega), h.words.keeps hk (fun k hk => by simp; omega), ho, h.above⟩
set_option maxRecDepth 100000 in
theorem Ck.mono {w : World} {B mb N N' : Nat} {l : List Wd} {v : Value} (h : Ck w B mb l v N) (hn : N ≤ N') : Ck w B mb l v N' := ⟨h.whole, h.words, h.others.mono hn, h.above⟩
set_option maxRecDepth 100000 in
theorem Ck.word {w : World} {B mb N : Nat} {l : List Wd} {v : Value} (h : Ck w B mb l v N) {j : Nat} (hj : j < l.length) :
    ∃ Bl o cap, v = .slice (some ⟨Bl, o, none⟩) l.length cap ∧ l.length ≤ cap ∧ l.length ≤ maxLen ∧ Bl < mb ∧ WordAt w (fun k => k < mb) Bl (o + j * 3) (wordI l j) := by
  obtain ⟨Bl, o, cap, hv, hc, hm, hB, _, hx⟩ := h.words.at (by intro e; simp [e] at hj)
  exact ⟨Bl, o, cap, hv, hc, hm, hB, hx j _ (wordI_get hj)⟩

set_option maxRecDepth 100000 in
theorem starts_small {c : List (BitVec 32)} (h : c.length ≤ 2000000) : ∀ k ∈ startsD c, k < 4294967296 := by
  intro k hk
  unfold startsD at hk
  cases hs : startsC c with
  | none => rw [hs] at hk; cases hk
  | some l => rw [hs] at hk; have := (went_lt (starts_went hs) k hk).2; omega
set_option maxRecDepth 100000 in
theorem starts_len {c : List (BitVec 32)} (h : c.length ≤ 2000000) : (startsD c).length ≤ 2000000 := by
  unfold startsD
  cases hs : startsC c with
  | none => simp
  | some l => have := went_length (starts_went hs); simpa using (by omega : l.length ≤ 2000000)
set_option maxRecDepth 100000 in
theorem startsV_ints {w : World} {base : Nat} {c : List (BitVec 32)} {v : Value} {q : Bool} (h : startsV w base c v q) : Ints w base v (startsD c) ∧ q = (startsC c).isSome := by
  rcases h with ⟨h1, rfl, rfl⟩ | ⟨l, h1, h2, rfl⟩
  · unfold startsD; rw [h1]; exact ⟨Ints.nil _ _, rfl⟩
  · unfold startsD; rw [h1]; exact ⟨h2, rfl⟩

/-- What placesIn leaves. -/
def PlacesPost (w : World) (B mb : Nat) (l : List Wd) (v : Value) (N j : Nat) (e : Ending) (w' : World) : Prop :=
  ∃ Bj, e = .returned (.map (some Bj)) ∧ SetAt w' Bj (startsD (wordI l j).code) ∧ mb < Bj ∧ Ck w' B mb l v (N + 1) ∧ Keeps [mb] w w'

set_option maxRecDepth 100000 in
theorem OthersAt.put {w' : World} {mb N n j Bj : Nat} {l : List Wd} {D : DataW Value} (ho : w'.ownsMap Try.prog 3 tokV mb (n + 1) (D.put (ik j) (.held (.map (some Bj))))) (hD : Maps.IsMap D) (hn : n ≤ N) (hj : j ≤ 1000000000) (hB : mb < Bj) (hs : SetAt w' Bj (startsD (wordI l j).code))
    (hh : ∀ j : Nat, j ≤ 1000000000 → Maps.has D (ik j) = true → ∃ Bj, D.atKey (ik j) (.held (.map none)) = .held (.map (some Bj)) ∧ mb < Bj ∧ SetAt w' Bj (startsD (wordI l j).code)) : OthersAt w' mb l (N + 1) := by
  refine ⟨n + 1, _, ho, by omega, fun i hi hq => ?_⟩
  by_cases he : i = j
  · subst he
    exact ⟨Bj, by rw [Maps.atKey_put_same hD (intKeyed.key (intKey hj))], hB, hs⟩
  · have hne : ik i ≠ ik j := fun e => he (ik_inj e)
    rw [Maps.has_put_other hne] at hq
    obtain ⟨Bi, h1, h2, h3⟩ := hh i hi hq
    exact ⟨Bi, by rw [Maps.atKey_put_other hne]; exact h1, h2, h3⟩

set_option maxRecDepth 100000 in
set_option maxHeartbeats 2000000 in
theorem placesIn_any (w : World) (B mb : Nat) (l : List Wd) (v : Value) (N j : Nat) (h : Ck w B mb l v N) (hj : j < l.length) (hl : l.length ≤ 1000000) (hN : N ≤ 2000000000) (hc : (wordI l j).code.length ≤ 1000) :
    Calls Try.prog 78 #[.pointer (some ⟨B, 0, none⟩), .int .i64 (j : Int)] w fun e w' => PlacesPost w B mb l v N j e w' := by
  have hm := h.map
  rcases h.others.look (j := j) (by omega) with ⟨Bj, hrun, hB, hs⟩ | hrun
  · have HS := Lib.hid hs
    have HC := Lib.hid h
    have HB := Lib.hid hB
    clear h hs hB
    go_enter Try.func78, Try.ntmps78
    go_wp2
    go_ret
    exact ⟨_, rfl, HS.out, HB.out, HC.out.mono (by omega), Keeps.refl _ _⟩
  · have HC := Lib.hid h
    have h791 := h.list
    obtain ⟨Bl, o, cap, rfl, hcap, hml, hBl, hw⟩ := h.word hj
    have HW := Lib.hid hw
    obtain ⟨a, cp, M, off, c0, c1, c2, hu, hM, _, _⟩ := hw
    have HT := Lib.hid fun W (hk : Keeps [] w W) => tabStarts_any W B (h.tab.keeps hk (by simp)) _ (wordI l j).code M off (hu.keeps hk (by simp)) (by omega)
    have HP := Lib.hid fun W base v (hi : Ints W base v (startsD (wordI l j).code)) => placesOf_any W base v _ hi (starts_small (by omega)) (starts_len (by omega))
    have hj' : (j : Int) < (l.length : Int) := by omega
    have hoth := h.others
    have hmbw : mb < w.heap.size := by obtain ⟨n, D, ho, _⟩ := hoth; exact ho.lt
    obtain ⟨n, D, ho, hn, hh⟩ := hoth
    have HOW := Lib.hid fun W (hk : Keeps [] w W) => ownsMap_keepsV ho hk (by simp)
    have HKY := Lib.hid (intKey (n := j) (by omega))
    have HNX := Lib.hid (show n < maxLen by unfold maxLen; omega)
    have HPUT := Lib.hid fun (w' : World) Bj (ho' : w'.ownsMap Try.prog 3 tokV mb (n + 1) (D.put (ik j) (.held (.map (some Bj))))) hB hs (hkw : Keeps [mb] w w') => OthersAt.put (l := l) (N := N) ho' ho.isMap hn (by omega) hB hs (fun i hi hq => by
      obtain ⟨Bi, h1, h2, h3⟩ := hh i hi hq
      exact ⟨Bi, h1, h2, h3.keeps hkw (by simp; omega)⟩)
    have HMB := Lib.hid hmbw
    clear h hu hM c0 c1 ho hh hmbw
    go_enter Try.func78, Try.ntmps78
    go_upto_region 3 with fail
    have hf1 : ∀ W, Keeps [] w W → W.cell? ⟨B, 791, none⟩ = some (.slice (some ⟨Bl, o, none⟩) l.length cap) := fun W hk => hk.cell h791 (by simp)
    have hf2 : ∀ W, Keeps [] w W → W.cell? ⟨Bl, o + j * 3 + 2, none⟩ = some (.slice a (wordI l j).code.length cp) := fun W hk => hk.cell c2 (by simp)
    generalize (wordI l j).code.length = cl at *
    go_region_held3 (fun W' => Keeps [] w W') (first | assumption | exact Keeps.refl [] _ | exact Keeps.drew [] _ | exact Keeps.trans (by assumption) (by assumption) | exact (Keeps.drew [] _).trans (by assumption)) (first
            | (go_at_call 39; refine (HT.out _ (by first | assumption | exact Keeps.refl [] _ | exact Keeps.drew [] _)).mono ?_; rintro e wA ⟨vA, qA, rfl, hsA, hkA⟩))
    have hkA' : Keeps [] w wA := by first | exact hkA | exact (Keeps.drew [] _).trans hkA
    have HKA := Lib.hid hkA'
    obtain ⟨hiA, hqA⟩ := startsV_ints hsA
    have HPI := Lib.hid (HP.out wA _ vA hiA)
    have hm2 := Lib.hid fun W (hk : Keeps [] wA W) => (hkA'.trans hk).cell hm (by simp)
    clear hf1 hf2 hsA hkA hkA' hiA hqA hm hrun h791
    go_wp2_with (first
      | (go_at_call 67; refine HPI.out.mono ?_; rintro e wB ⟨rfl, hsB, hkB⟩; have hm3 := hm2.out wB hkB; have HSB := Lib.hid hsB; have HKB := Lib.hid (HKA.out.trans hkB); have HOB := Lib.hid (HOW.out wB (HKA.out.trans hkB)); clear hsB hkB)
      | (at_mapUpdate; refine wpList_mapUpdate_own _ rfl _ _ _ 65 rfl 3 108 intKeyed Try.underlying65 tokV mb n D rfl HOB.out HNX.out _ _ (ik j) rfl rfl HKY.out (.held (.map (some wA.heap.size))) [] rfl ?_; intro wC hoC hgC; have HOC := Lib.hid hoC; have HGC := Lib.hid (grown_keepsV hgC); clear hoC hgC))
    go_ret
    have hsz := HKA.out.size
    have hmb := HMB.out
    have hsC := HSB.out.keeps HGC.out (by simp; omega)
    have hkC : Keeps [mb] w wC := (HKB.out.mono (by simp)).trans HGC.out
    exact ⟨_, rfl, hsC, by omega, HC.out.turn hkC (HPUT.out wC _ HOC.out (by omega) hsC hkC), hkC⟩
end Go.Proofs.Ytfnjjanknfmibaa
