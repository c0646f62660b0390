/-
  Places: maps of starts.
-/
import Derived.Test.YtfnjjanknfmibaaPmStarts
import Derived.Maps.Own
import Derived.Maps.OwnOps
import Derived.Maps.OwnSet
import Derived.Maps.Views
namespace Go.Proofs.Ytfnjjanknfmibaa
open Go.RowKit Go.Deep
set_option linter.unusedVariables false

abbrev uk (n : Nat) : Lit := .int .u32 (n : Int)
set_option maxRecDepth 100000 in
theorem uk_wf {n : Nat} (h : n < 4294967296) : (Lit.int .u32 (n : Int)).wf = true := WalkArith.wf_u32 (by omega)
set_option maxRecDepth 100000 in
theorem u32Keyed : Maps.Keyed Try.prog 22 := Maps.int_keyed Try.underlying22
set_option maxRecDepth 100000 in
theorem u32Key {n : Nat} (h : n < 4294967296) : keyOf Try.prog 22 (.int .u32 (n : Int)) = some (uk n) := Maps.keyOf_int_mk Try.underlying22 (uk_wf h)
set_option maxRecDepth 100000 in
theorem uk_inj {a b : Nat} (h : uk a = uk b) : a = b := by
  injection h with _ h; omega
set_option maxRecDepth 100000 in
theorem zeroInt (w : World) : (zeroValue 3).run Try.prog w = .ok (.int .i64 0) w := by kernel_rfl

/-- An element is told by its value alone. -/
def tokV (v : Value) : Option (DataW Value × List MemPlace) := some (.held v, [])

set_option maxRecDepth 100000 in
theorem ownsMap_keepsV {k : TypeId} {S : List Nat} {w w' : World} {B n : Nat} {D : DataW Value} (h : w.ownsMap Try.prog k tokV B n D) (hk : Keeps S w w') (hB : B ∉ S) : w'.ownsMap Try.prog k tokV B n D := by
  have hlt := h.lt
  obtain ⟨es, clock, hb, r⟩ := h
  exact ⟨es, clock, (hk.block B hlt hB).trans hb, r⟩
set_option maxRecDepth 100000 in
theorem grown_keepsV {w w' : World} {b : Nat} (h : w.grownBy w' (some b)) : Keeps [b] w w' := Keeps.grown h fun k hk => by cases hk; simp

/-- Block B is a map whose keys are ks. -/
def SetAt (w : World) (B : Nat) (ks : List Nat) : Prop := ∃ n D, w.ownsMap Try.prog 22 tokV B n D ∧ n ≤ ks.length ∧ ∀ x, x < 4294967296 → Maps.has D (uk x) = ks.contains x

set_option maxRecDepth 100000 in
theorem SetAt.keeps {S : List Nat} {w w' : World} {B : Nat} {ks : List Nat} (h : SetAt w B ks) (hk : Keeps S w w') (hB : B ∉ S) : SetAt w' B ks := by
  obtain ⟨n, D, ho, hn, hx⟩ := h
  exact ⟨n, D, ownsMap_keepsV ho hk hB, hn, hx⟩
set_option maxRecDepth 100000 in
theorem SetAt.lt {w : World} {B : Nat} {ks : List Nat} (h : SetAt w B ks) : B < w.heap.size := by
  obtain ⟨n, D, ho, _⟩ := h; exact ho.lt
set_option maxRecDepth 100000 in
theorem SetAt.made (w : World) : SetAt (w.alloc (.map #[] 0)) w.heap.size [] := ⟨0, .map [], World.ownsMap_made _ _ _ _, Nat.le_refl _, fun x hx => rfl⟩

set_option maxRecDepth 100000 in
theorem SetAt.put {w' : World} {B n k : Nat} {D : DataW Value} {ks : List Nat} {d : DataW Value} (h : w'.ownsMap Try.prog 22 tokV B (n + 1) (D.put (uk k) d)) (hD : Maps.IsMap D) (hn : n ≤ ks.length) (hk : k < 4294967296) (hx : ∀ x, x < 4294967296 → Maps.has D (uk x) = ks.contains x) : SetAt w' B (ks ++ [k]) := by
  refine ⟨n + 1, _, h, by simp; omega, fun x hxl => ?_⟩
  by_cases he : x = k
  · subst he
    rw [Maps.has_put_same hD (u32Keyed.key (u32Key hk))]
    simp
  · rw [Maps.has_put_other (fun e => he (uk_inj e)), hx x hxl]
    simp [he]

set_option maxRecDepth 100000 in
theorem SetAt.look {w : World} {B : Nat} {ks : List Nat} (h : SetAt w B ks) {x : Nat} (hx : x < 4294967296) : ∃ v, (Instr.lookup 108 (.map (some B)) (.int .u32 (x : Int)) true).run Try.prog w = .ok (.tuple #[v, .bool (ks.contains x)]) w := by
  obtain ⟨n, D, ho, _, hh⟩ := h
  obtain ⟨v, _, hrun, _⟩ := ho.look_ok (t := 108) (e := 3) u32Keyed Try.underlying108 (zeroInt w) (zd := .held (.int .i64 0)) (zp := []) rfl (u32Key hx)
  rw [hh x hx] at hrun
  exact ⟨v, hrun⟩

set_option maxRecDepth 100000 in
theorem has_any (w : World) (B : Nat) (ks : List Nat) (x : Nat) (h : SetAt w B ks) (hx : x < 4294967296) : Calls Try.prog 79 #[.map (some B), .int .u32 (x : Int)] w fun e w' => e = .returned (.bool (ks.contains x)) ∧ w = w' := by
  obtain ⟨v, hrun⟩ := h.look hx
  clear h hx
  generalize ks.contains x = q at *
  go_enter Try.func79, Try.ntmps79
  go_wp2
  go_ret
  exact ⟨rfl, rfl⟩

set_option maxRecDepth 100000 in
theorem run_makePlaces (n : Nat) (w : World) (hn : n ≤ 2000000) : (Instr.makeMap 108 (some (.int .i64 (n : Int)))).run Try.prog w = .ok (.map (some w.heap.size)) (w.alloc (.map #[] 0)) := by
  rfl

set_option maxRecDepth 100000 in
set_option maxHeartbeats 2000000 in
theorem placesOf_any (w : World) (base : Nat) (v : Value) (l : List Nat) (h : Ints w base v l) (hl : ∀ k ∈ l, k < 4294967296) (hn : l.length ≤ 2000000) :
    Calls Try.prog 67 #[v] w fun e w' => e = .returned (.map (some w.heap.size)) ∧ SetAt w' w.heap.size l ∧ Keeps [] w w' := by
  obtain ⟨a, cap, rfl, hcap, hc⟩ := h.shape
  obtain ⟨n, hnl⟩ : ∃ n, n = l.length := ⟨_, rfl⟩
  have HL := Lib.hid hl
  have HN := Lib.hid hnl
  have HC := Lib.hid hc
  rw [← hnl] at hn hcap ⊢
  have hmm := fun w => run_makePlaces n w hn
  clear h hl hnl hc
  go_enter Try.func67, Try.ntmps67
  go_wp2
  go_loopw [11] (fun i wr => ∃ k : Nat, k ≤ n ∧ i = .int .i64 (k : Int) ∧ SetAt wr w.heap.size (l.take k) ∧ Keeps [] w wr) (fun i _ => n - (intOf i).toNat)
  case atStart => exact ⟨0, by omega, rfl, SetAt.made w, Keeps.alloc [] w _⟩
  case round =>
    obtain ⟨k, hk, rfl, hs, hkr⟩ := hrel
    have HS := Lib.hid hs
    have HK := Lib.hid hkr
    by_cases hlt : k < n
    · have hlt' : (k : Int) < (n : Int) := by omega
      obtain ⟨x, hx⟩ : ∃ x, l[k]? = some x := ⟨_, List.getElem?_eq_getElem (by rw [← HN.out]; exact hlt)⟩
      obtain ⟨M, rfl, _, hMw, hcell⟩ := HC.out (by intro e; simp [e] at hx)
      have hx0 := HL.out x (List.mem_of_getElem? hx)
      have hc0 := hkr.cell (hcell k x hx) (by simp)
      have HT := Lib.hid (show l.take (k + 1) = l.take k ++ [x] by rw [List.take_add_one, hx]; rfl)
      obtain ⟨m, D, ho, hm, hh⟩ := hs
      have HO := Lib.hid ho
      have hlen : (l.take k).length ≤ 2000000 := by rw [List.length_take]; omega
      have hmx : m < maxLen := by unfold maxLen; omega
      have HM := Lib.hid hmx
      have HKY := Lib.hid (u32Key hx0)
      have hw0 : IntKind.u32.wrap (x : Int) = (x : Int) := IntWalk.u32_in _ (by omega)
      have HP := Lib.hid fun (w' : World) (d : DataW Value) (h : w'.ownsMap Try.prog 22 tokV w.heap.size (m + 1) (D.put (uk x) d)) => SetAt.put (w' := w') (d := d) h ho.isMap hm hx0 hh
      clear hkr hx hcell ho hm hh hmx hx0
      go_wp2_with (at_mapUpdate; refine wpList_mapUpdate_own _ rfl _ _ _ 108 rfl 22 3 u32Keyed Try.underlying108 tokV w.heap.size m D rfl HO.out HM.out _ _ (uk x) rfl rfl HKY.out (.held (.int .i64 (k : Int))) [] rfl ?_; intro w4 ho4 hg4; have HO4 := Lib.hid ho4; have HG4 := Lib.hid (grown_keepsV hg4); clear ho4 hg4)
      go_roundw
      case rel => exact ⟨k + 1, by omega, by go_num, by rw [HT.out]; exact HP.out _ _ HO4.out, HK.out.then HG4.out (fun x hx => .inr (by simp at hx; omega))⟩
      case measure => simp [intOf]; omega
    · obtain rfl : k = n := by omega
      have hlt' : ¬ (k : Int) < (k : Int) := by omega
      have HT := Lib.hid (show l.take k = l from List.take_of_length_le (by rw [← HN.out]; exact Nat.le_refl _))
      clear hs hkr
      go_wp2
      go_ret
      exact ⟨rfl, by rw [← HT.out]; exact HS.out, HK.out⟩
end Go.Proofs.Ytfnjjanknfmibaa
