/-
  PrimTells: which primitives there are, how long instructions are, where they stand, and which words are right, is exactly as the document defines. For every input of bulk at most 1048576 the law returns true, and each argument reads as it read before.
-/
import Derived.Test.YtfnjjanknfmibaaRows
import Derived.WalkKit
import Derived.ProofKit
import Derived.OpenShut
import Derived.ShutString
import Derived.ChangeOld
import Derived.Below
import Derived.Test.YtfnjjanknfmibaaPmTellsA
import Derived.ChangeMaps5
import Derived.JoinedCond
namespace Go.Proofs.Ytfnjjanknfmibaa
section
theorem bulk_one {H : Type} (d : DataW H) : 1 ≤ Rows.uptoBulk d := by
  cases d with
  | lit l => cases l <;> simp [Rows.uptoBulk]
  | _ => simp [Rows.uptoBulk]
theorem bulk_mem {H : Type} {d : DataW H} : ∀ {l : List (DataW H)}, d ∈ l → Rows.uptoBulk d ≤ Rows.uptoBulkAll l
  | x :: r, h => by
    simp only [Rows.uptoBulkAll]
    rcases List.mem_cons.1 h with rfl | h
    · omega
    · have := bulk_mem h; omega
theorem bulk_length {H : Type} : ∀ l : List (DataW H), l.length ≤ Rows.uptoBulkAll l
  | [] => by simp
  | x :: r => by have := bulk_length r; have := bulk_one x; simp only [Rows.uptoBulkAll, List.length_cons]; omega

open Go.RowKit Go.Deep Go.ChangeShapes Go.WideShapes
variable {H : Type} {enc : TypeId × Value → H}

/-- As structs_read, with the bulk of each field at most the list's. -/
theorem structs_bulk {P : Program} {w : World} {base : Nat} {spare : Nat → Bool} {held : Bool} {t e : TypeId} {fs : Array Field} {fuel : Nat} {v : Value} {x : DataW H × List MemPlace} (ht : P.underlying t = some (.slice e)) (he : P.underlying e = some (.struct fs))
    (hone : oneCellFields P fs = true) (hC : P.cellsOf e = fs.size) (h : DataW.trod enc P w base spare held fuel t [v] = some x) :
    v = .slice none 0 0 ∨ ∃ (a : Addr) (len cap : Nat), v = .slice (some a) len cap ∧ len ≤ cap ∧ cap ≤ maxLen ∧
      ∀ i, i < len → ∀ (j : Nat) (f : Field), fs[j]? = some f → ∃ (u : Value) (y : DataW H × List MemPlace) (n : Nat), w.cell? (a.add (i * fs.size + j)) = some u ∧ DataW.trod enc P w base spare held n f.type [u] = some y ∧ Rows.uptoBulk y.1 ≤ Rows.uptoBulk x.1 := by
  rcases open_slice ht h with ⟨hcs, _⟩ | ⟨a, len, cap, m, n, D, Pl, hcs, _, hl, hm, hmm, hx, hi⟩
  · exact .inl (by simpa using hcs)
  · refine .inr ⟨a, len, cap, by simpa using hcs, hl, hm, fun i hlt j f hj => ?_⟩
    have him : i < m := by rw [hmm]; split <;> omega
    obtain ⟨cells, hc, htr⟩ := hi i him
    rw [hC] at hc
    obtain ⟨xs, k, _, hxs, _, hxl, hfs⟩ := DataW.trod_struct he htr
    obtain ⟨_, hcl, hat⟩ := World.cells?_some hc
    have hjl : j < fs.size := (Array.getElem?_eq_some_iff.1 hj).1
    obtain ⟨hoff, hcell⟩ := hone_of hone j f hj
    have hrd := hfs j f hj
    rw [hoff, hcell] at hrd
    have hlc : j < cells.length := by omega
    have h1 : (cells.drop j).take 1 = [cells[j]] := by
      rw [List.drop_eq_getElem_cons hlc]; rfl
    rw [h1, List.getElem?_eq_getElem (show j < xs.length by omega)] at hrd
    refine ⟨cells[j], _, k, by rw [← add_add, hat j (by omega), List.getElem?_eq_getElem hlc], hrd, ?_⟩
    have hD : D i = .agg (xs.map (·.1)) := by have := congrArg Prod.fst hxs; exact this
    have b1 : Rows.uptoBulk (xs[j]'(by omega)).1 ≤ Rows.uptoBulkAll (xs.map (·.1)) := bulk_mem (List.mem_map.2 ⟨_, List.getElem_mem _, rfl⟩)
    have b2 : Rows.uptoBulk (D i) ≤ Rows.uptoBulkAll ((List.range len).map D) := bulk_mem (List.mem_map.2 ⟨i, List.mem_range.2 hlt, rfl⟩)
    rw [hD] at b2
    rw [hx]
    simp only [Rows.uptoBulk] at b2 ⊢
    omega

theorem code_bulk {W : World} {b0 : Nat} {spare : Nat → Bool} {held : Bool} {fuel : Nat} {a : Option Addr} {n c : Nat} {x : DataW H × List MemPlace} (h : DataW.trod enc Try.prog W b0 spare held fuel 23 [.slice a n c] = some x) : n ≤ Rows.uptoBulk x.1 := by
  rcases open_slice Try.underlying23 h with ⟨hcs, _⟩ | ⟨a', len, cap, m, n', D, Pl, hcs, _, _, _, _, hx, _⟩
  · simp only [List.cons.injEq, Value.slice.injEq] at hcs
    omega
  · simp only [List.cons.injEq, Value.slice.injEq] at hcs
    have := bulk_length ((List.range len).map D)
    rw [List.length_map, List.length_range] at this
    rw [hx]
    simp only [Rows.uptoBulk]
    omega

theorem words_bulk {W : World} {b0 : Nat} {spare : Nat → Bool} {held : Bool} {fuel : Nat} {v : Value} {x : DataW H × List MemPlace} (h : DataW.trod enc Try.prog W b0 spare held fuel 24 [v] = some x) {P : Nat → Prop} {l : List Wd} (hw : WordsIn W P v l) :
    ∀ y ∈ l, y.code.length ≤ Rows.uptoBulk x.1 := by
  intro y hy
  obtain ⟨i, hi, rfl⟩ := List.getElem_of_mem hy
  obtain ⟨a, cap, B, o, hv, _, _, hn, hx⟩ := hw
  obtain ⟨ea, _⟩ := hn (by intro e; simp [e] at hi)
  rcases structs_bulk Try.underlying24 Try.underlying59 (by kernel_rfl) (by kernel_rfl) h with h0 | ⟨a', len, cap', h0, _, _, hf⟩
  · rw [hv] at h0
    simp only [Value.slice.injEq] at h0
    omega
  · rw [hv] at h0
    simp only [Value.slice.injEq] at h0
    obtain ⟨e1, e2, _⟩ := h0
    rw [ea] at e1
    injection e1 with e1
    subst e1
    obtain ⟨u2, y2, n2, c2, t2, s2⟩ := hf i (by omega) 2 _ rfl
    obtain ⟨a2, cap2, M, off, _, _, k2, _⟩ := hx i _ (List.getElem?_eq_getElem hi)
    rw [Addr.add_off] at c2
    have c3 : W.cell? ⟨B, o + (i * 3 + 2), none⟩ = some u2 := c2
    rw [show o + (i * 3 + 2) = o + i * 3 + 2 by omega, k2] at c3
    injection c3 with c3
    subst c3
    exact Nat.le_trans (code_bulk t2) s2
end

theorem PrimTells_u32 (w : World) (n : Int) (hn : (Lit.int .u32 n).wf = true) (s : ByteArray) (vc : Value) (c : List (BitVec 32)) (M off : Nat) (hc : UReads w vc c M off) (hcm : c.length ≤ maxLen)
    (vl : Value) (l : List Wd) (hl : WordsIn w (fun k => k < w.heap.size) vl l) (hb : ∀ x ∈ l, x.code.length ≤ 2000000) (z : Int) :
    Calls Try.prog 3 #[.int .u32 n, .string s, vc, vl, .int .i64 z] w fun e w' => e = .returned (.bool true) ∧ Keeps [] w w' := by
  obtain ⟨x, rfl⟩ := word_of_wf hn
  have h := PrimTells_any w x.toNat s.data.toList vc c M off hc hcm vl l hl hb z
  rw [str_back] at h
  exact h
end Go.Proofs.Ytfnjjanknfmibaa
namespace Go.Proofs.Ytfnjjanknfmibaa.primTells
open Go.ChangeShapes Go.WideShapes Go.ChangeAt Go.RowKit
set_option linter.unusedVariables false

theorem own : ownKnob Try.prog.godebug = none := by kernel_rfl
theorem laidOut : laidOutB Try.prog = true := by kernel_rfl

set_option maxRecDepth 100000 in
theorem contract (H : Type) (enc : TypeId × Value → H) (W : World) (base : Nat) (args : Array Value) (ds gs : List (DataW H)) (before : List MemPlace)
    (hval0 : ∀ (j : Nat) t v, Try.f3.params[j]? = some t → args[j]? = some v → Value.okWide Try.prog W .any base t v)
    (hW : DataW.Whole enc Try.prog Try.f3.params.toList Rows.primTellsSpec.vars false W args.toList ds gs before) (hk : Rows.uptoSmall H (ds ++ gs) = true) :
    Calls Try.prog 3 args W fun e W' => ∃ v, e = .returned v ∧ Rows.primTellsSpec.post enc Try.prog Try.f3 false true false false W args v W' := by
  have hval : ∀ (j : Nat) t v, Try.f3.params[j]? = some t → args[j]? = some v → Value.okWide Try.prog W .any base t v := hval0
  have hW' := hW
  obtain ⟨p, q, hA0, hV, rfl, hfz, hnd⟩ := hW
  have hA : DataW.TrodAll enc Try.prog W 0 (fun _ => true) true Try.f3.params.toList args.toList ds p := hA0
  rw [Try.params3] at hA hval
  obtain ⟨v0, vs0, d0, ds0, p0, q0, hargs, rfl, rfl, h0, r0⟩ := trodAll_cons hA
  obtain ⟨v1, vs1, d1, ds1, p1, q1, rfl, rfl, rfl, h1, r1⟩ := trodAll_cons r0
  obtain ⟨v2, vs2, d2, ds2, p2, q2, rfl, rfl, rfl, h2, r2⟩ := trodAll_cons r1
  obtain ⟨v3, vs3, d3, ds3, p3, q3, rfl, rfl, rfl, h3, r3⟩ := trodAll_cons r2
  obtain ⟨v4, vs4, d4, ds4, p4, q4, rfl, rfl, rfl, h4, r4⟩ := trodAll_cons r3
  obtain ⟨rfl, rfl, rfl⟩ := trodAll_nil r4
  obtain rfl : args = #[v0, v1, v2, v3, v4] := by cases args; simp_all
  obtain ⟨rfl, rfl⟩ := trodVars_none hV
  obtain ⟨a0, rfl, rfl, rfl, w0⟩ := open_int Try.underlying22 (hval 0 22 v0 rfl rfl) h0
  obtain ⟨s1, rfl, rfl, rfl, ls1⟩ := Go.ChangeMaps.open_string Try.underlying9 (hval 1 9 v1 rfl rfl) h1
  obtain ⟨a2, len2, cap2, rfl⟩ := okWide_slice Try.underlying23 (hval 2 23 v2 rfl rfl)
  have k2 := h2
  have lt2 : ∀ x ∈ p2, x.block < W.heap.size := by obtain ⟨m, hm⟩ := k2; exact DataW.trod_lt m _ _ _ hm
  obtain ⟨fuel2, hf2⟩ := h2
  obtain ⟨z2, M2, o2, w2, l2⟩ := words_read (show DataW.trod enc Try.prog W 0 (fun _ => true) true fuel2 23 [.slice a2 len2 cap2] = some _ from hf2)
  obtain ⟨a3, len3, cap3, rfl⟩ := okWide_slice Try.underlying24 (hval 3 24 v3 rfl rfl)
  have k3 := h3
  have lt3 : ∀ x ∈ p3, x.block < W.heap.size := by obtain ⟨m, hm⟩ := k3; exact DataW.trod_lt m _ _ _ hm
  obtain ⟨fuel3, hf3⟩ := h3
  obtain ⟨z3, w3⟩ := words10_read (show DataW.trod enc Try.prog W 0 (fun _ => true) true fuel3 24 [.slice a3 len3 cap3] = some _ from hf3)
  obtain ⟨a4, rfl, rfl, rfl, w4⟩ := open_int Try.underlying3 (hval 4 3 v4 rfl rfl) h4
  have hk2 := of_decide_eq_true hk
  simp only [Rows.uptoBulkAll, List.append_nil] at hk2
  have hb : ∀ y ∈ z3, y.code.length ≤ 2000000 := fun y hy => by
    have := words_bulk (show DataW.trod enc Try.prog W 0 (fun _ => true) true fuel3 24 [.slice a3 len3 cap3] = some _ from hf3) w3 y hy
    dsimp only at this
    omega
  clear hA0 hval0 hk2
  refine (PrimTells_u32 W a0 w0 s1 _ z2 M2 o2 w2 l2 _ z3 w3 hb a4).mono fun e W' ⟨he, hkp⟩ => ?_
  have bel := hkp.below
  subst he
  exact ⟨_, rfl, _, _, _, [], _, [], hW', trodAll_mk1 (shut_bool Try.underlying4 _), (trodAll_cons_mk (shut_int Try.underlying22 w0) (trodAll_cons_mk (Go.ChangeMaps.shut_string Try.underlying9 ls1) (trodAll_cons_mk (Below.trod laidOut (by kernel_rfl) (of_decide_eq_true (by kernel_rfl)) k2 bel lt2) (trodAll_cons_mk (Below.trod laidOut (by kernel_rfl) (of_decide_eq_true (by kernel_rfl)) k3 bel lt3) (trodAll_cons_mk (shut_int Try.underlying3 w4) trodAll_mk0))))), rfl, bel.frame _, fun h => by cases h⟩

set_option maxRecDepth 100000 in
theorem lifted (os : Os) (started : os.Started) (H : Type) (enc : TypeId × Value → H) (F : Stop.Interp) :
    ReturnsInHanded {} Try.checked os 3 .any ((Rows.OpenSpec.upto Rows.primTellsSpec).pre6 enc Try.prog Try.f3 Rows.primTellsUptoRow.domain false) (((Rows.OpenSpec.upto Rows.primTellsSpec).at F).post enc Try.prog Try.f3 false true false false) := by
  refine returnsInHanded_of_cond (C := Try.checked) (s := Rows.OpenSpec.upto Rows.primTellsSpec) (k := Rows.uptoSmall) rfl own started (by kernel_rfl) Try.func3
    (OpenSpec.witness (enc := enc) (C := Try.checked) (s := Rows.OpenSpec.upto Rows.primTellsSpec) (k := Rows.uptoSmall) rfl false ⟨#[], #[.int .u32 0, .string ⟨#[]⟩, .slice none 0 0, .slice none 0 0, .int .i64 0], []⟩ 8 (by kernel_rfl) (by kernel_rfl) (by kernel_rfl)
      (x := ([.lit (.int .u32 0), .lit (.string []), .nil, .nil, .lit (.int .i64 0)], [], [])) (by kernel_rfl) rfl (by kernel_rfl)) ?_
  intro W base args ds gs before hval hW _ hk _
  exact contract H enc W base args ds gs before hval hW hk

theorem proved : Rows.PrimTellsUptoSaid :=
  OpenClaim.holds_of_cond 3 Try.f3 rfl rfl rfl rfl rfl rfl rfl ⟨rfl, rfl, rfl, rfl, rfl⟩ rfl rfl rfl rfl rfl (by kernel_rfl) Try.func3 (by kernel_rfl)
    (of_decide_eq_true (by kernel_rfl)) (by unfold Func.isWrapper; first | (rw [if_pos (by decide +kernel)]; kernel_rfl) | (rw [if_neg (by decide +kernel)]; exact ⟨rfl, rfl⟩))
    (fun os started H enc _ F => lifted os started H enc F)
#print axioms proved
end Go.Proofs.Ytfnjjanknfmibaa.primTells
