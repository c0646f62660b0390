/-
  CfgTells: what is answered of each change, and the entries behind it, are exactly as the document defines; so is what is got of any key, and each weight. For every input the law returns true, and each argument reads as it read before. No condition.
-/
import Derived.Test.YtlnmbfddhdjioaaGreatRows
import Derived.WalkKit
import Derived.ProofKit
import Derived.OpenShut
import Derived.ShutString
import Derived.ChangeOld
import Derived.Below
import Derived.Test.YtlnmbfddhdjioaaGreatCfgTellsA
import Derived.SizedLaws
namespace Go.Proofs.YtlnmbfddhdjioaaGreat
open Go.RowKit Go.Deep Go.ChangeShapes Go.WideShapes

theorem weights_mem_all {H : Type} {P : Program} (e : TypeId) : ∀ {l : List (DataW H)} {d : DataW H}, d ∈ l → ∀ n ∈ d.weights P e, n ∈ DataW.weightsAll P e l
  | x :: r, d, hd, n, hn => by
    simp only [DataW.weightsAll, List.mem_append]
    rcases List.mem_cons.1 hd with rfl | hd
    · exact .inl hn
    · exact .inr (weights_mem_all e hd n hn)
  | [], _, hd, _, _ => by cases hd

section
variable {H : Type} {enc : TypeId × Value → H} {P : Program} {w : World} {base : Nat} {spare : Nat → Bool} {held : Bool}

/-- As structs_read, with the weights of each field among those of the list. -/
theorem structs_sized {t e : TypeId} {fs : Array Field} {fuel : Nat} {v : Value} {x : DataW H × List MemPlace} (ht : P.underlying t = some (.slice e)) (he : P.underlying e = some (.struct fs))
    (hone : oneCellFields P fs = true) (hC : P.cellsOf e = fs.size) (h : DataW.trod enc P w base spare held fuel t [v] = some x) :
    v = .slice none 0 0 ∨ ∃ (a : Addr) (len cap : Nat), v = .slice (some a) len cap ∧ len ≤ cap ∧ cap ≤ maxLen ∧
      ∀ i, i < len → ∀ (j : Nat) (f : Field), fs[j]? = some f → ∃ (u : Value) (y : DataW H × List MemPlace) (n : Nat), w.cell? (a.add (i * fs.size + j)) = some u ∧ DataW.trod enc P w base spare held n f.type [u] = some y ∧ ∀ k ∈ y.1.weights P f.type, k ∈ x.1.weights P t := by
  rcases open_slice ht h with ⟨hcs, _⟩ | ⟨a, len, cap, m, n, D, Pl, hcs, _, hl, hm, hmm, hx, hi⟩
  · exact .inl (by simpa using hcs)
  · refine .inr ⟨a, len, cap, by simpa using hcs, hl, hm, fun i hlt j f hj => ?_⟩
    have him : i < m := by rw [hmm]; split <;> omega
    obtain ⟨cells, hc, htr⟩ := hi i him
    rw [hC] at hc
    obtain ⟨xs, k, _, hxs, _, hxl, hfs⟩ := DataW.trod_struct he htr
    obtain ⟨_, hcl, hat⟩ := World.cells?_some hc
    have hjl : j < fs.size := (Array.getElem?_eq_some_iff.1 hj).1
    obtain ⟨hoff, hcell⟩ := hone_of hone j f hj
    have hrd := hfs j f hj
    rw [hoff, hcell] at hrd
    have hlc : j < cells.length := by omega
    have h1 : (cells.drop j).take 1 = [cells[j]] := by
      rw [List.drop_eq_getElem_cons hlc]; rfl
    rw [h1, List.getElem?_eq_getElem (show j < xs.length by omega)] at hrd
    refine ⟨cells[j], _, k, by rw [← add_add, hat j (by omega), List.getElem?_eq_getElem hlc], hrd, fun q hq => ?_⟩
    have hD : D i = .agg (xs.map (·.1)) := by have := congrArg Prod.fst hxs; exact this
    rw [hx]
    simp only [DataW.weights, ht, List.mem_cons, List.mem_append]
    refine .inr (.inl (weights_mem_all e (d := D i) (List.mem_map.2 ⟨i, List.mem_range.2 hlt, rfl⟩) q ?_))
    rw [hD]
    simp only [DataW.weights, he]
    refine DataW.weights_mem_each (j := j) (t := f.type) (d := (xs[j]'(by omega)).1) ?_ ?_ q hq
    · rw [List.getElem?_map, Array.getElem?_toList, hj]; rfl
    · rw [List.getElem?_map, List.getElem?_eq_getElem (show j < xs.length by omega)]; rfl
end

section
variable {H : Type} {enc : TypeId × Value → H} {W : World} {b0 : Nat} {spare : Nat → Bool} {held : Bool}

theorem bytesOfByte : Tryz.prog.bytesOf 5 = 1 := by kernel_rfl

theorem bytes_len {fuel : Nat} {v : Value} {x : DataW H × List MemPlace} {R : Nat} (h : DataW.trod enc Tryz.prog W b0 spare held fuel 23 [v] = some x) (hw : ∀ n ∈ x.1.weights Tryz.prog 23, n ≤ R) {l : List UInt8} {M : Nat} (hr : Reads W v l M) : l.length ≤ R := by
  rcases open_slice Tryz.underlying23 h with ⟨hcs, _⟩ | ⟨a, len, cap, m, n, D, Pl, hcs, _, hl, hm, hmm, hx, hi⟩
  · obtain ⟨ao, c, hv, _⟩ := hr.shape
    obtain rfl : v = .slice none 0 0 := by simpa using hcs
    simp only [Value.slice.injEq] at hv
    omega
  · obtain ⟨ao, c, hv, _⟩ := hr.shape
    obtain rfl : v = .slice (some a) len cap := by simpa using hcs
    simp only [Value.slice.injEq] at hv
    have hmem : (len + (m - len)) * Tryz.prog.bytesOf 5 ∈ x.1.weights Tryz.prog 23 := by
      rw [hx]
      simp [DataW.weights, Tryz.underlying23]
    have := hw _ hmem
    rw [bytesOfByte] at this
    omega

theorem ops6R_read {fuel : Nat} {v : Value} {x : DataW H × List MemPlace} (h : DataW.trod enc Tryz.prog W b0 spare held fuel 22 [v] = some x) (hw : ∀ n ∈ x.1.weights Tryz.prog 22, n ≤ 140737488351232) : ∃ n, OpsR W W.heap.size v n := by
  rcases structs_sized Tryz.underlying22 Tryz.underlying33 (by kernel_rfl) (by kernel_rfl) h with rfl | ⟨a, len, cap, rfl, hl, hm, hf⟩
  · exact ⟨0, .inl ⟨rfl, rfl⟩⟩
  · refine ⟨len, .inr ⟨a, cap, rfl, hl, hm, fun i hi => ?_⟩⟩
    obtain ⟨u0, y0, n0, c0, t0, _⟩ := hf i hi 0 _ rfl
    obtain ⟨u1, y1, n1, c1, t1, s1⟩ := hf i hi 1 _ rfl
    obtain ⟨u2, y2, n2, c2, t2, s2⟩ := hf i hi 2 _ rfl
    obtain ⟨u3, y3, n3, c3, t3, _⟩ := hf i hi 3 _ rfl
    obtain ⟨u4, y4, n4, c4, t4, _⟩ := hf i hi 4 _ rfl
    obtain ⟨d, hd, _, wd⟩ := DataW.trod_int Tryz.underlying5 t0
    obtain ⟨p, hp, _, wp⟩ := DataW.trod_int Tryz.underlying5 t3
    simp at hd hp
    subst hd hp
    obtain ⟨l1, M1, r1, ll1, g1⟩ := bytes_read t1
    obtain ⟨l2, M2, r2, ll2, g2⟩ := bytes_read t2
    obtain ⟨l4, M4, r4, ll4, g4⟩ := bytes_read t4
    obtain ⟨c, rfl⟩ := byte_of_wf wd
    obtain ⟨c', rfl⟩ := byte_of_wf wp
    have hb := World.block_lt_of_cell? W _ c1
    rw [Addr.add_block] at hb
    exact ⟨c.toNat, c'.toNat, u1, u2, u4, l1, l2, l4, M1, M2, M4, ⟨c.toNat_lt, c'.toNat_lt, ll1, ll2, ll4, r1, g1, r2, g2, r4, g4, hb, c0, c1, c2, c3, c4⟩,
      bytes_len t1 (fun n hn => hw n (s1 n hn)) r1, bytes_len t2 (fun n hn => hw n (s2 n hn)) r2⟩
end
end Go.Proofs.YtlnmbfddhdjioaaGreat

namespace Go.Proofs.YtlnmbfddhdjioaaGreat.cfgTells
open Go.ChangeShapes Go.WideShapes Go.ChangeAt Go.RowKit
set_option linter.unusedVariables false

theorem own : ownKnob Tryz.prog.godebug = none := by kernel_rfl
theorem laidOut : laidOutB Tryz.prog = true := by kernel_rfl

set_option maxRecDepth 100000 in
theorem lifted (os : Os) (started : os.Started) (H : Type) (enc : TypeId × Value → H) :
    ReturnsInHanded {} Tryz.checked os 3 .any (Rows.cfgTellsSpec.pre6 enc Tryz.prog Tryz.f3 Rows.cfgTellsRow.domain false) (Rows.cfgTellsSpec.post enc Tryz.prog Tryz.f3 false true false false) := by
  refine returnsInHanded_of_change_sized (C := Tryz.checked) own started (by kernel_rfl) Tryz.func3
    (ChangeSpec.witness6 (enc := enc) (C := Tryz.checked) false ⟨#[], #[.int .u8 0, .int .u8 0, .slice none 0 0, .slice none 0 0], []⟩ 8 (by kernel_rfl) (by kernel_rfl) (by kernel_rfl) (by kernel_rfl)) ?_
  intro W base args ds gs before hval0 hW hcnd hsz _
  have hval : ∀ (j : Nat) t v, Tryz.f3.params[j]? = some t → args[j]? = some v → Value.okWide Tryz.prog W .any base t v := hval0
  have hW' := hW
  obtain ⟨p, q, hA0, hV, rfl, hfz, hnd⟩ := hW
  have hA : DataW.TrodAll enc Tryz.prog W 0 (fun _ => true) true Tryz.f3.params.toList args.toList ds p := hA0
  rw [Tryz.params3] at hA hval
  obtain ⟨v0, vs0, d0, ds0, p0, q0, hargs, rfl, rfl, h0, r0⟩ := trodAll_cons hA
  obtain ⟨v1, vs1, d1, ds1, p1, q1, rfl, rfl, rfl, h1, r1⟩ := trodAll_cons r0
  obtain ⟨v2, vs2, d2, ds2, p2, q2, rfl, rfl, rfl, h2, r2⟩ := trodAll_cons r1
  obtain ⟨v3, vs3, d3, ds3, p3, q3, rfl, rfl, rfl, h3, r3⟩ := trodAll_cons r2
  obtain ⟨rfl, rfl, rfl⟩ := trodAll_nil r3
  obtain rfl : args = #[v0, v1, v2, v3] := by cases args; simp_all
  obtain ⟨rfl, rfl⟩ := trodVars_none hV
  obtain ⟨a0, rfl, rfl, rfl, w0⟩ := open_int Tryz.underlying5 (hval 0 5 v0 rfl rfl) h0
  obtain ⟨a1, rfl, rfl, rfl, w1⟩ := open_int Tryz.underlying5 (hval 1 5 v1 rfl rfl) h1
  obtain ⟨a2, len2, cap2, rfl⟩ := okWide_slice Tryz.underlying22 (hval 2 22 v2 rfl rfl)
  have k2 := h2
  have lt2 : ∀ x ∈ p2, x.block < W.heap.size := by obtain ⟨m, hm⟩ := k2; exact DataW.trod_lt m _ _ _ hm
  obtain ⟨fuel2, hf2⟩ := h2
  have hw2 : ∀ n ∈ d2.weights Tryz.prog 22, n ≤ 140737488351232 := fun n hn => by
    have := List.all_eq_true.1 hsz n (DataW.weights_mem_each (j := 2) (t := 22) (d := d2) (by kernel_rfl) rfl n hn)
    exact of_decide_eq_true this
  obtain ⟨z2, w2⟩ := ops6R_read (x := (d2, p2)) (show DataW.trod enc Tryz.prog W 0 (fun _ => true) true fuel2 22 [.slice a2 len2 cap2] = some (d2, p2) from hf2) hw2
  obtain ⟨a3, len3, cap3, rfl⟩ := okWide_slice Tryz.underlying23 (hval 3 23 v3 rfl rfl)
  have k3 := h3
  have lt3 : ∀ x ∈ p3, x.block < W.heap.size := by obtain ⟨m, hm⟩ := k3; exact DataW.trod_lt m _ _ _ hm
  obtain ⟨fuel3, hf3⟩ := h3
  obtain ⟨z3, M3, w3, l3, m3⟩ := bytes_read (show DataW.trod enc Tryz.prog W 0 (fun _ => true) true fuel3 23 [.slice a3 len3 cap3] = some _ from hf3)
  clear hA0 hval0
  obtain ⟨b0, hb0⟩ : ∃ b0 : Nat, a0 = (b0 : Int) := Int.eq_ofNat_of_zero_le (bounds_u8 w0).1
  obtain ⟨b1, hb1⟩ : ∃ b1 : Nat, a1 = (b1 : Int) := Int.eq_ofNat_of_zero_le (bounds_u8 w1).1
  subst hb0 hb1
  refine (CfgTells_any W b0 b1 (by have := bounds_u8 w0; omega) (by have := bounds_u8 w1; omega) _ _ z2 w2 z3 M3 w3 m3 l3).mono fun e W' ⟨he, hkp⟩ => ?_
  have bel := hkp.below
  subst he
  exact ⟨_, rfl, _, _, _, [], _, [], hW', trodAll_mk1 (shut_bool Tryz.underlying4 _), (trodAll_cons_mk (shut_int Tryz.underlying5 w0) (trodAll_cons_mk (shut_int Tryz.underlying5 w1) (trodAll_cons_mk (Below.trod laidOut (by kernel_rfl) (of_decide_eq_true (by kernel_rfl)) k2 bel lt2) (trodAll_cons_mk (Below.trod laidOut (by kernel_rfl) (of_decide_eq_true (by kernel_rfl)) k3 bel lt3) trodAll_mk0)))), rfl, bel.frame _, fun h => by cases h⟩

theorem over : Rows.cfgTellsRow.holds Tryz.pinned (OpenSpec.ofChange Rows.cfgTellsSpec) :=
  OpenClaim.holds_of_wide 3 Tryz.f3 rfl rfl rfl rfl rfl rfl rfl ⟨rfl, rfl, rfl, rfl, rfl⟩ rfl rfl rfl rfl rfl (by kernel_rfl) Tryz.func3 (by kernel_rfl)
    (of_decide_eq_true (by kernel_rfl)) (by unfold Func.isWrapper; first | (rw [if_pos (by decide +kernel)]; kernel_rfl) | (rw [if_neg (by decide +kernel)]; exact ⟨rfl, rfl⟩))
    (fun os started H enc _ => lifted os started H enc)

theorem proved : Rows.CfgTellsSaid := over
#print axioms proved
end Go.Proofs.YtlnmbfddhdjioaaGreat.cfgTells
