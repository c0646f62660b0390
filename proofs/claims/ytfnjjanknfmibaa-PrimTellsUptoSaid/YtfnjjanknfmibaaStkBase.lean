/-
  Stacks of cells: numbers that a slice reads as, lists of numbers that came in, appends to a row of one's own, and where a stack stands.
-/
import Derived.Test.YtfnjjanknfmibaaGround
import Derived.Lib.SliceRun
namespace Go.Proofs.Ytfnjjanknfmibaa
open Go.RowKit Go.Deep Go.ChangeShapes Go.WideShapes
set_option linter.unusedVariables false

/-- The numbers that a slice reads as: the nil slice, or one at places of one block. -/
def UReads (w : World) (v : Value) (l : List (BitVec 32)) (M off : Nat) : Prop :=
  (v = .slice none 0 0 ∧ l = []) ∨
  ∃ ad cap, v = .slice (some ad) l.length cap ∧ l.length ≤ cap ∧ (l ≠ [] → ad = ⟨M, off, none⟩) ∧ ∀ i c, l[i]? = some c → w.cell? ⟨M, off + i, none⟩ = some (uv c)

theorem UReads.nil (w : World) (M off : Nat) : UReads w (.slice none 0 0) [] M off := .inl ⟨rfl, rfl⟩

theorem UReads.keeps {S : List Nat} {w w' : World} {v : Value} {l : List (BitVec 32)} {M off : Nat} (h : UReads w v l M off) (hk : Keeps S w w') (hM : l ≠ [] → M ∉ S) : UReads w' v l M off := by
  rcases h with h | ⟨ad, cap, hv, hcap, hb, hc⟩
  · exact .inl h
  · exact .inr ⟨ad, cap, hv, hcap, hb, fun i c hi => hk.cell (hc i c hi) (hM (by intro e; simp [e] at hi))⟩

theorem UReads.shape {w : World} {v : Value} {l : List (BitVec 32)} {M off : Nat} (h : UReads w v l M off) : ∃ a cap, v = .slice a l.length cap ∧ l.length ≤ cap := by
  rcases h with ⟨rfl, rfl⟩ | ⟨ad, c, rfl, hc, _⟩
  · exact ⟨none, 0, rfl, Nat.le_refl _⟩
  · exact ⟨some ad, c, rfl, hc⟩

theorem UReads.lt {w : World} {v : Value} {l : List (BitVec 32)} {M off : Nat} (h : UReads w v l M off) (hl : l ≠ []) : M < w.heap.size := by
  rcases h with ⟨_, h⟩ | ⟨ad, cap, rfl, hcap, hb, hc⟩
  · exact absurd h hl
  · have h0 : 0 < l.length := List.length_pos_iff.2 hl
    exact World.block_lt_of_cell? w _ (hc 0 l[0] (List.getElem?_eq_getElem h0))

theorem UReads.cells {w : World} {v : Value} {l : List (BitVec 32)} {M off : Nat} (h : UReads w v l M off) (hl : l ≠ []) :
    ∃ cap, v = .slice (some ⟨M, off, none⟩) l.length cap ∧ l.length ≤ cap ∧ ∀ i c, l[i]? = some c → w.cell? ⟨M, off + i, none⟩ = some (uv c) := by
  rcases h with ⟨_, h⟩ | ⟨ad, cap, rfl, hcap, hb, hc⟩
  · exact absurd h hl
  · obtain rfl := hb hl
    exact ⟨cap, rfl, hcap, hc⟩

theorem one_uvs (l : List (BitVec 32)) : ∀ u ∈ l.map uv, u.oneCell' = true := by
  intro u hu; obtain ⟨c, _, rfl⟩ := List.mem_map.1 hu; rfl

/-- An own row of numbers. -/
theorem UReads.owns {w : World} {base n : Nat} {v : Value} {l : List (BitVec 32)} (h : w.ownsRow base 22 1 v n (l.map uv)) : ∃ M, UReads w v l M 0 ∧ (l ≠ [] → v.ownBlock = some M ∧ base ≤ M ∧ M < w.heap.size) := by
  have h' := h
  obtain ⟨hl, h2⟩ := h
  rw [List.length_map, Nat.mul_one] at hl
  rcases h2 with ⟨rfl, rfl⟩ | ⟨g, cap, cur, rfl, hb, hg, hn, _⟩
  · obtain rfl : l = [] := List.eq_nil_of_length_eq_zero hl
    exact ⟨0, UReads.nil _ _ _, fun h => absurd rfl h⟩
  · have hr := Row.ofOwnsAt h'
    subst hl
    refine ⟨g, .inr ⟨⟨g, 0, none⟩, cap, rfl, hn, fun _ => rfl, fun i c hi => ?_⟩, fun _ => ⟨rfl, hb, (Array.getElem?_eq_some_iff.1 hg).1⟩⟩
    rw [Nat.zero_add]
    exact hr.cell i (by simp [hi])

theorem infoU : (Try.prog.info? 22).map (fun i => (i.zero, i.size, i.bytes)) = some (some (.int .u32 0), 1, 4) := by kernel_rfl
theorem elemUs : Try.prog.elem 23 = 22 := by kernel_rfl
theorem underUs : Try.prog.underlying 23 = some (.slice (Try.prog.elem 23)) := by rw [elemUs]; exact Try.underlying23
theorem sizeU (w : World) : (sizeOf 22).run Try.prog w = .ok 1 w := by
  obtain ⟨i0, hi, hz0, hz1, hz2⟩ := info_parts infoU
  simp [sizeOf, typeInfo, hi, hz1]
theorem zeroU (w : World) : (zeroValue 22).run Try.prog w = .ok (.int .u32 0) w := by kernel_rfl

theorem run_cutU_h (w : World) (a : Option Addr) (len cap hi : Nat) (h : hi ≤ cap) : (Instr.sliceAt 23 (.slice a len cap) none (some (.int .i64 hi)) none).run Try.prog w = .ok (sliced a 0 hi cap 1) w := by
  have hu := underUs
  rw [run_sliceAt_slice _ _ _ _ _ _ hu, run_slice_h _ _ _ _ _ hu _ _ (by omega) (by omega), elemUs, sizeU]
  rfl
theorem run_cutU_l (w : World) (a : Option Addr) (len cap lo : Nat) (h : lo ≤ len) : (Instr.sliceAt 23 (.slice a len cap) (some (.int .i64 lo)) none none).run Try.prog w = .ok (sliced a lo len cap 1) w := by
  have hu := underUs
  rw [run_sliceAt_slice _ _ _ _ _ _ hu, run_slice_l _ _ _ _ _ hu _ _ (by omega) (by omega), elemUs, sizeU]
  rfl

/-- The first numbers that a slice reads as. -/
theorem UReads.head {w : World} {a : Option Addr} {cap : Nat} {l : List (BitVec 32)} {M off : Nat} (h : UReads w (.slice a l.length cap) l M off) (n : Nat) (h2 : n ≤ l.length) :
    sliced a 0 n cap 1 = .slice a (l.take n).length cap ∧ UReads w (.slice a (l.take n).length cap) (l.take n) M off := by
  have hlen : (l.take n).length = n := by simp; omega
  rcases h with ⟨hv, rfl⟩ | ⟨ad, c, hv, hc, hb, hcell⟩
  · simp at h2
    subst h2
    simp at hv
    obtain ⟨rfl, rfl⟩ := hv
    exact ⟨by simp [sliced], .inl ⟨by simp, by simp⟩⟩
  · simp at hv
    obtain ⟨rfl, rfl⟩ := hv
    refine ⟨?_, .inr ⟨ad, cap, rfl, by omega, fun hne => hb (fun e => hne (by simp [e])), fun i c hi => ?_⟩⟩
    · rw [hlen]; unfold sliced; split
      · simp
      · simp [Addr.add]
    · rw [List.getElem?_take] at hi
      split at hi
      · exact hcell i c hi
      · cases hi

/-- The numbers behind some. -/
theorem UReads.tail {w : World} {a : Option Addr} {cap : Nat} {l : List (BitVec 32)} {M off : Nat} (h : UReads w (.slice a l.length cap) l M off) (n : Nat) (h2 : n ≤ l.length) :
    ∃ p c, sliced a n l.length cap 1 = .slice p (l.drop n).length c ∧ UReads w (.slice p (l.drop n).length c) (l.drop n) M (off + n) := by
  have hlen : (l.drop n).length = l.length - n := by simp
  refine ⟨if cap = n then a else a.map (·.add (n * 1)), cap - n, by unfold sliced; rw [hlen], ?_⟩
  rw [hlen]
  rcases h with ⟨hv, rfl⟩ | ⟨ad, c, hv, hc, hb, hcell⟩
  · simp at h2
    subst h2
    simp at hv
    obtain ⟨rfl, rfl⟩ := hv
    exact .inl ⟨by simp, by simp⟩
  · simp at hv
    obtain ⟨rfl, rfl⟩ := hv
    by_cases e : cap = n
    · have h0 : l.drop n = [] := List.eq_nil_of_length_eq_zero (by rw [hlen]; omega)
      rw [if_pos e, h0]
      refine .inr ⟨ad, cap - n, by simp; omega, by simp, fun hh => absurd rfl hh, fun i c hi => by simp at hi⟩
    · rw [if_neg e]
      refine .inr ⟨ad.add (n * 1), cap - n, by rw [hlen]; rfl, by rw [hlen]; omega, ?_, ?_⟩
      · intro hne
        have hl : l ≠ [] := by intro e'; subst e'; simp at hne
        rw [hb hl, Addr.add_off, Nat.mul_one]
      · intro i c hi
        rw [List.getElem?_drop] at hi
        have := hcell _ c hi
        rwa [Nat.add_assoc]

/-- What is appended to a row of one's own: the row stands where it stood, or is new. -/
theorem run_append_u (w : World) (base : Nat) (ty : TypeId) (v : Value) (l : List (BitVec 32)) (hown : w.ownsRow base 22 1 v l.length (l.map uv))
    (u : Value) (m : List (BitVec 32)) (M off : Nat) (hr : UReads w u m M off) (hlen : l.length + m.length ≤ 1000000) (hbase : base ≤ w.heap.size) :
    ∃ v' w', (Builtin.append_ #[23, 23] ty #[v, u]).run Try.prog w = .ok v' w' ∧ w'.ownsRow base 22 1 v' (l ++ m).length ((l ++ m).map uv) ∧ Keeps v.ownBlock.toList w w' ∧
      (v'.ownBlock = v.ownBlock ∨ ∀ k, v'.ownBlock = some k → w.heap.size ≤ k) := by
  obtain ⟨i0, hi, hz0, hz1, hz2⟩ := info_parts infoU
  rcases hr with ⟨rfl, rfl⟩ | ⟨ad, cap, rfl, hcap, hb, hc⟩
  · have := run_append_owned_none (P := Try.prog) (w := w) base 23 ty 22 i0 1 Try.underlying23 hi v l.length (l.map uv) (by rw [← hz1] at hown ⊢; exact hown)
    refine ⟨v, w, this, by rw [List.append_nil]; exact hown, Keeps.refl _ _, .inl rfl⟩
  · have hnews : ∀ j y, (m.map uv)[j]? = some y → w.cell? (ad.add j) = some y := by
      intro j y hy
      rw [List.getElem?_map] at hy
      obtain ⟨c, h1, rfl⟩ := Option.map_eq_some_iff.1 hy
      rw [hb (by intro e; simp [e] at h1), Addr.add_off]
      exact hc j c h1
    have main := fun b hown hbase => run_append_own (P := Try.prog) w b 23 ty 22 i0 (.int .u32 0) 1 4 Try.underlying23 hi hz0 hz1 hz2 rfl (by decide) v l.length (l.map uv) hown ad m.length cap (m.map uv) (by simp) hnews (one_uvs _) (by unfold maxLen; omega) (by omega) hbase
    have hm0 := hown
    obtain ⟨hl, h2⟩ := hm0
    rcases h2 with ⟨rfl, hl0⟩ | ⟨g, cp, cur, rfl, hbg, hg, hnc, hcm, hcs, htk⟩
    · obtain ⟨v', w', hrun, hown', hg, _⟩ := main w.heap.size ⟨hl, .inl ⟨rfl, hl0⟩⟩ (Nat.le_refl _)
      refine ⟨v', w', hrun, ?_, Keeps.grown hg (fun k hk => by cases hk), .inr fun k hk => ?_⟩
      · rw [List.length_append, List.map_append]
        refine ⟨hown'.1, ?_⟩
        rcases hown'.2 with h0 | ⟨g2, c2, cur2, hv2, hb2, r⟩
        · exact .inl h0
        · exact .inr ⟨g2, c2, cur2, hv2, by omega, r⟩
      · exact (hown'.lt k hk).1
    · obtain ⟨v', w', hrun, hown', hgr, _⟩ := main base hown hbase
      refine ⟨v', w', hrun, by rw [List.length_append, List.map_append]; exact hown', Keeps.grown hgr (fun k hk => .inl (by simp [hk])), ?_⟩
      by_cases hroom : l.length + m.length ≤ cp
      · have hfit : l.length * i0.size + (m.map uv).length ≤ cur.size := by rw [hz1, hcs]; simp; omega
        have hr2 := run_append_room (P := Try.prog) w 23 ty 22 i0 Try.underlying23 hi g l.length cp cur hg ad m.length cap (m.map uv) (by rw [hz1]; simp) hnews (one_uvs _) hroom hfit
        rw [hrun] at hr2
        injection hr2 with e1 e2
        exact .inl (by rw [e1]; rfl)
      · have holds : ∀ j u, (l.map uv)[j]? = some u → w.cell? ((⟨g, 0, none⟩ : Addr).add j) = some u := hown.cells (g := g) rfl
        have hr2 := run_append_grow (P := Try.prog) w 23 ty 22 i0 (.int .u32 0) Try.underlying23 hi hz0 ⟨g, 0, none⟩ l.length cp (l.map uv) (by rw [hz1]; simp) holds ad m.length cap (m.map uv) (by rw [hz1]; simp) hnews (by omega) (by omega) (growslice_fits (by omega) (by rw [hz2]; omega))
        rw [hrun] at hr2
        injection hr2 with e1 e2
        exact .inr fun k hk => by rw [e1] at hk; simp [Value.ownBlock] at hk; omega

theorem wpList_append_u {ops : Array Oper} {rest : List Oper} {o : Oper} {a : Act} {w : World} {Q : Exit → Act → World → Prop} (hgd : o.guard = none) (s x : Operand)
    (ho : o.op = .call { callee := .builtin .append, args := #[s, x], argTypes := #[23, 23] }) (base : Nat) (v : Value) (l : List (BitVec 32)) (hs : a.eval s = v) (hown : w.ownsRow base 22 1 v l.length (l.map uv))
    (u : Value) (m : List (BitVec 32)) (M off : Nat) (hx : a.eval x = u) (hr : UReads w u m M off) (hlen : l.length + m.length ≤ 1000000) (hbase : base ≤ w.heap.size)
    (h : ∀ v' w', w'.ownsRow base 22 1 v' (l ++ m).length ((l ++ m).map uv) → Keeps v.ownBlock.toList w w' → (v'.ownBlock = v.ownBlock ∨ ∀ k, v'.ownBlock = some k → w.heap.size ≤ k) → wpList Try.prog ops Q rest (a.put o.dst v') w') : wpList Try.prog ops Q (o :: rest) a w := by
  obtain ⟨v', w', hrun, h1, h2, h3⟩ := run_append_u w base o.type v l hown u m M off hr hlen hbase
  refine wpList_plain hgd fun K hK => ?_
  unfold Oper.wp
  simp [execOp, ho, resolve, invoke, builtin, hs, hx, hrun, Result.andThen]
  exact hK _ _ (h v' w' h1 h2 h3)

/-! ### numbers that came in -/
theorem word_of_wf {n : Int} (h : (Lit.int .u32 n).wf = true) : ∃ c : BitVec 32, n = (c.toNat : Int) := by
  have hb := bounds_u32 h
  exact ⟨BitVec.ofNat 32 n.toNat, by rw [BitVec.toNat_ofNat, Nat.mod_eq_of_lt (by omega)]; omega⟩

theorem words_of {w : World} {ad : Addr} {len : Nat} (h : ∀ i, i < len → ∃ n : Int, w.cell? (ad.add i) = some (.int .u32 n) ∧ (Lit.int .u32 n).wf = true) :
    ∃ l : List (BitVec 32), l.length = len ∧ ∀ i c, l[i]? = some c → w.cell? (ad.add i) = some (uv c) := by
  induction len with
  | zero => exact ⟨[], rfl, fun i c hc => by simp at hc⟩
  | succ k ih =>
    obtain ⟨l, hl, hc⟩ := ih (fun i hi => h i (by omega))
    obtain ⟨n, hn, hwf⟩ := h k (by omega)
    obtain ⟨c, rfl⟩ := word_of_wf hwf
    refine ⟨l ++ [c], by simp [hl], fun i x hx => ?_⟩
    by_cases hi : i < l.length
    · rw [List.getElem?_append_left hi] at hx; exact hc i x hx
    · have hil : i = l.length := by
        have := (List.getElem?_eq_some_iff.1 hx).1
        simp at this; omega
      subst hil
      simp at hx
      subst hx
      rw [hl]; exact hn

/-- A list of numbers that came in. -/
theorem words_read {H : Type} {enc : TypeId × Value → H} {W : World} {b0 fuel : Nat} {spare : Nat → Bool} {held : Bool} {v : Value} {x : DataW H × List MemPlace} (h : DataW.trod enc Try.prog W b0 spare held fuel 23 [v] = some x) :
    ∃ l M off, UReads W v l M off ∧ l.length ≤ maxLen := by
  rcases open_ints Try.underlying23 Try.underlying22 (by kernel_rfl) h with ⟨hcs, _⟩ | ⟨a, len, cap, zs, hcs, _, hl, hm, hz, _, hcell, hwz⟩
  · obtain rfl : v = .slice none 0 0 := by simpa using hcs
    exact ⟨[], 0, 0, UReads.nil _ _ _, by simp⟩
  · obtain rfl : v = .slice (some a) len cap := by simpa using hcs
    have hzl : len ≤ zs.length := by rw [hz]; split <;> omega
    obtain ⟨l, hll, hlc⟩ := words_of (w := W) (ad := a) (len := len) (fun i hi => ⟨_, hcell i (by omega), hwz _ (by rw [List.getD_eq_getElem?_getD, List.getElem?_eq_getElem (by omega)]; exact List.getElem_mem _)⟩)
    obtain ⟨b, off, spot⟩ := a
    have hs : l ≠ [] → spot = none := by
      intro hne
      have h0 : 0 < l.length := List.length_pos_iff.2 hne
      have h0 := hlc 0 l[0] (List.getElem?_eq_getElem h0)
      cases spot with
      | none => rfl
      | some x =>
        exfalso
        simp only [Addr.add, if_true] at h0
        unfold World.cell? at h0
        split at h0
        · simp at h0
        · cases h0
    refine ⟨l, b, off, .inr ⟨⟨b, off, spot⟩, cap, by rw [hll], by omega, fun hne => by rw [hs hne], fun i c hi => ?_⟩, by omega⟩
    have := hlc i c hi
    rw [hs (by intro e; simp [e] at hi), Addr.add_off] at this
    exact this

/-! ### where a stack stands -/
end Go.Proofs.Ytfnjjanknfmibaa
