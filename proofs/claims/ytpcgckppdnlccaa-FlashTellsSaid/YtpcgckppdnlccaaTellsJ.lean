/-
  FlashTells: operations that came in; how often sectors are erased.
-/
import Derived.Test.YtpcgckppdnlccaaTellsI
import Derived.Test.YtpcgckppdnlccaaReadPut
namespace Go.Proofs.Ytpcgckppdnlccaa
open Go.RowKit Go.Deep Go.ChangeShapes Go.WideShapes

structure OpD where
  d : Int
  a : Int
  n : Int
  v : Value
  b : List UInt8
  M : Nat

/-- An operation in memory: its bytes lie below base. -/
structure OpD.ok (p : OpD) (w : World) (base : Nat) : Prop where
  d : 0 ≤ p.d ∧ p.d ≤ 255
  a : p.a ≤ 9223372036854775807
  n : p.n ≤ 9223372036854775807
  len : p.b.length ≤ maxLen
  reads : Reads w p.v p.b p.M
  low : p.b ≠ [] → p.M < base

theorem OpD.ok.keeps {p : OpD} {S : List Nat} {w w' : World} {base : Nat} (h : p.ok w base) (hk : Keeps S w w') (hS : ∀ x ∈ S, base ≤ x) : p.ok w' base := by
  refine ⟨h.d, h.a, h.n, h.len, ?_, h.low⟩
  by_cases hb : p.b = []
  · have := h.reads
    rw [hb] at this ⊢
    rcases this with q | ⟨ad, cap, hv, hc, _, hr⟩
    · exact .inl q
    · exact .inr ⟨ad, cap, hv, hc, fun h => absurd rfl h, fun i c hi => by simp at hi⟩
  · exact h.reads.keeps hk (fun hm => by have := hS _ hm; have := h.low hb; omega)

/-- The cells of the i-th operation. -/
def OpCells (w : World) (ad : Addr) (i : Nat) (p : OpD) : Prop :=
  w.cell? (ad.add (i * 4)) = some (.int .u8 p.d) ∧ w.cell? (ad.add (i * 4 + 1)) = some (.int .i64 p.a) ∧ w.cell? (ad.add (i * 4 + 2)) = some (.int .i64 p.n) ∧ w.cell? (ad.add (i * 4 + 3)) = some p.v

def OpsAt (w : World) (base : Nat) (v : Value) (ps : List OpD) : Prop :=
  (v = .slice none 0 0 ∧ ps = []) ∨
  ∃ ad cap, v = .slice (some ad) ps.length cap ∧ ps.length ≤ cap ∧ cap ≤ maxLen ∧ ∀ i p, ps[i]? = some p → p.ok w base ∧ ad.block < base ∧ OpCells w ad i p

section
variable {H : Type} {enc : TypeId × Value → H} {W : World} {b0 : Nat} {spare : Nat → Bool} {held : Bool}

theorem ops_read {fuel : Nat} {v : Value} {x : DataW H × List MemPlace} (h : DataW.trod enc Try.prog W b0 spare held fuel 22 [v] = some x) : ∃ ps, OpsAt W W.heap.size v ps := by
  rcases structs_read Try.underlying22 Try.underlying33 (by kernel_rfl) (by kernel_rfl) h with rfl | ⟨a, len, cap, rfl, hl, hm, hf⟩
  · exact ⟨[], .inl ⟨rfl, rfl⟩⟩
  · have each : ∀ i, i < len → ∃ p : OpD, p.ok W W.heap.size ∧ a.block < W.heap.size ∧ OpCells W a i p := by
      intro i hi
      obtain ⟨u0, y0, n0, c0, t0⟩ := hf i hi 0 _ rfl
      obtain ⟨u1, y1, n1, c1, t1⟩ := hf i hi 1 _ rfl
      obtain ⟨u2, y2, n2, c2, t2⟩ := hf i hi 2 _ rfl
      obtain ⟨u3, y3, n3, c3, t3⟩ := hf i hi 3 _ rfl
      obtain ⟨d, hd, _, wd⟩ := DataW.trod_int Try.underlying5 t0
      obtain ⟨p, hp, _, wp⟩ := DataW.trod_int Try.underlying3 t1
      obtain ⟨n, hn, _, wn⟩ := DataW.trod_int Try.underlying3 t2
      simp at hd hp hn
      subst hd hp hn
      obtain ⟨l, M, hr, hll, hM⟩ := bytes_read t3
      have hb := World.block_lt_of_cell? W _ c1
      rw [Addr.add_block] at hb
      exact ⟨⟨d, p, n, u3, l, M⟩, ⟨bounds_u8 wd, (bounds_i64 wp).2, (bounds_i64 wn).2, hll, hr, hM⟩, hb, c0, c1, c2, c3⟩
    have list : ∀ k, k ≤ len → ∃ ps : List OpD, ps.length = k ∧ ∀ i p, ps[i]? = some p → p.ok W W.heap.size ∧ a.block < W.heap.size ∧ OpCells W a i p := by
      intro k
      induction k with
      | zero => intro _; exact ⟨[], rfl, fun i p hp => by simp at hp⟩
      | succ k ih =>
        intro hk
        obtain ⟨ps, hps, hall⟩ := ih (by omega)
        obtain ⟨p, hp⟩ := each k (by omega)
        refine ⟨ps ++ [p], by simp [hps], fun i x hx => ?_⟩
        by_cases hi : i < ps.length
        · rw [List.getElem?_append_left hi] at hx; exact hall i x hx
        · have hil : i = ps.length := by
            have := (List.getElem?_eq_some_iff.1 hx).1
            simp at this; omega
          subst hil
          simp at hx
          subst hx
          rw [hps]; exact hp
    obtain ⟨ps, hps, hall⟩ := list len (Nat.le_refl _)
    exact ⟨ps, .inr ⟨a, cap, by rw [hps], by omega, hm, hall⟩⟩
end

/-- No sector was erased more than K times. -/
def WearB (s : FS) (K : Nat) : Prop := ∀ x ∈ s.wear, 0 ≤ x ∧ x ≤ (K : Int)

theorem let_wear (s : FS) (a n : Nat) (g : UInt8 → Nat → UInt8 → UInt8) : (s.let a n g).1.wear = s.wear := by
  unfold FS.let; split <;> rfl

theorem program_wear (s : FS) (a : Int) (b : List UInt8) : (s.program a b).1.wear = s.wear := by
  unfold FS.program; split
  · rfl
  · exact let_wear _ _ _ _

theorem WearB.mono {s : FS} {K L : Nat} (h : WearB s K) (hl : K ≤ L) : WearB s L := fun x hx => ⟨(h x hx).1, by have := (h x hx).2; omega⟩

theorem WearB.erase {s : FS} {K : Nat} (h : WearB s K) (a : Int) : WearB (s.erase a).1 (K + 1) ∧ (s.erase a).1.wear.length = s.wear.length := by
  unfold FS.erase
  split
  · exact ⟨h.mono (by omega), rfl⟩
  · refine ⟨?_, by rw [let_wear]; simp⟩
    unfold WearB
    rw [let_wear]
    intro x hx
    rcases List.mem_or_eq_of_mem_set hx with g | g
    · have := h x g; omega
    · subst g
      by_cases hi : a.toNat < s.wear.length
      · have := h (s.wear.getD a.toNat 0) (by rw [List.getD_eq_getElem?_getD, List.getElem?_eq_getElem hi]; exact List.getElem_mem _)
        omega
      · rw [List.getD_eq_getElem?_getD, List.getElem?_eq_none (by omega)]; simp; omega

theorem WearB.op {s : FS} {K : Nat} (h : WearB s K) (d a : Int) (l : List UInt8) : WearB (s.op d a l) (K + 1) ∧ (s.op d a l).wear.length = s.wear.length := by
  have h1 := h.mono (show K ≤ K + 1 by omega)
  unfold FS.op
  split
  · unfold WearB; rw [program_wear]; exact ⟨h1, rfl⟩
  · split
    · exact h.erase a
    · split
      · split
        · exact ⟨h1, rfl⟩
        · exact ⟨h1, rfl⟩
      · split
        · exact ⟨h1, rfl⟩
        · exact ⟨h1, rfl⟩
end Go.Proofs.Ytpcgckppdnlccaa
