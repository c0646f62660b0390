/-
  Sectors opened in turn, as plain mathematics: which one is picked, and how the wears spread.
-/
import Derived.Test.YtlnmbfddhdjioaaGreatRingEnd
namespace Go.Proofs.YtlnmbfddhdjioaaGreat
open Go.RowKit

/-- How wears spread when one of the least worn sectors, but the newest one, is worn. -/
theorem wears_step {R : Nat → Prop} (w w' : Nat → Int) (live : Nat → Prop) (now : Int) (p : Nat) (d : Int) (hd : d = 0 ∨ d = 1) (hlive : live p → d = 1)
    (A : ∀ x y, R x → R y → (x : Int) ≠ now → w x ≤ w y + 1)
    (B : ∀ x y, R x → R y → (x : Int) = now → w x ≤ w y + 1 ∨ (w x ≤ w y + 2 ∧ live y ∧ ∀ z, R z → z ≠ y → w x ≤ w z + 1))
    (hp : R p) (hpn : (p : Int) ≠ now) (hmin : ∀ z, R z → (z : Int) ≠ now → w p ≤ w z) (hw : w' p = w p + d) (hwo : ∀ k, R k → k ≠ p → w' k = w k) :
    (∀ x y, R x → R y → x ≠ p → w' x ≤ w' y + 1) ∧
    (∀ y, R y → w' p ≤ w' y + 1 ∨ (w' p ≤ w' y + 2 ∧ (y : Int) = now ∧ ∀ z, R z → z ≠ y → w' p ≤ w' z + 1)) := by
  constructor
  · intro x y hx hy hxp
    have hy' : w y ≤ w' y := by
      by_cases e : y = p
      · subst e; omega
      · rw [hwo y hy e]; exact Int.le_refl _
    rw [hwo x hx hxp]
    by_cases hn : (x : Int) = now
    · rcases B x y hx hy hn with h | ⟨h2, ly, hz⟩
      · omega
      · by_cases e : y = p
        · subst e
          have := hlive ly
          omega
        · by_cases e2 : y = x
          · subst e2; omega
          · have h1 := hz p hp (fun q => e q.symm)
            have h3 := hmin y hy (fun q => e2 (by omega))
            omega
    · have := A x y hx hy hn
      omega
  · intro y hy
    by_cases e : y = p
    · subst e; exact .inl (by omega)
    · rw [hwo y hy e]
      by_cases hn : (y : Int) = now
      · refine .inr ⟨by have := A p y hp hy hpn; omega, hn, fun z hz hzy => ?_⟩
        by_cases e2 : z = p
        · subst e2; omega
        · rw [hwo z hz e2]
          have := hmin z hz (fun q => hzy (by omega))
          omega
      · have := hmin y hy hn
        exact .inl (by omega)

/-- A ring of n sectors from first on, after i turns; now is the newest one. -/
structure Turned (N first n : Nat) (now : Int) (i : Nat) (s : FS) : Prop where
  len : s.bs.length = 256 * N
  wl : s.wear.length = N
  down : s.down = false
  armed : s.armed = false
  fit : first + n ≤ N
  wears : ∀ x ∈ s.wear, 0 ≤ x ∧ x ≤ i
  kinds : ∀ k, first ≤ k → k < first + n → hdrL (sec s.bs k) = (0, 0#32) ∨ ∃ x, hdrL (sec s.bs k) = (1, x) ∧ ((k : Int) ≠ now → x.toNat < i)
  start : i = 0 → now = -1
  live : 0 < i → ∃ K : Nat, now = (K : Int) ∧ first ≤ K ∧ K < first + n ∧ hdrL (sec s.bs K) = (1, BitVec.ofNat 32 i)
  A : ∀ x y : Nat, (first ≤ x ∧ x < first + n) → (first ≤ y ∧ y < first + n) → (x : Int) ≠ now → s.wearOf x ≤ s.wearOf y + 1
  B : ∀ x y : Nat, (first ≤ x ∧ x < first + n) → (first ≤ y ∧ y < first + n) → (x : Int) = now → s.wearOf x ≤ s.wearOf y + 1 ∨
    (s.wearOf x ≤ s.wearOf y + 2 ∧ (hdrL (sec s.bs y)).1 ≠ 0 ∧ ∀ z : Nat, (first ≤ z ∧ z < first + n) → z ≠ y → s.wearOf x ≤ s.wearOf z + 1)

theorem Turned.new (N first n : Nat) (hf : first + n ≤ N) : Turned N first n (-1) 0 (FS.new N) := by
  have h := newN N
  have hw : ∀ k : Nat, (FS.new N).wearOf k = 0 := fun k => by
    unfold FS.wearOf
    split
    · rw [h.wear, Int.toNat_natCast, List.getD_eq_getElem?_getD, List.getElem?_replicate]
      split <;> rfl
    · rfl
  refine { len := by rw [h.len]; omega, wl := by rw [h.wear, List.length_replicate], down := h.down, armed := h.armed, fit := hf, wears := fun x hx => ?_, kinds := fun k _ _ => .inl (hdrL_blank (blank_sec h.all k)), start := fun _ => rfl, live := fun h => by omega, A := fun x y _ _ _ => by rw [hw, hw]; omega, B := fun x y _ _ e => by omega }
  rw [h.wear] at hx
  rw [List.eq_of_mem_replicate hx]
  exact ⟨Int.le_refl _, by omega⟩

theorem wearOf_nat (s : FS) (k : Nat) (hk : k < s.wear.length) : s.wearOf k = s.wear.getD k 0 := by
  unfold FS.wearOf
  rw [if_pos (by omega), Int.toNat_natCast]

theorem Turned.spread {N first n : Nat} {now : Int} {i : Nat} {s : FS} (h : Turned N first n now i s) (x y : Nat) (hx : first ≤ x ∧ x < first + n) (hy : first ≤ y ∧ y < first + n) : s.wearOf x ≤ s.wearOf y + 2 := by
  by_cases e : (x : Int) = now
  · rcases h.B x y hx hy e with q | q
    · omega
    · exact q.1
  · have := h.A x y hx hy e
    omega

theorem Turned.bound {N first n : Nat} {now : Int} {i : Nat} {s : FS} (h : Turned N first n now i s) (k : Nat) : 0 ≤ s.wearOf k ∧ s.wearOf k ≤ i := by
  by_cases hk : k < s.wear.length
  · rw [wearOf_nat s k hk, List.getD_eq_getElem?_getD, List.getElem?_eq_getElem hk]
    exact h.wears _ (List.getElem_mem _)
  · unfold FS.wearOf
    rw [if_neg (by omega)]
    exact ⟨Int.le_refl _, by omega⟩

/-- Which sector a turn takes. -/
theorem pick_turn (s : FS) (first n : Nat) (now : Int) (hn : 2 ≤ n) :
    ∃ p : Nat, first ≤ p ∧ p < first + n ∧ (p : Int) ≠ now ∧ s.pick now (lookL s.bs first n) = some (hdrAt s.bs p) ∧ ∀ z : Nat, (first ≤ z ∧ z < first + n) → (z : Int) ≠ now → s.wearOf p ≤ s.wearOf z := by
  have hb := pick_best s now (lookL s.bs first n)
  cases hp : s.pick now (lookL s.bs first n) with
  | none =>
    rw [hp] at hb
    exfalso
    have h1 := hb (hdrAt s.bs first) (lookL_mem.2 ⟨first, by omega, by omega, rfl⟩)
    have h2 := hb (hdrAt s.bs (first + 1)) (lookL_mem.2 ⟨first + 1, by omega, by omega, rfl⟩)
    unfold otherH hdrAt hdrOf at h1 h2
    simp at h1 h2
    omega
  | some c =>
    rw [hp] at hb
    obtain ⟨hc, ho, hm⟩ := hb
    obtain ⟨p, h1, h2, rfl⟩ := lookL_mem.1 hc
    refine ⟨p, h1, h2, ?_, rfl, fun z hz hzn => ?_⟩
    · unfold otherH hdrAt hdrOf at ho
      simpa using ho
    · have := hm (hdrAt s.bs z) (lookL_mem.2 ⟨z, hz.1, hz.2, rfl⟩) (by unfold otherH hdrAt hdrOf; simpa using hzn)
      exact this

theorem num_ofNat (i : Nat) (hi : i < 100000) : (BitVec.ofNat 32 i).toNat = i := by
  rw [BitVec.toNat_ofNat, Nat.mod_eq_of_lt (by omega)]

/-- Clear, of the sector that a turn takes: free, as it was, or worn once more. -/
theorem Turned.clear {N first n : Nat} {now : Int} {i : Nat} {s : FS} (h : Turned N first n now i s) (p : Nat) (h2 : p < first + n) :
    ∃ (s1 : FS) (d : Int), s.clear p = (s1, 0) ∧ (d = 0 ∨ d = 1) ∧ ((hdrL (sec s.bs p)).1 ≠ 0 → d = 1) ∧ s1.bs.length = 256 * N ∧ s1.wear.length = N ∧ s1.down = false ∧ s1.armed = false ∧ blank (sec s1.bs p) ∧
      (∀ k, k ≠ p → sec s1.bs k = sec s.bs k) ∧ s1.wearOf p = s.wearOf p + d ∧ (∀ k : Nat, k ≠ p → s1.wearOf k = s.wearOf k) ∧ ∀ x ∈ s1.wear, 0 ≤ x ∧ x ≤ i + 1 := by
  have hf := h.fit
  have hpl : p < s.wear.length := by rw [h.wl]; omega
  by_cases hk : (hdrL (sec s.bs p)).1 = 0
  · exact ⟨s, 0, clear_free p hpl h.down hk, .inl rfl, fun e => absurd hk e, h.len, h.wl, h.down, h.armed, hdrL_kind0 hk, fun _ _ => rfl, by omega, fun _ _ => rfl, fun x hx => by have := h.wears x hx; omega⟩
  · refine ⟨s.cleared p, 1, clear_dirty p hpl h.down h.armed hk, .inr rfl, fun _ => rfl, by rw [cleared_len]; exact h.len, by show (s.wear.set _ _).length = N; rw [List.length_set]; exact h.wl, h.down, h.armed, cleared_same s p, fun k hkp => cleared_other s p k hkp, ?_, fun k hkp => ?_, fun x hx => ?_⟩
    · have hl : p < (s.cleared p).wear.length := by show p < (s.wear.set _ _).length; rw [List.length_set]; exact hpl
      rw [wearOf_nat _ _ hl, wearOf_nat _ _ hpl]
      show (s.wear.set p (s.wear.getD p 0 + 1)).getD p 0 = _
      rw [List.getD_eq_getElem?_getD, List.getElem?_set_self hpl]; rfl
    · unfold FS.wearOf
      have hl : (s.cleared p).wear.length = s.wear.length := List.length_set
      rw [hl]
      split
      · show (s.wear.set p (s.wear.getD p 0 + 1)).getD _ 0 = _
        rw [Int.toNat_natCast, List.getD_eq_getElem?_getD, List.getElem?_set_ne (fun e => hkp e.symm), ← List.getD_eq_getElem?_getD]
      · rfl
    · have hx' : x ∈ s.wear.set p (s.wear.getD p 0 + 1) := hx
      rcases List.mem_or_eq_of_mem_set hx' with hx' | rfl
      · have := h.wears x hx'; omega
      · have := h.bound p
        rw [wearOf_nat _ _ hpl] at this
        omega

/-- A turn. -/
theorem Turned.step {N first n : Nat} {now : Int} {i : Nat} {s : FS} (h : Turned N first n now i s) (hi : i < 1000) (p : Nat) (h1 : first ≤ p) (h2 : p < first + n) (hpn : (p : Int) ≠ now)
    (hmin : ∀ z : Nat, (first ≤ z ∧ z < first + n) → (z : Int) ≠ now → s.wearOf p ≤ s.wearOf z) :
    ∃ s1 s2 : FS, s.clear p = (s1, 0) ∧ s1.opened p (BitVec.ofNat 32 (i + 1)) = (s2, 0) ∧ Turned N first n p (i + 1) s2 := by
  have hf := h.fit
  obtain ⟨s1, d, hc, hd, hdl, l1, wl1, d1, a1, b1, o1, wp, wo, wb⟩ := h.clear p h2
  have hx := num_ofNat (i + 1) (by omega)
  have hop := opened_blank (s := s1) p (BitVec.ofNat 32 (i + 1)) (by rw [wl1]; omega) (by rw [l1, wl1]) d1 a1 (sec_room b1 (by rw [l1]; omega) 20 (by decide))
  obtain ⟨qa, qb⟩ := wears_step (R := fun k => first ≤ k ∧ k < first + n) (fun k : Nat => s.wearOf k) (fun k : Nat => s1.wearOf k) (fun k => (hdrL (sec s.bs k)).1 ≠ 0) now p d hd hdl h.A h.B ⟨h1, h2⟩ hpn hmin wp (fun k _ hk => wo k hk)
  have hs : ∀ k, k ≠ p → sec (s1.withHead p (BitVec.ofNat 32 (i + 1))).bs k = sec s.bs k := fun k hk => by
    rw [withHead_other _ _ _ _ (by rw [l1]; omega) hk, o1 k hk]
  have hsp : hdrL (sec (s1.withHead p (BitVec.ofNat 32 (i + 1))).bs p) = (1, BitVec.ofNat 32 (i + 1)) := withHead_same _ _ _ (by rw [l1]; omega)
  refine ⟨s1, s1.withHead p (BitVec.ofNat 32 (i + 1)), hc, hop, ?_⟩
  refine { len := by rw [withHead_len _ _ _ (by rw [l1]; omega)]; exact l1, wl := wl1, down := d1, armed := a1, fit := hf, wears := wb, kinds := fun k k1 k2 => ?_, start := fun e => by omega, live := fun _ => ⟨p, rfl, h1, h2, hsp⟩, A := fun x y rx ry e => qa x y rx ry (fun q => e (by rw [q])), B := fun x y rx ry e => ?_ }
  · by_cases e : k = p
    · subst e
      exact .inr ⟨_, hsp, fun q => absurd rfl q⟩
    · rw [hs k e]
      rcases h.kinds k k1 k2 with q | ⟨x, q, hlt⟩
      · exact .inl q
      · refine .inr ⟨x, q, fun _ => ?_⟩
        by_cases en : (k : Int) = now
        · have hi0 : 0 < i := by
            rcases Nat.eq_zero_or_pos i with z | z
            · have := h.start z; omega
            · exact z
          obtain ⟨K, hK, _, _, hKh⟩ := h.live hi0
          obtain rfl : k = K := by omega
          rw [hKh] at q
          have : x = BitVec.ofNat 32 i := by
            have := congrArg Prod.snd q
            exact this.symm
          rw [this, num_ofNat i (by omega)]
          omega
        · have := hlt en
          omega
  · obtain rfl : x = p := by omega
    rcases qb y ry with q | ⟨q1, q2, q3⟩
    · exact .inl q
    · refine .inr ⟨q1, ?_, fun z rz => q3 z rz⟩
      have hi0 : 0 < i := by
        rcases Nat.eq_zero_or_pos i with z | z
        · have := h.start z; omega
        · exact z
      obtain ⟨K, hK, _, _, hKh⟩ := h.live hi0
      obtain rfl : y = K := by omega
      have hyp : y ≠ x := fun e => hpn (by omega)
      rw [hs y hyp, hKh]
      show (1 : UInt8) ≠ 0
      decide

/-- Which header is the newest one. -/
theorem Turned.newest {N first n : Nat} {now : Int} {i : Nat} {s : FS} (h : Turned N first n now i s) (h0 : 0 < i) (hi : i < 1000) : newestL (lookL s.bs first n) = some ⟨now, 1, BitVec.ofNat 32 i⟩ := by
  obtain ⟨K, hK, k1, k2, hKh⟩ := h.live h0
  have hb := newest_best (lookL s.bs first n)
  have hmem : hdrAt s.bs K ∈ lookL s.bs first n := lookL_mem.2 ⟨K, k1, k2, rfl⟩
  have hKa : hdrAt s.bs K = ⟨now, 1, BitVec.ofNat 32 i⟩ := by unfold hdrAt hdrOf; rw [hKh, hK]
  cases hp : newestL (lookL s.bs first n) with
  | none =>
    rw [hp] at hb
    have := hb _ hmem
    rw [hKa] at this
    cases this
  | some c =>
    rw [hp] at hb
    obtain ⟨hc, hl, hm⟩ := hb
    obtain ⟨k, j1, j2, rfl⟩ := lookL_mem.1 hc
    have h3 := hm _ hmem (by rw [hKa]; rfl)
    rw [hKa] at h3
    simp only [num_ofNat i (by omega)] at h3
    by_cases e : (k : Int) = now
    · obtain rfl : k = K := by omega
      rw [hKa]
    · exfalso
      rcases h.kinds k j1 j2 with q | ⟨x, q, hlt⟩
      · unfold liveH hdrAt hdrOf at hl
        rw [q] at hl
        cases hl
      · have := hlt e
        have hx : (hdrAt s.bs k).num = x := by unfold hdrAt hdrOf; rw [q]
        rw [hx] at h3
        omega
end Go.Proofs.YtlnmbfddhdjioaaGreat
