/-
  CfgCrash: what a change leaves, torn or not (plain mathematics).
-/
import Derived.Test.YtcmjecnbmdhjlaaGreatCfgMean
namespace Go.Proofs.YtcmjecnbmdhjlaaGreat

/-! ### wears stay near -/
structure Near (s : FS) (first n k : Nat) (c : Int) : Prop where
  c0 : 0 ≤ c
  a : ∀ x y : Nat, (first ≤ x ∧ x < first + n) → (first ≤ y ∧ y < first + n) → x ≠ k → s.wearOf x ≤ s.wearOf y + 1 + c
  b : (∀ y : Nat, (first ≤ y ∧ y < first + n) → s.wearOf k ≤ s.wearOf y + 1 + c) ∨
    ∃ z : Nat, (first ≤ z ∧ z < first + n) ∧ z ≠ k ∧ (hdrL (sec s.bs z)).1 ≠ 0 ∧ s.wearOf k ≤ s.wearOf z + 2 + c ∧ ∀ y : Nat, (first ≤ y ∧ y < first + n) → y ≠ z → s.wearOf k ≤ s.wearOf y + 1 + c

theorem Near.spread {s : FS} {first n k : Nat} {c : Int} (h : Near s first n k c) (x y : Nat) (hx : first ≤ x ∧ x < first + n) (hy : first ≤ y ∧ y < first + n) : s.wearOf x ≤ s.wearOf y + (2 + c) := by
  by_cases e : x = k
  · subst e
    rcases h.b with hb | ⟨z, hz, _, _, h2, h3⟩
    · have := hb y hy; omega
    · by_cases ey : y = z
      · subst ey; omega
      · have := h3 y hy ey; omega
  · have := h.a x y hx hy e; omega

theorem Near.more {s : FS} {first n k : Nat} {c : Int} (h : Near s first n k c) : Near s first n k (c + 1) :=
  ⟨by have := h.c0; omega, fun x y hx hy hk => by have := h.a x y hx hy hk; omega, .inl fun y hy => by
    rcases h.b with hb | ⟨z, hz, _, _, h2, h3⟩
    · have := hb y hy; omega
    · by_cases ey : y = z
      · subst ey; omega
      · have := h3 y hy ey; omega⟩

/-- The same wears, and the same other sectors. -/
theorem Near.same {s s' : FS} {first n k : Nat} {c : Int} (h : Near s first n k c) (hw : s'.wear = s.wear) (ho : ∀ j, j ≠ k → sec s'.bs j = sec s.bs j) : Near s' first n k c := by
  have e : ∀ x : Int, s'.wearOf x = s.wearOf x := fun x => by unfold FS.wearOf; rw [hw]
  refine ⟨h.c0, fun x y hx hy hk => by rw [e, e]; exact h.a x y hx hy hk, ?_⟩
  rcases h.b with hb | ⟨z, hz, hzk, hl, h2, h3⟩
  · exact .inl fun y hy => by rw [e, e]; exact hb y hy
  · exact .inr ⟨z, hz, hzk, by rw [ho z hzk]; exact hl, by rw [e, e]; exact h2, fun y hy hyz => by rw [e, e]; exact h3 y hy hyz⟩

theorem Near.up {s : FS} {first n k : Nat} {c : Int} (h : Near s first n k c) : Near s.up first n k c := h.same rfl fun _ _ => rfl
theorem Near.arm {s : FS} {first n k : Nat} {c : Int} (h : Near s first n k c) (j : Int) (m : List UInt8) : Near (s.arm j m) first n k c := h.same rfl fun _ _ => rfl

theorem Near.turned {N first n k i t : Nat} {es : List Ent} {s s' : FS} {p : Nat} {d e c : Int} (hc : Cfg N first n k i t es s) (h : Near s first n k c) (ht : TurnedTo s s' first n k p d e) : Near s' first n p c := by
  have hd := ht.d01
  have hkR : first ≤ k ∧ k < first + n := ⟨hc.top.1, hc.top.2.1⟩
  have hpR : first ≤ p ∧ p < first + n := ⟨ht.p1, ht.p2⟩
  have hc0 := h.c0
  refine ⟨hc0, fun x y hx hy hxp => ?_, ?_⟩
  · rw [ht.wo x hxp]
    have hyw : s.wearOf y ≤ s'.wearOf y := by
      by_cases ey : y = p
      · subst ey; rw [ht.wp]; omega
      · rw [ht.wo y ey]; exact Int.le_refl _
    by_cases ek : x = k
    · subst ek
      rcases h.b with hb | ⟨z, hz, hzk, hl, h2, h3⟩
      · have := hb y hy; omega
      · by_cases ey : y = z
        · subst ey
          by_cases e2 : s.wearOf x ≤ s.wearOf y + 1 + c
          · omega
          · -- y is the least of all others, and live
            have hpy : p = y := by
              refine Classical.byContradiction fun hne => ?_
              have h4 := h3 p hpR hne
              have h5 := ht.least y hz hzk
              omega
            subst hpy
            have := ht.live hl
            rw [ht.wp]; omega
        · have := h3 y hy ey; omega
    · have := h.a x y hx hy ek; omega
  · refine .inr ⟨k, hkR, fun e => ht.pk e.symm, ?_, ?_, fun y hy hyk => ?_⟩
    · rw [ht.others k (fun e => ht.pk e.symm), hc.top.2.2.1]; simp
    · rw [ht.wp, ht.wo k (fun e => ht.pk e.symm)]
      have := h.a p k hpR hkR ht.pk; omega
    · by_cases ey : y = p
      · subst ey; omega
      · rw [ht.wp, ht.wo y ey]
        have := ht.least y hy hyk; omega

theorem Near.torn {N first n k i t : Nat} {es : List Ent} {s s' : FS} {p : Nat} {d e c : Int} (hc : Cfg N first n k i t es s) (h : Near s first n k c) (ht : TurnedTo s s' first n k p d e) (k' : Nat) (hk' : k' = k ∨ k' = p) : Near s' first n k' (c + 1) := by
  have hd := ht.d01
  have hkR : first ≤ k ∧ k < first + n := ⟨hc.top.1, hc.top.2.1⟩
  have hpR : first ≤ p ∧ p < first + n := ⟨ht.p1, ht.p2⟩
  have up : ∀ y : Nat, s.wearOf y ≤ s'.wearOf y ∧ s'.wearOf y ≤ s.wearOf y + 1 := fun y => by
    by_cases ey : y = p
    · subst ey; rw [ht.wp]; omega
    · rw [ht.wo y ey]; omega
  have hs := h.spread
  have wk : s'.wearOf k = s.wearOf k := ht.wo k (fun e => ht.pk e.symm)
  rcases hk' with rfl | rfl
  · refine ⟨by have := h.c0; omega, fun x y hx hy hxk => ?_, .inl fun y hy => ?_⟩
    · have := h.a x y hx hy hxk; have := up x; have := up y; omega
    · have := hs k' y hkR hy; have := up y; omega
  · refine ⟨by have := h.c0; omega, fun x y hx hy hxp => ?_, .inl fun y hy => ?_⟩
    · rw [ht.wo x hxp]
      have := hs x y hx hy; have := up y; omega
    · have := h.a k' y hpR hy ht.pk; have := up y; have := up k'; omega




/-! ### the sum of wears -/
def sumR (s : FS) (first : Nat) : Nat → Int
  | 0 => 0
  | j + 1 => sumR s first j + s.wearOf ((first + j : Nat) : Int)

theorem sumR_same {s s' : FS} (h : ∀ x : Int, s'.wearOf x = s.wearOf x) (first : Nat) : ∀ j, sumR s' first j = sumR s first j
  | 0 => rfl
  | j + 1 => by unfold sumR; rw [h, sumR_same h first j]

theorem sumR_turned {s s' : FS} {first p : Nat} {d : Int} (wp : s'.wearOf p = s.wearOf p + d) (wo : ∀ j : Nat, j ≠ p → s'.wearOf j = s.wearOf j) : ∀ j, sumR s' first j = sumR s first j + (if first ≤ p ∧ p < first + j then d else 0)
  | 0 => by unfold sumR; rw [if_neg (by omega)]; rfl
  | j + 1 => by
    unfold sumR
    rw [sumR_turned wp wo j]
    by_cases e : first + j = p
    · rw [e, wp, if_neg (by omega), if_pos (by omega)]; omega
    · rw [wo _ e]
      by_cases e2 : first ≤ p ∧ p < first + j
      · rw [if_pos e2, if_pos (by omega)]; omega
      · rw [if_neg e2, if_neg (by omega)]; omega

/-! ### what a change leaves -/
/-- e: what is answered; es': the entries then; k', i': the newest head. -/
structure Left (N first n k i t : Nat) (c : Int) (es aft : List Ent) (s s' : FS) (e : Int) (k' i' : Nat) (es' : List Ent) : Prop where
  cfg : Cfg N first n k' i' (t + 1) es' s'.up
  down : s'.down = decide (e = 12)
  left : 0 ≤ s'.left
  what : (e = 0 ∧ es' = aft ∧ Near s'.up first n k' c ∧ i' ≤ i + 1) ∨
    (e ≠ 0 ∧ e ≠ 12 ∧ es' = es ∧ Near s'.up first n k' c ∧ i' = i ∧ k' = k) ∨
    (e = 12 ∧ Near s'.up first n k' (c + 1) ∧ ((es' = es ∧ k' = k ∧ i' = i) ∨ (es' = aft ∧ i' = i + 1) ∨ (es' = aft ∧ k' = k ∧ i' = i) ∨ (sumR s'.up first n = sumR s first n + 1 ∧ k' ≠ k)))

theorem Cfg.changed {N first n k i t : Nat} {c : Int} {es : List Ent} {s : FS} (h : Cfg N first n k i t es s) (hnr : Near s first n k c) (hi : i < 90000) (p : List UInt8) (hp : p.length ≤ 200) (es' : List Ent) (hg : Good es') (hes : toldL p es = es') (hw : wtL es' ≤ 236) :
    ∃ (s' : FS) (e : Int) (k' i' : Nat) (es1 : List Ent), s.change first n k (BitVec.ofNat 32 i) p es' = (s', e) ∧ Left N first n k i t c es es' s s' e k' i' es1 := by
  unfold FS.change
  rw [if_neg (by omega)]
  by_cases hfit : 256 < endK (sec s.bs k) + sizeN p.length
  · rw [if_pos hfit]
    have hx : BitVec.ofNat 32 i + 1#32 = BitVec.ofNat 32 (i + 1) := by
      apply BitVec.eq_of_toNat_eq
      rw [BitVec.toNat_add, num_ofNat i (by omega), num_ofNat (i + 1) (by omega)]
      show (i + 1) % 2 ^ 32 = _
      omega
    rw [hx]
    obtain ⟨s', e, q, d, h1, h2, h3⟩ := h.turn es' hg hw (BitVec.ofNat 32 (i + 1))
    have hwr : ∀ x ∈ s'.up.wear, 0 ≤ x ∧ x ≤ ((t + 1 : Nat) : Int) := fun x hx => by have := h2.bound t h.wears x hx; omega
    have hdn : s'.down = decide (e = 12) := by
      rcases h2.went.err with he | he
      · rw [(h2.went.ok he).1, he]; rfl
      · rw [(h2.went.torn he).1, he]; rfl
    have base : ∀ (k' : Nat) (y : BitVec 32), newestL (lookL s'.bs first n) = some ⟨(k' : Int), 1, y⟩ → Cfg N first n k' y.toNat (t + 1) (entB (sec s'.bs k')) s'.up := fun k' y hn =>
      ⟨by show s'.bs.length = _; rw [h2.went.len]; exact h.len, by show s'.wear.length = _; rw [h2.went.wl]; exact h.wl, rfl, Int.le_refl _, h.fit, h.n3, by
        show newestL (lookL s'.bs first n) = _
        rw [hn, BitVec.ofNat_toNat, BitVec.setWidth_eq], rfl, hwr⟩
    refine ⟨s', e, ?_⟩
    have alive : ((hdrL (sec s'.bs q) = (1, BitVec.ofNat 32 (i + 1)) ∧ entB (sec s'.bs q) = es')) → ∃ (k' i' : Nat) (es1 : List Ent), (s.turn first n k (BitVec.ofNat 32 (i + 1)) es') = (s', e) ∧ Left N first n k i t c es es' s s' e k' i' es1 := by
      rintro ⟨a1, a2⟩
      have hn := h2.newest h hi a1
      have hb := base q _ hn
      rw [num_ofNat (i + 1) (by omega), a2] at hb
      refine ⟨q, i + 1, es', h1, hb, hdn, h2.went.left, ?_⟩
      rcases h2.went.err with he | he
      · exact .inl ⟨he, rfl, (hnr.turned h h2).up, Nat.le_refl _⟩
      · exact .inr (.inr ⟨he, (hnr.torn h h2 q (.inr rfl)).up, .inr (.inl ⟨rfl, rfl⟩)⟩)
    rcases h3 with ⟨a1, a2, _⟩ | ⟨he, h3⟩
    · exact alive ⟨a1, a2⟩
    · have stays : newestL (lookL s'.bs first n) = some ⟨(k : Int), 1, BitVec.ofNat 32 i⟩ → sec s'.bs k = sec s.bs k → ∃ (k' i' : Nat) (es1 : List Ent), (s.turn first n k (BitVec.ofNat 32 (i + 1)) es') = (s', e) ∧ Left N first n k i t c es es' s s' e k' i' es1 := by
        intro hn hk
        have hb := base k _ hn
        rw [num_ofNat i (by omega), hk, h.ents] at hb
        exact ⟨k, i, es, h1, hb, hdn, h2.went.left, .inr (.inr ⟨he, (hnr.torn h h2 k (.inl rfl)).up, .inl ⟨rfl, rfl, rfl⟩⟩)⟩
      rcases h3 with h3 | hd1
      · obtain ⟨hn, hk⟩ := h2.stays h h3
        exact stays hn hk
      · -- an erase that is torn: anything may stand there
        have hk : sec s'.bs k = sec s.bs k := h2.others k (fun e => h2.pk e.symm)
        have htop := top_newest s'.bs first n
        cases hnw : newestL (lookL s'.bs first n) with
        | none =>
          rw [hnw] at htop
          exact absurd (by rw [hk]; exact h.top.2.2.1) (htop k _ h.top.1 h.top.2.1)
        | some cc =>
          rw [hnw] at htop
          obtain ⟨K, y, rfl, hK⟩ := htop
          by_cases eK : K = k
          · subst eK
            have : y = BitVec.ofNat 32 i := by
              have h4 := hK.2.2.1
              rw [hk, h.top.2.2.1] at h4
              cases h4; rfl
            subst this
            exact stays hnw hk
          · have hKq : K = q := by
              refine Classical.byContradiction fun hne => ?_
              have h4 := hK.2.2.2 k (BitVec.ofNat 32 i) h.top.1 h.top.2.1 (by rw [hk]; exact h.top.2.2.1)
              have h5 := h.top.2.2.2 K y hK.1 hK.2.1 (by rw [← h2.others K hne]; exact hK.2.2.1)
              omega
            subst hKq
            refine ⟨K, y.toNat, _, h1, base K y hnw, hdn, h2.went.left, .inr (.inr ⟨he, (hnr.torn h h2 K (.inr rfl)).up, .inr (.inr (.inr ⟨?_, h2.pk⟩))⟩)⟩
            have := sumR_turned (first := first) h2.wp h2.wo n
            rw [if_pos ⟨h2.p1, h2.p2⟩, hd1] at this
            exact (sumR_same (s := s') (s' := s'.up) (fun _ => rfl) first n).trans this
  · rw [if_neg hfit]
    obtain ⟨s', e, h1, h2, h3, h4, h5, h6⟩ := h.append p hp (by omega)
    have hdn : s'.down = decide (e = 12) := by
      rcases h2.err with he | he
      · rw [(h2.ok he).1, he]; rfl
      · rw [(h2.torn he).1, he]; rfl
    have base : ∀ es1, entB (sec s'.bs k) = es1 → Cfg N first n k i (t + 1) es1 s'.up := fun es1 he =>
      ⟨by show s'.bs.length = _; rw [h2.len]; exact h.len, by show s'.wear.length = _; rw [h2.wl]; exact h.wl, rfl, Int.le_refl _, h.fit, h.n3, h4, he, fun x hx => by
        have hx' : x ∈ s.wear := by rw [← h3]; exact hx
        have := h.wears x hx'; omega⟩
    have hkl : k * 256 + 256 ≤ s.bs.length := by have := h.top.2.1; have := h.fit; rw [h.len]; omega
    have crash : Near s' first n k (c + 1) := by
      have hm := hnr.more
      have e : ∀ x : Int, s'.wearOf x = s.wearOf x := fun x => by unfold FS.wearOf; rw [h3]
      have hs := hnr.spread
      exact ⟨hm.c0, fun x y hx hy hk => by rw [e, e]; exact hm.a x y hx hy hk, .inl fun y hy => by rw [e, e]; have := hs k y ⟨h.top.1, h.top.2.1⟩ hy; omega⟩
    rcases h2.err with he | he
    · have hbs := (h6 he).2
      have hoth : ∀ j, j ≠ k → sec s'.bs j = sec s.bs j := fun j hj => by rw [hbs]; exact sec_put_out _ _ _ _ _ hj (by rw [recB_length]; omega) hkl
      have hent : entB (sec s'.bs k) = es' := by
        rcases h5 with h5 | ⟨h5, _⟩
        · rw [h5, hes]
        · rw [he] at h5; cases h5
      exact ⟨s', e, k, i, es', h1, base es' hent, hdn, h2.left, .inl ⟨he, rfl, (hnr.same h3 hoth).up, by omega⟩⟩
    · rcases h5 with h5 | ⟨_, h5⟩
      · exact ⟨s', e, k, i, es', h1, base es' (by rw [h5, hes]), hdn, h2.left, .inr (.inr ⟨he, crash.up, .inr (.inr (.inl ⟨rfl, rfl, rfl⟩))⟩)⟩
      · exact ⟨s', e, k, i, es, h1, base es h5, hdn, h2.left, .inr (.inr ⟨he, crash.up, .inl ⟨rfl, rfl, rfl⟩⟩)⟩

theorem Cfg.op_left {N first n k i t : Nat} {c : Int} {es : List Ent} {s : FS} (h : Cfg N first n k i t es s) (hnr : Near s first n k c) (hi : i < 90000) (d : Nat) (ky vl : List UInt8) :
    ∃ (s' : FS) (e : Int) (k' i' : Nat) (es1 : List Ent), s.opK first n k i es d ky vl = (s', e) ∧ Left N first n k i t c es (aftE es d ky vl) s s' e k' i' es1 := by
  have quiet : ∀ e : Int, e ≠ 12 → (e = 0 → es = aftE es d ky vl) → Left N first n k i t c es (aftE es d ky vl) s s e k i es := fun e h12 h0 =>
    ⟨h.up.worn (by omega), by rw [h.down, decide_eq_false h12], h.left, by
      by_cases e0 : e = 0
      · exact .inl ⟨e0, h0 e0, hnr.up, by omega⟩
      · exact .inr (.inl ⟨e0, h12, rfl, hnr.up, rfl, rfl⟩)⟩
  unfold FS.opK
  by_cases hd : d % 4 = 3
  · rw [if_pos hd]
    unfold FS.delK
    by_cases h0 : 1 ≤ ky.length ∧ ky.length ≤ 16
    case neg => rw [if_pos h0]; exact ⟨s, 2, k, i, es, rfl, quiet 2 (by decide) (fun h => by cases h)⟩
    rw [if_neg (fun h => h h0)]
    by_cases h1 : getK ky es = none
    · rw [if_pos h1]; exact ⟨s, 60, k, i, es, rfl, quiet 60 (by decide) (fun h => by cases h)⟩
    rw [if_neg h1]
    have hwt := wtL_del_le ky es
    have hr := h.room.1
    have ha : aftE es d ky vl = Go.Proofs.YtcmjecnbmdhjlaaGreat.delK ky es := by unfold aftE; rw [if_pos hd]
    rw [ha]
    exact h.changed hnr hi (payL 2 ky []) (by rw [payL_length]; simp; omega) (Go.Proofs.YtcmjecnbmdhjlaaGreat.delK ky es) (h.good.del ky) (told_del h0.1 h0.2 es) (by omega)
  · rw [if_neg hd]
    unfold FS.setK
    have ha : aftE es d ky vl = putK ky vl es := by unfold aftE; rw [if_neg hd]
    by_cases h0 : weightL ky vl = 0
    · rw [if_pos h0]; exact ⟨s, 2, k, i, es, rfl, quiet 2 (by decide) (fun h => by cases h)⟩
    rw [if_neg h0]
    by_cases h1 : getK ky es = some vl
    · rw [if_pos h1]; exact ⟨s, 0, k, i, es, rfl, quiet 0 (by decide) (fun _ => by rw [ha]; exact (put_same h.good.rise h1).symm)⟩
    rw [if_neg h1]
    have hok := okE_of_weight h0
    by_cases h2 : 236 < wtL (putK ky vl es)
    · refine ⟨s, 5, k, i, es, ?_, quiet 5 (by decide) (fun h => by cases h)⟩
      unfold FS.change; rw [if_pos h2]
    · rw [ha]
      exact h.changed hnr hi (payL 1 ky vl) (payE_le hok) (putK ky vl es) (h.good.put hok) (told_set hok es) (by omega)
end Go.Proofs.YtcmjecnbmdhjlaaGreat
