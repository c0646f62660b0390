/-
  RingTorn: what its walk wants: what a turn leaves that is torn anywhere, or not.
-/
import Derived.Test.YtdcfcljgennipaaRingTurnB
namespace Go.Proofs.Ytdcfcljgennipaa
open Go.RowKit

/-- A program where nothing was: done, or torn. -/
theorem program_cases {s : FS} (a : Nat) (l : List UInt8) (hd : s.down = false) (h4 : a % 4 = 0) (hl4 : l.length % 4 = 0) (hne : l ≠ []) (hle : a + l.length ≤ s.bs.length) (hb : room s.bs a l.length) :
    ∃ (s' : FS) (e : Int), s.program a l = (s', e) ∧ (e = 0 ∧ s'.bs = put s.bs a l ∧ s'.down = false ∨ e = 12) ∧ (∀ j, j < a ∨ a + l.length ≤ j → s'.bs[j]? = s.bs[j]?) ∧ s'.bs.length = s.bs.length ∧ s'.wear = s.wear := by
  have hout : ∀ (m : List UInt8), m.length = l.length → ∀ j, j < a ∨ a + l.length ≤ j → (put s.bs a m)[j]? = s.bs[j]? := fun m hm j hj => by rw [put_get _ _ _ (by omega), if_neg (by omega)]
  cases hu : s.armed with
  | false => exact ⟨_, _, program_room a l hd hu h4 hl4 hne hle hb, .inl ⟨rfl, rfl, hd⟩, hout l rfl, put_length _ _ _ hle, rfl⟩
  | true =>
    by_cases h0 : s.left = 0
    · exact ⟨_, _, program_roomTorn a l hd hu h0 h4 hl4 hne hle hb, .inr rfl, hout _ (tornL_length _ _), put_length _ _ _ (by rw [tornL_length]; exact hle), rfl⟩
    · exact ⟨_, _, program_roomArmed a l hd hu h0 h4 hl4 hne hle hb, .inl ⟨rfl, rfl, hd⟩, hout l rfl, put_length _ _ _ hle, rfl⟩

/-- A record that is written where nothing was: done, or torn. -/
theorem write_cases {s : FS} (a : Nat) (p : List UInt8) (hp : p.length ≤ 4080) (hd : s.down = false) (h4 : a % 4 = 0) (hle : a + sizeN p.length ≤ s.bs.length) (hb : room s.bs a (sizeN p.length)) :
    ∃ (s' : FS) (e : Int), s.write a p = (s', e) ∧ (e = 0 ∧ s'.bs = put s.bs a (recB p) ∧ s'.down = false ∨ e = 12) ∧ (∀ j, j < a ∨ a + sizeN p.length ≤ j → s'.bs[j]? = s.bs[j]?) ∧ s'.bs.length = s.bs.length ∧ s'.wear = s.wear := by
  have hf := fillN_mod p.length
  have h0 : (headB p.length).length = 4 := headB_length _
  have h1 : (bodyB p).length = fillN p.length + 4 := bodyB_length p
  have hsz : sizeN p.length = 12 + fillN p.length := rfl
  have hr : s.readErr a (sizeN p.length) = 0 := by
    unfold FS.readErr
    rw [hd, if_neg (by simp), if_pos (by unfold FS.has; omega)]
  have hw : s.write a p = stepP s a [headB p.length, bodyB p, [0, 0, 0, 0]] := by
    unfold FS.write
    rw [if_neg (by omega), if_neg (fun h => h.2 hr)]
  rw [hw]
  obtain ⟨s1, e1, q1, c1, o1, l1, w1⟩ := program_cases (s := s) a (headB p.length) hd h4 (by rw [h0]) (by intro e; rw [e] at h0; cases h0) (by omega) (hb.mono _ _ (by omega) (by omega))
  simp only [stepP]
  rw [q1]
  rcases c1 with ⟨rfl, b1, d1⟩ | rfl
  · simp only [ne_eq, not_true_eq_false, if_false]
    have r1 : room s1.bs (a + 4) (bodyB p).length := by rw [b1]; exact room_put (hb.mono _ _ (by omega) (by omega)) (by omega) (by omega)
    obtain ⟨s2, e2, q2, c2, o2, l2, w2⟩ := program_cases (s := s1) (a + 4) (bodyB p) d1 (by omega) (by omega) (by intro e; rw [e] at h1; simp at h1) (by omega) r1
    rw [h0, show ((a : Int) + ((4 : Nat) : Int)) = ((a + 4 : Nat) : Int) by omega, q2]
    rcases c2 with ⟨rfl, b2, d2⟩ | rfl
    · simp only [not_true_eq_false, if_false]
      obtain ⟨t1, t2⟩ := puts3 s.bs a p (bodyB p) [0, 0, 0, 0] rfl (by decide) hle
      rw [b1, t1] at b2
      have r2 : room s2.bs (a + 4 + (bodyB p).length) [0, 0, 0, 0].length := by
        rw [b2]
        exact room_put (hb.mono _ _ (by omega) (by simp; omega)) (by simp [h0]; omega) (by simp [h0]; omega)
      obtain ⟨s3, e3, q3, c3, o3, l3, w3⟩ := program_cases (s := s2) (a + 4 + (bodyB p).length) [0, 0, 0, 0] d2 (by omega) (by rfl) (by simp) (by simp only [List.length_cons, List.length_nil]; omega) r2
      rw [show (((a + 4 : Nat) : Int) + (((bodyB p).length : Nat) : Int)) = ((a + 4 + (bodyB p).length : Nat) : Int) by omega, q3]
      simp only [List.length_cons, List.length_nil] at o3
      rcases c3 with ⟨rfl, b3, d3⟩ | rfl
      · simp only [not_true_eq_false, if_false]
        refine ⟨s3, 0, rfl, .inl ⟨rfl, ?_, d3⟩, fun j hj => ?_, by omega, by rw [w3, w2, w1]⟩
        · rw [b3, b2, t2]; rfl
        · rw [o3 j (by omega), o2 j (by omega), o1 j (by omega)]
      · rw [if_pos (by simp)]
        exact ⟨s3, 12, rfl, .inr rfl, fun j hj => by rw [o3 j (by omega), o2 j (by omega), o1 j (by omega)], by omega, by rw [w3, w2, w1]⟩
    · rw [if_pos (by simp)]
      exact ⟨s2, 12, rfl, .inr rfl, fun j hj => by rw [o2 j (by omega), o1 j (by omega)], by omega, by rw [w2, w1]⟩
  · rw [if_pos (by simp)]
    exact ⟨s1, 12, rfl, .inr rfl, fun j hj => o1 j (by omega), l1, w1⟩

theorem sec_far {bs cs : List UInt8} {k j : Nat} (hj : j ≠ k) (h : ∀ i, i < k * 256 ∨ k * 256 + 256 ≤ i → cs[i]? = bs[i]?) : sec cs j = sec bs j :=
  sec_ext fun i hi => h _ (by
    rcases Nat.lt_or_gt_of_ne hj with h3 | h3
    · have : j + 1 ≤ k := h3
      have := Nat.mul_le_mul_right 256 this
      exact .inl (by omega)
    · have : k + 1 ≤ j := h3
      have := Nat.mul_le_mul_right 256 this
      exact .inr (by omega))

/-- Open, of a sector where nothing is: done, or torn. -/
theorem opened_cases {s : FS} (k : Nat) (x : BitVec 32) (hk : k < s.wear.length) (hl : s.bs.length = 256 * s.wear.length) (hd : s.down = false) (hb : blank (sec s.bs k)) :
    ∃ (s' : FS) (e : Int), s.opened k x = (s', e) ∧ (e = 0 ∧ hdrL (sec s'.bs k) = (1, x) ∨ e = 12) ∧ (∀ j, j ≠ k → sec s'.bs j = sec s.bs j) ∧ s'.bs.length = s.bs.length ∧ s'.wear = s.wear := by
  have hs : sizeN (headP x).length = 20 := by rw [headP_length]; exact size5
  have hp : (headP x).length ≤ 4080 := by rw [headP_length]; omega
  have hlk : k * 256 + 256 ≤ s.bs.length := by omega
  obtain ⟨s', e, q, c, o, l, w⟩ := write_cases (s := s) (k * 256) (headP x) hp hd (by omega) (by omega) (by rw [hs]; exact sec_room hb hlk 20 (by decide))
  have hop : s.opened k x = (s', e) := by
    unfold FS.opened
    rw [if_neg (by simp [hd]), if_neg (by omega), show ((k : Int) * 256) = ((k * 256 : Nat) : Int) by omega, q]
  refine ⟨s', e, hop, ?_, fun j hj => sec_far hj (fun i hi => o i (by omega)), l, w⟩
  rcases c with ⟨h1, h2, _⟩ | h1
  · refine .inl ⟨h1, ?_⟩
    rw [h2, sec_put_same _ _ _ (by rw [head_length]; decide) hlk]
    exact hdrL_head x _
  · exact .inr h1

/-- Clear: done, or torn. -/
theorem clear_cases {s : FS} (k : Nat) (hk : k < s.wear.length) (hd : s.down = false) :
    ∃ (s' : FS) (e : Int), s.clear k = (s', e) ∧ (e = 0 ∧ blank (sec s'.bs k) ∧ s'.down = false ∨ e = 12) ∧ (∀ j, j ≠ k → sec s'.bs j = sec s.bs j) ∧ s'.bs.length = s.bs.length ∧ s'.wear.length = s.wear.length := by
  by_cases hh : (hdrL (sec s.bs k)).1 = 0
  · exact ⟨s, 0, clear_free k hk hd hh, .inl ⟨rfl, hdrL_kind0 hh, hd⟩, fun _ _ => rfl, rfl, rfl⟩
  · have hcl : s.clear k = ({ s with wear := s.wear.set k (s.wear.getD k 0 + 1) } : FS).let (k * 256) 256 gSet := by
      unfold FS.clear
      rw [if_neg (by simp [hd]), if_neg (by omega), Int.toNat_natCast, if_neg hh, FS.erase_let hd ⟨by omega, by omega⟩, Int.toNat_natCast]
    rw [hcl]
    unfold FS.let
    split
    · exact ⟨_, _, rfl, .inr rfl, fun j hj => by dsimp only; exact sec_span_other _ _ _ _ hj, by simp only [span_length], List.length_set⟩
    · exact ⟨_, _, rfl, .inl ⟨rfl, by dsimp only; exact sec_erased _ _, hd⟩, fun j hj => by dsimp only; exact sec_span_other _ _ _ _ hj, by simp only [span_length], List.length_set⟩

/-- Arm, whatever the mask. -/
theorem Arm_each {F B W M : Nat} {s : FS} (w : World) (hF : FlashAt w F B W M s) (n : Nat) (v : Value) (l : List UInt8) (Ml : Nat) (hr : Reads w v l Ml) (hd : s.down = false) (hn : n ≤ 1000) (hl : l.length ≤ 100000) :
    Calls Try.prog 41 #[.pointer (some ⟨F, 0, none⟩), .int .i64 n, v] w fun e w' => e = .returned (.int .i64 0) ∧ ∃ M', FlashAt w' F B W M' (s.arm n l) ∧ Keeps [F] w w' := by
  rcases hr with ⟨rfl, rfl⟩ | ⟨ad, cap, rfl, hcap, hb, hc⟩
  · exact (Arm_nil w hF n hd (by omega) (by omega)).mono fun _ _ ⟨h1, h2, h3⟩ => ⟨h1, M, h2, h3⟩
  · exact (Arm_some w hF n hd (by omega) (by omega) ad l.length cap l rfl hcap (by omega) hc).mono fun _ _ ⟨h1, M', _, h2, h3⟩ => ⟨h1, M', h2, h3⟩

/-- Which header is the newest one, of sectors of which all others are older, or not live. -/
theorem newest_of (bs : List UInt8) (first n K : Nat) (y : BitVec 32) (h1 : first ≤ K) (h2 : K < first + n) (hK : hdrL (sec bs K) = (1, y))
    (ho : ∀ k, first ≤ k → k < first + n → k ≠ K → ∀ x, hdrL (sec bs k) = (1, x) → x.toNat < y.toNat) : newestL (lookL bs first n) = some ⟨K, 1, y⟩ := by
  have hb := newest_best (lookL bs first n)
  have hmem : hdrAt bs K ∈ lookL bs first n := lookL_mem.2 ⟨K, h1, h2, rfl⟩
  have hKa : hdrAt bs K = ⟨K, 1, y⟩ := by unfold hdrAt hdrOf; rw [hK]
  cases hp : newestL (lookL bs first n) with
  | none =>
    rw [hp] at hb
    have := hb _ hmem
    rw [hKa] at this
    cases this
  | some c =>
    rw [hp] at hb
    obtain ⟨hc, hl, hm⟩ := hb
    obtain ⟨k, j1, j2, rfl⟩ := lookL_mem.1 hc
    have h3 := hm _ hmem (by rw [hKa]; rfl)
    rw [hKa] at h3
    simp only at h3
    by_cases e : k = K
    · subst e; rw [hKa]
    · exfalso
      rcases hdrL_kinds (sec bs k) with q | ⟨x, q⟩ | q
      · unfold liveH hdrAt hdrOf at hl
        rw [q] at hl; cases hl
      · have := ho k j1 j2 e x q
        have hx : (hdrAt bs k).num = x := by unfold hdrAt hdrOf; rw [q]
        rw [hx] at h3
        omega
      · unfold liveH hdrAt hdrOf at hl
        rw [q] at hl; cases hl

/-- Where a header of a list lies. -/
theorem HdrsAt.cells {w : World} {g n cap : Nat} {hs : List Hdr} (h : HdrsAt w (.slice (some ⟨g, 0, none⟩) n cap) hs) (i : Nat) (x : Hdr) (hx : hs[i]? = some x) :
    w.cell? ⟨g, i * 3, none⟩ = some (.int .i64 x.sector) ∧ w.cell? ⟨g, i * 3 + 1, none⟩ = some (.int .u8 (x.kind.toNat : Int)) ∧ w.cell? ⟨g, i * 3 + 2, none⟩ = some (.int .u32 (x.num.toNat : Int)) := by
  obtain ⟨ao, cp, hv, _, hc⟩ := h
  simp at hv
  obtain ⟨rfl, rfl, rfl⟩ := hv
  obtain ⟨g', hg, _, h0⟩ := hc i x hx
  simp at hg
  subst hg
  exact h0

/-- Headers that are not the same, compared. -/
theorem hdr_differ (w : World) (s k x s' k' x' : Int) (h : ¬ (s = s' ∧ k = k' ∧ x = x')) : (Op.equalIn 10000 56 (.agg #[.int .i64 s, .int .u8 k, .int .u32 x]) (.agg #[.int .i64 s', .int .u8 k', .int .u32 x'])).run Try.prog w = .ok false w := by
  have key : ∀ d : Nat, (Op.equalIn (d + 1 + 1) 56 (.agg #[.int .i64 s, .int .u8 k, .int .u32 x]) (.agg #[.int .i64 s', .int .u8 k', .int .u32 x'])).run Try.prog w = .ok false w := fun d => by
    rw [run_equalIn_struct w (d + 1) 56 _ _ hdr_under hdr_held, hdr_fields]
    have h1 := fun w => run_equalIn_int (P := Try.prog) w d 3 .i64 .i64 s s' Try.underlying3
    have h2 := fun w => run_equalIn_int (P := Try.prog) w d 5 .u8 .u8 k k' Try.underlying5
    have h3 := fun w => run_equalIn_int (P := Try.prog) w d 54 .u32 .u32 x x' Try.underlying54
    by_cases a1 : s = s'
    · subst a1
      by_cases a2 : k = k'
      · subst a2
        have a3 : ¬ x = x' := fun e => h ⟨rfl, rfl, e⟩
        simp [Op.eqFields, _root_.Go.part, h1, h2, h3, a3]
      · simp [Op.eqFields, _root_.Go.part, h1, h2, a2]
    · simp [Op.eqFields, _root_.Go.part, h1, a1]
  exact key 9998
end Go.Proofs.Ytdcfcljgennipaa
