/-
  Code: where its instructions start; lists of ints of one's own.
-/
import Derived.Test.YtfnjjanknfmibaaPmFirst
namespace Go.Proofs.Ytfnjjanknfmibaa
open Go.RowKit Go.Deep
set_option linter.unusedVariables false

abbrev iv (k : Nat) : Value := .int .i64 (k : Int)
theorem one_new (W : World) (x : Value) (T : TypeId) : ∀ j u, [x][j]? = some u → (W.alloc (.cells #[x] T)).cell? ((⟨W.heap.size, 0, none⟩ : Addr).add j) = some u := by
  intro j u hj
  rw [Addr.add_off, Nat.zero_add, cell_alloc_new]
  simpa using hj

theorem wpList_append_int {ops : Array Oper} {rest : List Oper} {o : Oper} {a : Act} {W : World} {Q : Exit → Act → World → Prop} (hgd : o.guard = none) (s x : Operand)
    (ho : o.op = .call { callee := .builtin .append, args := #[s, x], argTypes := #[33, 33] }) (base : Nat) (v : Value) (l : List Nat) (hs : a.eval s = v) (hown : W.ownsRow base 3 1 v l.length (l.map iv))
    (k : Nat) (hx : a.eval x = .slice (some ⟨W.heap.size, 0, none⟩) 1 1) (hn : l.length ≤ 2000000) (hbase : base ≤ W.heap.size)
    (h : ∀ v' w', w'.ownsRow base 3 1 v' (l ++ [k]).length ((l ++ [k]).map iv) → Keeps v.ownBlock.toList W w' → wpList Try.prog ops Q rest (a.put o.dst v') w') : wpList Try.prog ops Q (o :: rest) a (W.alloc (.cells #[iv k] 3)) := by
  obtain ⟨i0, hi, hz0, hz1, hz2⟩ := info_parts infoInt
  have hown' : (W.alloc (.cells #[iv k] 3)).ownsRow base 3 1 v l.length (l.map iv) := World.ownsRow.keeps hown (Keeps.alloc [] _ _) (fun _ _ => List.not_mem_nil)
  refine wpList_append_own (P := Try.prog) _ hgd s x 33 ho base 3 i0 (.int .i64 0) 1 8 Try.underlying33 hi hz0 hz1 hz2 rfl (by decide) v l.length (l.map iv) hs hown' ⟨W.heap.size, 0, none⟩ 1 1 [iv k] hx rfl (one_new W _ _) (by intro u hu; simp at hu; subst hu; rfl) (by unfold maxLen; omega) (by omega) (by simp; omega) ?_
  intro v' w' h1 h2 _
  refine h v' w' (by simpa using h1) ?_
  exact (Keeps.alloc _ W _).trans (Keeps.grown h2 (fun k hk => .inl (by simp [hk])))

/-- A list of ints of one's own. -/
def Ints (w : World) (base : Nat) (v : Value) (l : List Nat) : Prop := w.ownsRow base 3 1 v l.length (l.map iv)

theorem Ints.nil (w : World) (base : Nat) : Ints w base (.slice none 0 0) [] := ⟨rfl, .inl ⟨rfl, rfl⟩⟩
theorem Ints.keeps {S : List Nat} {w w' : World} {base : Nat} {v : Value} {l : List Nat} (h : Ints w base v l) (hk : Keeps S w w') (hS : ∀ k, base ≤ k → k < w.heap.size → k ∉ S) : Ints w' base v l :=
  World.ownsRow.keeps h hk (fun k hk' => hS k (h.lt k hk').1 (h.lt k hk').2)
theorem Ints.next {w w' : World} {base : Nat} {v : Value} {l : List Nat} (h : Ints w base v l) (hk : Keeps [] w w') : Ints w' base v l := World.ownsRow.keeps h hk (fun _ _ => List.not_mem_nil)

theorem Ints.shape {w : World} {base : Nat} {v : Value} {l : List Nat} (h : Ints w base v l) : ∃ a cap, v = .slice a l.length cap ∧ l.length ≤ cap ∧ (l ≠ [] → ∃ M, a = some ⟨M, 0, none⟩ ∧ base ≤ M ∧ M < w.heap.size ∧ ∀ (i k : Nat), l[i]? = some k → w.cell? ⟨M, i, none⟩ = some (.int .i64 (k : Int))) := by
  have h' := h
  obtain ⟨hl, h2⟩ := h
  rcases h2 with ⟨rfl, h0⟩ | ⟨g, cap, cur, rfl, hb, hg, hn, _⟩
  · exact ⟨none, 0, by rw [h0], by omega, fun hne => absurd (List.eq_nil_of_length_eq_zero h0) hne⟩
  · have hr := Row.ofOwnsAt h'
    refine ⟨_, cap, rfl, hn, fun _ => ⟨g, rfl, hb, (Array.getElem?_eq_some_iff.1 hg).1, fun i k hi => ?_⟩⟩
    exact hr.cell i (by rw [List.getElem?_map, hi]; rfl)

/-- What code's starts are, as two results. -/
def startsV (w : World) (base : Nat) (c : List (BitVec 32)) (v : Value) (q : Bool) : Prop :=
  (startsC c = none ∧ v = .slice none 0 0 ∧ q = false) ∨ ∃ l, startsC c = some l ∧ Ints w base v l ∧ q = true

def StartsPost (w : World) (c : List (BitVec 32)) (e : Ending) (w' : World) : Prop := ∃ v' q, e = .returned (.tuple #[v', .bool q]) ∧ startsV w' w.heap.size c v' q ∧ Keeps [] w w'

set_option maxRecDepth 100000 in
set_option maxHeartbeats 2000000 in
theorem tabStarts_any (w : World) (b : Nat) (hb : TabAt w b) (v : Value) (c : List (BitVec 32)) (M off : Nat) (h : UReads w v c M off) (hm : c.length ≤ 2000000) :
    Calls Try.prog 39 #[.pointer (some ⟨b, 0, none⟩), v] w fun e w' => StartsPost w c e w' := by
  obtain ⟨a, cap, rfl, hcap⟩ := h.shape
  have HF := Lib.hid fun W (hk : Keeps [] w W) k p cp (hr : UReads W (.slice p (c.drop k).length cp) (c.drop k) M (off + k)) hne => tabFirst_any W b (hb.keeps hk (by simp)) _ (c.drop k) M (off + k) hr hne (by rw [List.length_drop]; unfold maxLen; omega)
  have HT := Lib.hid fun k hk => h.tail k hk
  obtain ⟨n, hn⟩ : ∃ n, n = c.length := ⟨_, rfl⟩
  rw [← hn] at hm hcap ⊢
  have HN := Lib.hid hn
  clear hb h hn
  go_enter Try.func39, Try.ntmps39
  go_wp2
  go_loopw [6, 7] (fun x y wr => ∃ (k : Nat) (l : List Nat) (xv : Value), xv = x ∧ k ≤ n ∧ y = .int .i64 (k : Int) ∧ Went c k l ∧ Ints wr w.heap.size xv l ∧ Keeps [] w wr) (fun _ y _ => n - (intOf y).toNat)
  case atStart => exact ⟨0, [], _, rfl, by omega, rfl, .zero, Ints.nil _ _, Keeps.refl _ _⟩
  case round =>
    obtain ⟨k, l, xv, rfl, hk, rfl, hw, hi, hkr⟩ := hrel
    have HW := Lib.hid hw
    have HI := Lib.hid hi
    have HK := Lib.hid hkr
    by_cases hlt : k < n
    · have hlt' : (k : Int) < (n : Int) := by omega
      obtain ⟨p, cp, ht, hr⟩ := HT.out k (by have := HN.out; omega)
      have hcut := fun W => run_cutU_l W a n cap k (by omega)
      rw [HN.out, ht] at hcut
      rw [← HN.out] at hcut
      have hne : c.drop k ≠ [] := by intro e; have := congrArg List.length e; rw [List.length_drop, ← HN.out] at this; simp at this; omega
      have HC := Lib.hid (HF.out wr hkr k p cp (hr.keeps hkr (by simp)) hne)
      have hll := longC_le (c.drop k)
      rw [List.length_drop, ← HN.out] at hll
      have hl0 := Nat.le_trans (went_length hw) hk
      have HL := Lib.hid (rfl : longC (c.drop k) = longC (c.drop k))
      have HST := Lib.hid fun h0 => went_stuck hw (by rw [← HN.out]; exact hlt) h0
      have HSP := Lib.hid fun h0 => Went.step hw h0
      clear hw hi hkr hr ht hne HL
      generalize longC (c.drop k) = L at *
      generalize (c.drop k).length = n' at *
      by_cases hL : L = 0
      · subst hL
        have HST0 := Lib.hid (HST.out rfl)
        clear HST
        go_wp2_with (refine HC.out.mono ?_; rintro e w3 ⟨rfl, hk3⟩; have HK3 := Lib.hid hk3; clear hk3)
        go_ret2
        exact ⟨_, _, rfl, .inl ⟨HST0.out, rfl, rfl⟩, HK.out.trans HK3.out⟩
      · have hL' : ¬ (L : Int) = 0 := by omega
        have e1 : IntKind.i64.wrap ((k : Int) + (L : Int)) = (k : Int) + (L : Int) := IntWalk.i64_in _ (by omega)
        have hlb : l.length ≤ 2000000 := by omega
        have HB := Lib.hid fun W (hk : Keeps [] wr W) => Nat.le_trans HK.out.size hk.size
        have HSP := Lib.hid (HSP.out hL)
        go_wp2_with (first | (go_at_call 36; refine HC.out.mono ?_; rintro e w3 ⟨rfl, hk3⟩; have HI3 := Lib.hid (HI.out.next hk3); have hb3 := HB.out _ hk3; have HB3 := Lib.hid hb3; have HK3 := Lib.hid hk3; clear hk3 hb3) | (at_builtin; refine wpList_append_int rfl _ _ rfl w.heap.size xv l rfl HI3.out k rfl hlb HB3.out ?_; intro v4 w4 ho4 hk4; have HO4 := Lib.hid ho4; have HK4 := Lib.hid hk4; clear ho4 hk4))
        go_roundw
        case rel => exact ⟨k + L, l ++ [k], _, rfl, by omega, by go_num, HSP.out, HO4.out, (HK.out.trans HK3.out).then HK4.out (fun x hx => .inr (by
          have := HI3.out.lt x (by simpa using hx); omega))⟩
        case measure => simp [intOf]; omega
    · obtain rfl : k = n := by omega
      have hlt' : ¬ (k : Int) < (k : Int) := by omega
      have HD := Lib.hid (went_done (by rw [← HN.out]; exact hw))
      clear hw hi hkr
      go_wp2
      go_ret2
      exact ⟨_, _, rfl, .inr ⟨_, HD.out, HI.out, rfl⟩, HK.out⟩

def longAt (c : List (BitVec 32)) (at_ : Int) : Nat := if 0 ≤ at_ ∧ at_ < c.length then longC (c.drop at_.toNat) else 0

set_option maxRecDepth 100000 in
set_option maxHeartbeats 2000000 in
theorem Starts_any (w : World) (v : Value) (c : List (BitVec 32)) (M off : Nat) (h : UReads w v c M off) (hm : c.length ≤ 2000000) :
    Calls Try.prog 18 #[v] w fun e w' => StartsPost w c e w' := by
  obtain ⟨a, cap, rfl, hcap⟩ := h.shape
  obtain ⟨zs, tw, hL⟩ := tab_laid
  have h1 := hL.zero
  have h2 := hL.size
  have h3 := hL.store
  have HL := Lib.hid hL
  have HP := Lib.hid prims_any
  unfold tabV at HP
  have HT := Lib.hid fun W (hk : Keeps [] w W) b hb => tabStarts_any W b hb _ c M off (h.keeps hk (by simp)) hm
  clear hL h hm
  generalize (cellsP tabL).toArray = tc at *
  generalize c.length = n at *
  go_enter Try.func18, Try.ntmps18
  go_wp2_with (first | (go_at_call 32; refine (HP.out _).mono ?_; rintro e w3 ⟨rfl, hk3⟩; have HK3 := Lib.hid (hk3.trans (HL.out.keeps _)); clear hk3) | (go_at_call 39; refine (HT.out _ HK3.out _ (HL.out.whole _).tab).mono ?_; rintro e w4 ⟨v4, q4, rfl, hs4, hk4⟩; have HS4 := Lib.hid hs4; have HK4 := Lib.hid hk4; clear hs4 hk4))
  go_ret2
  have hz := HK3.out.size
  refine ⟨_, _, rfl, ?_, HK3.out.trans HK4.out⟩
  rcases HS4.out with ⟨h1, h2, h3⟩ | ⟨l, h1, h2, h3⟩
  · exact .inl ⟨h1, h2, h3⟩
  · refine .inr ⟨l, h1, ?_, h3⟩
    refine ⟨h2.1, ?_⟩
    rcases h2.2 with h0 | ⟨g, cp, cur, hv, hb, r⟩
    · exact .inl h0
    · exact .inr ⟨g, cp, cur, hv, by omega, r⟩

set_option maxRecDepth 100000 in
set_option maxHeartbeats 2000000 in
theorem Long_any (w : World) (v : Value) (c : List (BitVec 32)) (M off : Nat) (h : UReads w v c M off) (hm : c.length ≤ maxLen) (i : Int) :
    Calls Try.prog 14 #[v, .int .i64 i] w fun e w' => e = .returned (.int .i64 (longAt c i : Int)) ∧ Keeps [] w w' := by
  obtain ⟨a, cap, rfl, hcap⟩ := h.shape
  obtain ⟨n, hn⟩ : ∃ n, n = c.length := ⟨_, rfl⟩
  unfold longAt
  rw [← hn] at hm hcap ⊢
  by_cases hlt : 0 ≤ i ∧ i < (n : Int)
  · rw [if_pos hlt]
    obtain ⟨k, rfl⟩ : ∃ k : Nat, i = (k : Int) := ⟨i.toNat, by omega⟩
    obtain ⟨hlo, hhi⟩ := hlt
    rw [Int.toNat_natCast]
    obtain ⟨zs, tw, hL⟩ := tab_laid
    have h1 := hL.zero
    have h2 := hL.size
    have h3 := hL.store
    have HL := Lib.hid hL
    have HP := Lib.hid prims_any
    unfold tabV at HP
    obtain ⟨p, cp, ht, hr⟩ := h.tail k (by omega)
    have hcut := fun W => run_cutU_l W a n cap k (by omega)
    rw [hn, ht] at hcut
    rw [← hn] at hcut
    have hne : c.drop k ≠ [] := by intro e; have := congrArg List.length e; rw [List.length_drop, ← hn] at this; simp at this; omega
    have HT := Lib.hid fun W (hk : Keeps [] w W) b hb => tabFirst_any W b hb _ (c.drop k) M (off + k) (hr.keeps hk (by simp)) hne (by rw [List.length_drop]; unfold maxLen at *; omega)
    have hlo' : ¬ ((k : Int) < 0) := by omega
    have hhi' : ¬ ((k : Int) ≥ (n : Int)) := by omega
    clear hL h hm hn hr hne ht hlo
    generalize (cellsP tabL).toArray = tc at *
    generalize longC (c.drop k) = L at *
    generalize (c.drop k).length = n' at *
    go_enter Try.func14, Try.ntmps14
    go_wp2_with (first | (go_at_call 32; refine (HP.out _).mono ?_; rintro e w3 ⟨rfl, hk3⟩; have HK3 := Lib.hid (hk3.trans (HL.out.keeps _)); clear hk3) | (go_at_call 36; refine (HT.out _ HK3.out _ (HL.out.whole _).tab).mono ?_; rintro e w4 ⟨rfl, hk4⟩; have HK4 := Lib.hid hk4; clear hk4))
    go_ret
    exact ⟨rfl, HK3.out.trans HK4.out⟩
  · rw [if_neg hlt]
    clear h hn
    by_cases hlo : i < 0
    · go_enter Try.func14, Try.ntmps14
      go_wp2
      go_ret
      exact ⟨rfl, Keeps.refl _ _⟩
    · have hhi : i ≥ (n : Int) := by omega
      have hlo' : ¬ (i < 0) := hlo
      clear hlt
      go_enter Try.func14, Try.ntmps14
      go_wp2
      go_ret
      exact ⟨rfl, Keeps.refl _ _⟩
end Go.Proofs.Ytfnjjanknfmibaa
