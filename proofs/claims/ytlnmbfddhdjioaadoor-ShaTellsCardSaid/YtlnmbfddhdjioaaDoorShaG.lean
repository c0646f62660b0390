/-
  Contracts of sha: what rounds yields.
-/
import Derived.Test.YtlnmbfddhdjioaaDoorShaE
import Derived.Test.YtlnmbfddhdjioaaDoorShaF
import Derived.Test.YtlnmbfddhdjioaaDoorRanges
import Derived.Deep.Cut
namespace Go.Proofs.YtlnmbfddhdjioaaDoor
open Go.RowKit

theorem rangeAt_keeps {S : List Nat} {w w' : World} {b o : Nat} {cs : List Value} (h : w.rangeAt b o cs) (hk : Keeps S w w') (hb : b ∉ S) : w'.rangeAt b o cs :=
  fun j v hv => hk.cell (h j v hv) hb

/-- The package's two tables. -/
structure Roots (w : World) : Prop where
  sq : w.rangeAt 0 0 (tab 8 h0.get)
  cu : w.rangeAt 1 0 (tab 64 kk)

theorem Roots.keeps {S : List Nat} {w w' : World} (h : Roots w) (hk : Keeps S w w') (h0 : 0 ∉ S) (h1 : 1 ∉ S) : Roots w' :=
  ⟨rangeAt_keeps h.sq hk h0, rangeAt_keeps h.cu hk h1⟩

theorem Roots.lt {w : World} (h : Roots w) : 0 < w.heap.size ∧ 1 < w.heap.size := by
  have h1 := h.sq 0 (uv (h0.get 0)) (tab_get 8 _ 0 (by decide))
  have h2 := h.cu 0 (uv (kk 0)) (tab_get 64 _ 0 (by decide))
  exact ⟨World.block_lt_of_cell? _ _ h1, World.block_lt_of_cell? _ _ h2⟩

/-- Cells that are not block b's stay. -/
structure CellsBut (b : Nat) (W W' : World) : Prop where
  size : W.heap.size ≤ W'.heap.size
  same : ∀ (k : Nat) (o : Obj), k ≠ b → W.heap[k]? = some o → o.isCells = true → W'.heap[k]? = some o

theorem CellsBut.trans {b : Nat} {A B C : World} (h : CellsBut b A B) (k : CellsBut b B C) : CellsBut b A C :=
  ⟨Nat.le_trans h.size k.size, fun i o hi ho hc => k.same i o hi (h.same i o hi ho hc) hc⟩

theorem CellsBut.put {b : Nat} (W : World) (l : Nat) (o o' : Obj) (h : W.heap[l]? = some o) (hc : o.isCells = false) : CellsBut b W (W.putObj l o') :=
  ⟨by simp [World.putObj], fun k u _ hk hu => by
    have : l ≠ k := by
      intro e; subst e
      rw [hk] at h; cases h; rw [hc] at hu; cases hu
    rw [World.putObj_heap_other (fun e => this e.symm)]; exact hk⟩

theorem Whole.cellsBut {b : Nat} {w w' : World} {c : Nat} {T : TypeId} {xs : List Value} (h : Whole w c T xs) (hk : CellsBut b w w') (hb : c ≠ b) : Whole w' c T xs := hk.same c _ hb h rfl

theorem Keeps.isBelow {S : List Nat} {w w' : World} {n : Nat} (h : Keeps S w w') (hn : n ≤ w.heap.size) (hS : ∀ x ∈ S, n ≤ x) : Below n w w' :=
  ⟨h.os, h.tape, h.output, h.size, fun k hk => h.block k (by omega) (fun hm => by have := hS k hm; omega)⟩

/-- What is handed to a round. -/
def enc3 (xs : List UInt8) (t : Nat) : Array Value := #[uv (kk t), uv (sch (wordOf xs) t)]

set_option maxHeartbeats 4000000 in
theorem roundsFn_yields (n : Nat) (w : World) (xs : List UInt8) (bx bc : Nat) (hl : xs.length = 64) (hR : Roots w) (hb : Whole w bx 46 (xs.map bv)) (hbc : bc < w.heap.size) :
    Yields Tryd.prog n 32 #[.pointer (some ⟨bx, 0, none⟩)] (enc3 xs) (CellsBut bc) (List.range 64) w := by
  intro l J Jx W hW hJ hJx hY hJ0
  refine callsIn_wide.2 ?_
  have hbW := hb.keeps hW (by simp)
  have hRW := hR.keeps hW (by simp) (by simp)
  have hbcW : bc < W.heap.size := Nat.lt_of_lt_of_le hbc hW.size
  have HL := Lib.hid hl
  have HB := Lib.hid hbW
  have HR := Lib.hid hRW
  have HJ := Lib.hid hJ
  have HY := Lib.hid hY
  have HJ0 := Lib.hid hJ0
  clear hl hb hR hW hJ hY hJ0 hbW hRW hJx hbc
  show Calls Tryd.prog 32 #[.func (.yield l) #[] #[], .pointer (some ⟨bx, 0, none⟩)] W _
  go_enter Tryd.func32, Tryd.ntmps32
  go_wp2_with (first | (refine wpList_load_row rfl 46 _ rfl bx rfl 46 (xs.map bv).toArray (0, 0) _ HB.out Tryd.underlying46 rfl (by rw [szArr64b]; simp [HL.out]) ?_) | (go_at_call 33; refine (wordsOf_any _ xs HL.out).mono ?_; rintro e w1 ⟨rfl, k1⟩; have K1 := Lib.hid k1; clear k1) | (refine wpList_store_row rfl 70 _ _ rfl w1.heap.size (tab 16 (wordOf xs)).toArray rfl rfl 70 (tab 16 (fun _ => 0#32)).toArray (Whole.new w1 _ (tab 16 (fun _ => 0#32))) (by rw [szArr16]; simp [tab_length]) (by simp [tab_length]) (tab_one _ _) ?_) | (refine wpList_load_mid rfl 72 _ rfl 1 0 rfl (tab 64 kk) _ (rangeAt_keeps (HR.out.keeps K1.out (by simp) (by simp)).cu ((Keeps.alloc [] _ _).then (Keeps.setRow (S := [w1.heap.size]) _ (by simp) _) (fun x hx => .inr (by simp at hx; omega))) (by simp)) Tryd.underlying72 rfl (by rw [szArr64]; simp [tab_length]) ?_))
  have h1s : W.heap.size ≤ w1.heap.size := K1.out.size
  go_loopw [9] (fun i wr => ∃ k : Nat, k ≤ 64 ∧ i = .int .i64 k ∧ Whole wr w1.heap.size 70 (tab 16 (win (wordOf xs) k)) ∧ J k wr) (fun i _ => 64 - (intOf i).toNat)
  case atStart =>
    refine ⟨0, Nat.zero_le _, rfl, ?_, ?_⟩
    · rw [tab_congr (f := win (wordOf xs) 0) (g := wordOf xs) (fun i hi => by rw [win_small _ _ _ (by omega) hi, sch_lt _ _ hi])]
      exact (Whole.new w1 _ (tab 16 (fun _ => 0#32))).setRow _
    · exact HJ.out 0 _ _ (((K1.out.trans (Keeps.alloc [] _ _)).then (Keeps.setRow (S := [w1.heap.size]) _ (by simp) _) (fun x hx => .inr (by simp at hx; omega))).isBelow (Nat.le_refl _) (by simp)) HJ0.out
  case round =>
    obtain ⟨k, hk, rfl, w2, hj⟩ := hrel
    by_cases hlt : k < 64
    · have hlt' : (k : Int) < 64 := by omega
      have hi := fun w => run_index_at w 72 38 64 Tryd.underlying72 szU32 aggU32 (tab 64 kk) (tab_length _ _) k .u32 ((kk k).toNat : Int) (tab_get 64 kk k hlt)
      have e0 : (k : Int) % 16 = ((k % 16 : Nat) : Int) := by omega
      have t0 : (k : Int).tmod 16 = ((k % 16 : Nat) : Int) := by rw [Int.tmod_eq_emod_of_nonneg (by omega)]; exact e0
      have l0 : k % 16 < 16 := by omega
      have l0' : ((k % 16 : Nat) : Int) < 16 := by omega
      by_cases h16 : k < 16
      · have h16' : (k : Int) < 16 := by omega
        have hwin : win (wordOf xs) k (k % 16) = sch (wordOf xs) k := by
          rw [win_small _ _ _ (by omega) (by omega)]; congr 1; omega
        have c2 := (w2.cell (k % 16)).trans (tab_get 16 _ (k % 16) l0)
        rw [hwin] at c2
        have hx : (List.range 64)[k]? = some k := by simp [hlt]
        obtain ⟨fn, tmps, assign, body, hy, hr⟩ := HY.out k k wr hx hj
        have hnext : tab 16 (win (wordOf xs) k) = tab 16 (win (wordOf xs) (k + 1)) := tab_congr (fun i hi => by rw [win_small _ _ _ (by omega) hi, win_small _ _ _ (by omega) hi])
        rw [hnext] at w2
        have W2 := Lib.hid w2
        have HX := Lib.hid hr
        clear w2 hj hnext hx hwin hr
        dsimp only [enc3] at hy
        generalize sch (wordOf xs) k = sk at *
        generalize kk k = kv at *
        generalize k % 16 = q at *
        go_upto_region 6 with (fail)
        refine (wpIn_wide (n := n)).1 ?_
        gi_wp2
        refine ⟨(fun h => by cases h), HX.out.mono ?_⟩
        rintro e W3 (⟨rfl, hJ3, hk3⟩ | ⟨rfl, hJx3⟩)
        · have W3' := Lib.hid (W2.out.cellsBut hk3 (show w1.heap.size ≠ bc by omega))
          have HJ3 := Lib.hid hJ3
          clear hJ3 hk3
          gi_wp2
          go_wp2
          go_roundw
          case rel => exact ⟨k + 1, by omega, by go_num, W3'.out, HJ3.out⟩
          case measure => simp [intOf]; omega
        · have HJ3 := Lib.hid hJx3
          clear hJx3
          gi_wp2
          go_wp2
          refine bodyPost_ret (results_none rfl _ _ _) rfl ?_
          exact ⟨⟨_, rfl⟩, .inr HJ3.out⟩
      · have h16' : ¬ (k : Int) < 16 := by omega
        have h16'' : 16 ≤ (k : Int) := by omega
        have hC := compute_any wr w1.heap.size k (win (wordOf xs) k) (by omega) hlt w2
        rw [win_next _ _ (by omega), tab_set (g := win (wordOf xs) (k + 1)) (k % 16) _ (fun i hi => win_step _ _ _ (by omega) hi)] at hC
        have HC := Lib.hid hC
        have HJK := Lib.hid hj
        have hwz := w2.lt
        have hwin : win (wordOf xs) (k + 1) (k % 16) = sch (wordOf xs) k := by rw [win_step _ _ _ (by omega) (by omega), if_pos rfl]
        have HW := Lib.hid hwin
        have hx : (List.range 64)[k]? = some k := by simp [hlt]
        have HX0 := Lib.hid hx
        clear hC w2 hj hwin hx
        go_upto_region 6 with (go_at_call 34; refine HC.out.mono ?_; rintro e w4 ⟨⟨v, rfl⟩, w2, k4⟩)
        have hj := HJK.out
        have hj := HJ.out k _ _ (k4.isBelow (by omega) (by simp; omega)) hj
        have c2 := (w2.cell (k % 16)).trans (tab_get 16 _ (k % 16) l0)
        rw [HW.out] at c2
        obtain ⟨fn, tmps, assign, body, hy, hr⟩ := HY.out k k w4 HX0.out hj
        have W2 := Lib.hid w2
        have HX := Lib.hid hr
        clear w2 hj hr k4
        dsimp only [enc3] at hy
        generalize sch (wordOf xs) k = sk at *
        generalize kk k = kv at *
        generalize k % 16 = q at *
        refine (wpIn_wide (n := n)).1 ?_
        gi_wp2
        refine ⟨(fun h => by cases h), HX.out.mono ?_⟩
        rintro e W3 (⟨rfl, hJ3, hk3⟩ | ⟨rfl, hJx3⟩)
        · have W3' := Lib.hid (W2.out.cellsBut hk3 (show w1.heap.size ≠ bc by omega))
          have HJ3 := Lib.hid hJ3
          clear hJ3 hk3
          gi_wp2
          go_wp2
          go_roundw
          case rel => exact ⟨k + 1, by omega, by go_num, W3'.out, HJ3.out⟩
          case measure => simp [intOf]; omega
        · have HJ3 := Lib.hid hJx3
          clear hJx3
          gi_wp2
          go_wp2
          refine bodyPost_ret (results_none rfl _ _ _) rfl ?_
          exact ⟨⟨_, rfl⟩, .inr HJ3.out⟩
    · have hkn : k = 64 := by omega
      subst hkn
      have HJ3 := Lib.hid hj
      clear w2 hj
      go_wp2
      go_end0
      exact ⟨⟨_, rfl⟩, .inl HJ3.out⟩
end Go.Proofs.YtlnmbfddhdjioaaDoor
