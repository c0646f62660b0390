/-
  Contracts of record: row, and what it yields.
-/
import Derived.Test.YtdcfcljgennipaaRecE
import Derived.Test.YtdcfcljgennipaaRangeM
namespace Go.Proofs.Ytdcfcljgennipaa
open Go.RowKit
attribute [local go_sem] Oper.semAt_some

set_option maxHeartbeats 400000 in
theorem row_any (w : World) (a : Option Addr) (n c : Nat) :
    Calls Try.prog 50 #[.slice a n c] w fun e w' => e = .returned (.func (.func 80) #[] #[.pointer (some ⟨w.heap.size, 0, none⟩)]) ∧ w.alloc (.cells #[.slice a n c] 22) = w' := by
  go_enter Try.func50, Try.ntmps50
  go_wp2
  go_ret
  exact ⟨rfl, rfl⟩

/-- What is handed to a round: a record's cells, its payload in memory that is newer than base. -/
def EncRec (base : Nat) (x : Nat × R4) (args : Array Value) (W : World) : Prop :=
  ∃ a n c, args = #[.agg (recCells x.1 x.2 (.slice a n c)).toArray] ∧ W.ownsRow base 5 1 (.slice a n c) x.2.pay.length (x.2.pay.map bv)

theorem rowAt_get (b : List UInt8) (at' : Nat) (l : List (Nat × R4)) (h : IsRow b at' l) : ∀ (k : Nat), k < l.length → ∃ t : Nat, (∃ r, l[k]? = some (t, r)) ∧ IsRow b t (l.drop k) := by
  induction h with
  | done at' h => intro k hk; simp at hk
  | more at' h l hl ih =>
    intro k hk
    cases k with
    | zero => exact ⟨at', ⟨_, rfl⟩, .more _ h _ hl⟩
    | succ k => exact ih k (by simpa using hk)

/-- The place that comes behind the first k of a row. -/
def placeK (b : List UInt8) : Nat → Nat
  | 0 => 0
  | k + 1 => if placeK b k < writtenN b then placeK b k + (firstL (b.drop (placeK b k))).size else placeK b k

theorem placeK_le (b : List UInt8) (k : Nat) : placeK b k ≤ b.length := by
  induction k with
  | zero => exact Nat.zero_le _
  | succ k ih =>
    simp only [placeK]
    have hw := writtenN_le b
    by_cases h : placeK b k < writtenN b
    · rw [if_pos h]
      have := (firstL_size (b.drop (placeK b k)) (by intro e; have := congrArg List.length e; simp at this; omega)).2
      simp at this; omega
    · rw [if_neg h]; exact ih

theorem isRow_get {b : List UInt8} : ∀ (k at' : Nat) (l : List (Nat × R4)), IsRow b at' l → at' = placeK b k → ∀ j, (placeK b (k + j) < writtenN b → l[j]? = some (placeK b (k + j), firstL (b.drop (placeK b (k + j))))) ∧ (¬ placeK b (k + j) < writtenN b → l.length ≤ j) := by
  intro k at' l h
  induction h generalizing k with
  | done at' h =>
    intro e j
    have hk : ∀ j, placeK b (k + j) = at' := by
      intro j
      induction j with
      | zero => exact e.symm
      | succ j ih => rw [← Nat.add_assoc]; simp only [placeK]; rw [ih, if_neg (by omega)]
    rw [hk]
    exact ⟨fun h' => absurd h' (by omega), fun _ => Nat.zero_le _⟩
  | more at' h l hl ih =>
    intro e j
    cases j with
    | zero =>
      rw [Nat.add_zero, ← e]
      exact ⟨fun _ => rfl, fun h' => absurd h h'⟩
    | succ j =>
      have h2 : at' + (firstL (b.drop at')).size = placeK b (k + 1) := by
        simp only [placeK]; rw [← e, if_pos h]
      have := ih (k + 1) h2 j
      rw [show k + 1 + j = k + (j + 1) by omega] at this
      exact ⟨fun h' => this.1 h', fun h' => by have := this.2 h'; simp; omega⟩

theorem rowL_get (b : List UInt8) (k : Nat) (h : placeK b k < writtenN b) : (rowL b)[k]? = some (placeK b k, firstL (b.drop (placeK b k))) := by
  have := (isRow_get 0 0 _ (isRow_rowL b) rfl k).1
  rw [Nat.zero_add] at this
  exact this h

theorem rowL_end (b : List UInt8) (k : Nat) (h : ¬ placeK b k < writtenN b) : (rowL b).length ≤ k := by
  have := (isRow_get 0 0 _ (isRow_rowL b) rfl k).2
  rw [Nat.zero_add] at this
  exact this h

theorem placeK_succ (b : List UInt8) (k : Nat) (h : placeK b k < writtenN b) : placeK b (k + 1) = placeK b k + (firstL (b.drop (placeK b k))).size := by
  simp only [placeK]; rw [if_pos h]

set_option maxRecDepth 100000 in
set_option maxHeartbeats 800000 in
theorem rowFn_yields (n n0 : Nat) (S : List Nat) (w : World) (b : List UInt8) (v : Value) (bx M : Nat) (hl : b.length ≤ 100000) (hv : Reads w v b M) (hb : w.cell? ⟨bx, 0, none⟩ = some v) (hbx : bx < n0 ∧ bx ∉ S) (hM : M < n0 ∧ M ∉ S) :
    YieldsM Try.prog n 80 #[.pointer (some ⟨bx, 0, none⟩)] (EncRec n0) n0 S (rowL b) w := by
  intro l J W hW hn0 hJ hY hJ0
  refine callsIn_wide.2 ?_
  obtain ⟨a, cap, rfl, hcap⟩ := hv.shape
  have HB := Lib.hid (hW.cell hb (by simp))
  have HV := Lib.hid (hv.keeps hW (by simp))
  have HJ := Lib.hid hJ
  have HY := Lib.hid hY
  have HJ0 := Lib.hid hJ0
  have hbW := HB.out
  clear hv hb hW hJ hY hJ0
  show Calls Try.prog 80 #[.func (.yield l) #[] #[], .pointer (some ⟨bx, 0, none⟩)] W _
  obtain ⟨N, hN⟩ : ∃ N, N = b.length := ⟨_, rfl⟩
  have HN := Lib.hid hN
  have HW := Lib.hid (written_any W (.slice a b.length cap) b M HV.out hl)
  rw [← hN] at hbW HB HV HW hcap hl
  clear hN
  go_enter Try.func80, Try.ntmps80
  go_wp2_with (go_at_call 47; refine HW.out.mono ?_; rintro e w' ⟨rfl, rfl⟩)
  go_loopw [4] (fun s wr => ∃ k : Nat, k ≤ (rowL b).length ∧ s = .int .i64 (placeK b k) ∧ J k wr ∧ wr.cell? ⟨bx, 0, none⟩ = some (.slice a N cap) ∧ Reads wr (.slice a N cap) b M ∧ W.heap.size ≤ wr.heap.size) (fun s _ => writtenN b - (intOf s).toNat)
  case atStart => exact ⟨0, Nat.zero_le _, rfl, HJ0.out, HB.out, HV.out, Nat.le_refl _⟩
  case round =>
    obtain ⟨k, hk, rfl, hj, hbc, hv, hsz⟩ := hrel
    by_cases hlt : placeK b k < writtenN b
    · have hx := rowL_get b k hlt
      have hnext := placeK_succ b k hlt
      have hwl := writtenN_le b
      obtain ⟨p, hp⟩ : ∃ p, p = placeK b k := ⟨_, rfl⟩
      rw [← hp] at hx hnext hlt ⊢
      have hne : b.drop p ≠ [] := by intro e; have := congrArg List.length e; simp at this; omega
      have hsize := firstL_size (b.drop p) hne
      obtain ⟨p1, c1, hcut, hrt⟩ := (show Reads wr (.slice a b.length cap) b M by rw [← HN.out]; exact hv).tail p (by omega)
      have hF := first_any wr _ (b.drop p) M hrt (by simp; have := HN.out; omega)
      have hdl : (b.drop p).length = N - p := by rw [HN.out]; simp
      rw [hdl] at hcut hF hsize
      rw [← HN.out] at hcut
      obtain ⟨r, hr⟩ : ∃ r, r = firstL (b.drop p) := ⟨_, rfl⟩
      rw [← hr] at hx hnext hF hsize
      have hkl : k < (rowL b).length := (List.getElem?_eq_some_iff.1 hx).1
      have HF := Lib.hid hF
      have HX := Lib.hid hx
      have HNX := Lib.hid hnext
      have HJK := Lib.hid hj
      have HBC := Lib.hid hbc
      have HVR := Lib.hid hv
      have hwN : writtenN b ≤ N := by rw [HN.out]; exact hwl
      have HP := Lib.hid hp
      clear hx hnext hF hj hv hrt hne hdl hwl hr hp
      obtain ⟨z, kd, py⟩ := r
      dsimp only at HNX hsize
      generalize hwr : writtenN b = wn at *
      clear hwr
      have hp100 : p ≤ 100000 := by omega
      go_wp2_with fail
      refine HF.out.mono ?_
      rintro e w1 ⟨pa, pn, pc, rfl, ho, k1⟩
      have HO := Lib.hid ho
      have K1 := Lib.hid k1
      clear ho k1
      dsimp only [recCells]
      have hw0 : Whole (w1.alloc (.cells #[.int .i64 0, .int .i64 0, .int .u8 0, .slice none 0 0] 29)) w1.heap.size 29 [.int .i64 0, .int .i64 0, .int .u8 0, .slice none 0 0] := Whole.new w1 _ [_, _, _, _]
      have HW0 := Lib.hid hw0
      clear hw0
      go_upto_region 4 with ((refine wpList_store_row rfl 29 _ _ rfl w1.heap.size #[.int .i64 0, .int .i64 z, .int .u8 (kd.toNat : Int), .slice pa pn pc] rfl rfl 29 #[.int .i64 0, .int .i64 0, .int .u8 0, .slice none 0 0] HW0.out (by rw [szRecord]; rfl) rfl (rec_one _ _ _ _ _ _) ?_))
      generalize hV : World.setRow _ _ _ = V
      have wV : Whole V w1.heap.size 29 [.int .i64 0, .int .i64 z, .int .u8 (kd.toNat : Int), .slice pa pn pc] := by
        rw [← hV]; exact HW0.out.setRow [_, _, _, _]
      have kV : Keeps [] w1 V := by
        rw [← hV]
        exact (Keeps.alloc [] w1 _).then (Keeps.setRow (S := [w1.heap.size]) _ (by simp) _) (fun x hx => .inr (by simp at hx; omega))
      have v0 := wV.cell 0
      have f0 := wV.frozen 0
      simp only [List.getElem?_cons_zero] at v0
      have wV2 := wV.set 0 (.int .i64 p)
      have kV2 : Keeps [w1.heap.size] V (V.setCell ⟨w1.heap.size, 0, none⟩ (.int .i64 p)) := Keeps.setCell _ (by simp) _
      have HWV := Lib.hid wV2
      have HKV := Lib.hid (kV.then kV2 (fun x hx => .inr (by simp at hx; omega)))
      clear hV wV kV wV2 kV2 HW0
      go_upto_region 5 with (fail)
      generalize World.setCell V _ _ = U at *
      have k1 := K1.out
      have kU := k1.trans HKV.out
      have hbU : Below wr.heap.size wr U := Keeps.below kU
      have henc : EncRec n0 (p, ⟨z, kd, py⟩) #[.agg #[.int .i64 p, .int .i64 z, .int .u8 (kd.toNat : Int), .slice pa pn pc]] U :=
        ⟨pa, pn, pc, rfl, World.ownsRow.keeps (World.ownsRow.mono HO.out (by omega)) HKV.out (by simp)⟩
      obtain ⟨fn, tmps, assign, body, hy, hr⟩ := HY.out k _ _ wr U HX.out HJK.out hsz hbU henc
      have HR := Lib.hid hr
      have HWU := Lib.hid (show Whole U w1.heap.size 29 [.int .i64 p, .int .i64 z, .int .u8 (kd.toNat : Int), .slice pa pn pc] from HWV.out)
      have HBU := Lib.hid (kU.cell HBC.out (by simp))
      have HVU := Lib.hid (HVR.out.keeps kU (by simp))
      have hs1 := k1.size
      have hsU := kU.size
      clear hr henc hbU kU k1 v0 f0 HWV
      refine (wpIn_wide (n := n)).1 ?_
      have d0 := (HWU.out.cell 0).trans (show _ = some (Value.int .i64 (p : Int)) from rfl)
      have d1 := (HWU.out.cell 1).trans (show _ = some (Value.int .i64 (z : Int)) from rfl)
      have d2 := (HWU.out.cell 2).trans (show _ = some (Value.int .u8 (kd.toNat : Int)) from rfl)
      have d3 := (HWU.out.cell 3).trans (show _ = some (Value.slice pa pn pc) from rfl)
      gi_wp2
      refine ⟨(fun h => by cases h), HR.out.mono ?_⟩
      rintro e W3 ⟨rfl, hJ3, hk3⟩
      have HJ3 := Lib.hid hJ3
      have hW3 := HWU.out.kept hk3 (.inr (by omega))
      have e1 := (hW3.cell 1).trans (show _ = some (Value.int .i64 (z : Int)) from rfl)
      have HB3 := Lib.hid (hk3.cell HBU.out (.inl hbx))
      have HV3 := Lib.hid (HVU.out.kept hk3 (.inl hM))
      have h31 := hk3.1
      clear hJ3 hk3 hW3 d0 d1 d2 d3
      gi_wp2
      go_wp2
      go_roundw
      case rel => exact ⟨k + 1, hkl, by rw [HNX.out]; go_num, HJ3.out, HB3.out, HV3.out, by omega⟩
      case measure => simp [intOf]; omega
    · have hke : k = (rowL b).length := by have := rowL_end b k hlt; omega
      rw [hke] at hj
      have HJ3 := Lib.hid hj
      have hlt' : decide ((placeK b k : Int) < (writtenN b : Int)) = false := by simp; omega
      have hlt2 : decide (placeK b k < writtenN b) = false := by simp; omega
      clear hj hv hbc hlt hke hk
      generalize placeK b k = p at *
      generalize writtenN b = wn at *
      go_wp2
      go_end0
      exact ⟨⟨_, rfl⟩, HJ3.out⟩
end Go.Proofs.Ytdcfcljgennipaa
