/-
  Contracts of record: row, and what it yields.
  Contracts of record: Scan.
-/
import Derived.Test.YtlnmbfddhdjioaaGreatRecE
import Derived.Test.YtlnmbfddhdjioaaGreatRanges
import Derived.Test.YtlnmbfddhdjioaaGreatGround
namespace Go.Proofs.YtlnmbfddhdjioaaGreat
open Go.RowKit
attribute [local go_sem] Oper.semAt_some

set_option maxHeartbeats 400000 in
theorem row_any (w : World) (a : Option Addr) (n c : Nat) :
    Calls Tryz.prog 85 #[.slice a n c] w fun e w' => e = .returned (.func (.func 104) #[] #[.pointer (some ⟨w.heap.size, 0, none⟩)]) ∧ w.alloc (.cells #[.slice a n c] 23) = w' := by
  go_enter Tryz.func85, Tryz.ntmps85
  go_wp2
  go_ret
  exact ⟨rfl, rfl⟩

/-- What is handed to a round: a record's cells, its payload in memory that is newer than base. -/
def EncRec (base : Nat) (x : Nat × R4) (args : Array Value) (W : World) : Prop :=
  ∃ a n c, args = #[.agg (recCells x.1 x.2 (.slice a n c)).toArray] ∧ W.ownsRow base 5 1 (.slice a n c) x.2.pay.length (x.2.pay.map bv)

theorem rowAt_get (b : List UInt8) (at' : Nat) (l : List (Nat × R4)) (h : IsRow b at' l) : ∀ (k : Nat), k < l.length → ∃ t : Nat, (∃ r, l[k]? = some (t, r)) ∧ IsRow b t (l.drop k) := by
  induction h with
  | done at' h => intro k hk; simp at hk
  | more at' h l hl ih =>
    intro k hk
    cases k with
    | zero => exact ⟨at', ⟨_, rfl⟩, .more _ h _ hl⟩
    | succ k => exact ih k (by simpa using hk)

/-- The place that comes behind the first k of a row. -/
def placeK (b : List UInt8) : Nat → Nat
  | 0 => 0
  | k + 1 => if placeK b k < writtenN b then placeK b k + (firstL (b.drop (placeK b k))).size else placeK b k

theorem placeK_le (b : List UInt8) (k : Nat) : placeK b k ≤ b.length := by
  induction k with
  | zero => exact Nat.zero_le _
  | succ k ih =>
    simp only [placeK]
    have hw := writtenN_le b
    by_cases h : placeK b k < writtenN b
    · rw [if_pos h]
      have := (firstL_size (b.drop (placeK b k)) (by intro e; have := congrArg List.length e; simp at this; omega)).2
      simp at this; omega
    · rw [if_neg h]; exact ih

theorem isRow_get {b : List UInt8} : ∀ (k at' : Nat) (l : List (Nat × R4)), IsRow b at' l → at' = placeK b k → ∀ j, (placeK b (k + j) < writtenN b → l[j]? = some (placeK b (k + j), firstL (b.drop (placeK b (k + j))))) ∧ (¬ placeK b (k + j) < writtenN b → l.length ≤ j) := by
  intro k at' l h
  induction h generalizing k with
  | done at' h =>
    intro e j
    have hk : ∀ j, placeK b (k + j) = at' := by
      intro j
      induction j with
      | zero => exact e.symm
      | succ j ih => rw [← Nat.add_assoc]; simp only [placeK]; rw [ih, if_neg (by omega)]
    rw [hk]
    exact ⟨fun h' => absurd h' (by omega), fun _ => Nat.zero_le _⟩
  | more at' h l hl ih =>
    intro e j
    cases j with
    | zero =>
      rw [Nat.add_zero, ← e]
      exact ⟨fun _ => rfl, fun h' => absurd h h'⟩
    | succ j =>
      have h2 : at' + (firstL (b.drop at')).size = placeK b (k + 1) := by
        simp only [placeK]; rw [← e, if_pos h]
      have := ih (k + 1) h2 j
      rw [show k + 1 + j = k + (j + 1) by omega] at this
      exact ⟨fun h' => this.1 h', fun h' => by have := this.2 h'; simp; omega⟩

theorem rowL_get (b : List UInt8) (k : Nat) (h : placeK b k < writtenN b) : (rowL b)[k]? = some (placeK b k, firstL (b.drop (placeK b k))) := by
  have := (isRow_get 0 0 _ (isRow_rowL b) rfl k).1
  rw [Nat.zero_add] at this
  exact this h

theorem rowL_end (b : List UInt8) (k : Nat) (h : ¬ placeK b k < writtenN b) : (rowL b).length ≤ k := by
  have := (isRow_get 0 0 _ (isRow_rowL b) rfl k).2
  rw [Nat.zero_add] at this
  exact this h

theorem placeK_succ (b : List UInt8) (k : Nat) (h : placeK b k < writtenN b) : placeK b (k + 1) = placeK b k + (firstL (b.drop (placeK b k))).size := by
  simp only [placeK]; rw [if_pos h]

set_option maxRecDepth 100000 in
set_option maxHeartbeats 800000 in
theorem rowFn_yields (n n0 : Nat) (S : List Nat) (w : World) (b : List UInt8) (v : Value) (bx M : Nat) (hl : b.length ≤ 100000) (hv : Reads w v b M) (hb : w.cell? ⟨bx, 0, none⟩ = some v) (hbx : bx < n0 ∧ bx ∉ S) (hM : M < n0 ∧ M ∉ S) :
    YieldsM Tryz.prog n 104 #[.pointer (some ⟨bx, 0, none⟩)] (EncRec n0) n0 S (rowL b) w := by
  intro l J W hW hn0 hJ hY hJ0
  refine callsIn_wide.2 ?_
  obtain ⟨a, cap, rfl, hcap⟩ := hv.shape
  have HB := Lib.hid (hW.cell hb (by simp))
  have HV := Lib.hid (hv.keeps hW (by simp))
  have HJ := Lib.hid hJ
  have HY := Lib.hid hY
  have HJ0 := Lib.hid hJ0
  have hbW := HB.out
  clear hv hb hW hJ hY hJ0
  show Calls Tryz.prog 104 #[.func (.yield l) #[] #[], .pointer (some ⟨bx, 0, none⟩)] W _
  obtain ⟨N, hN⟩ : ∃ N, N = b.length := ⟨_, rfl⟩
  have HN := Lib.hid hN
  have HW := Lib.hid (written_any W (.slice a b.length cap) b M HV.out hl)
  rw [← hN] at hbW HB HV HW hcap hl
  clear hN
  go_enter Tryz.func104, Tryz.ntmps104
  go_wp2_with (go_at_call 93; refine HW.out.mono ?_; rintro e w' ⟨rfl, rfl⟩)
  go_loopw [4] (fun s wr => ∃ k : Nat, k ≤ (rowL b).length ∧ s = .int .i64 (placeK b k) ∧ J k wr ∧ wr.cell? ⟨bx, 0, none⟩ = some (.slice a N cap) ∧ Reads wr (.slice a N cap) b M ∧ W.heap.size ≤ wr.heap.size) (fun s _ => writtenN b - (intOf s).toNat)
  case atStart => exact ⟨0, Nat.zero_le _, rfl, HJ0.out, HB.out, HV.out, Nat.le_refl _⟩
  case round =>
    obtain ⟨k, hk, rfl, hj, hbc, hv, hsz⟩ := hrel
    by_cases hlt : placeK b k < writtenN b
    · have hx := rowL_get b k hlt
      have hnext := placeK_succ b k hlt
      have hwl := writtenN_le b
      obtain ⟨p, hp⟩ : ∃ p, p = placeK b k := ⟨_, rfl⟩
      rw [← hp] at hx hnext hlt ⊢
      have hne : b.drop p ≠ [] := by intro e; have := congrArg List.length e; simp at this; omega
      have hsize := firstL_size (b.drop p) hne
      obtain ⟨p1, c1, hcut, hrt⟩ := (show Reads wr (.slice a b.length cap) b M by rw [← HN.out]; exact hv).tail p (by omega)
      have hF := first_any wr _ (b.drop p) M hrt (by simp; have := HN.out; omega)
      have hdl : (b.drop p).length = N - p := by rw [HN.out]; simp
      rw [hdl] at hcut hF hsize
      rw [← HN.out] at hcut
      obtain ⟨r, hr⟩ : ∃ r, r = firstL (b.drop p) := ⟨_, rfl⟩
      rw [← hr] at hx hnext hF hsize
      have hkl : k < (rowL b).length := (List.getElem?_eq_some_iff.1 hx).1
      have HF := Lib.hid hF
      have HX := Lib.hid hx
      have HNX := Lib.hid hnext
      have HJK := Lib.hid hj
      have HBC := Lib.hid hbc
      have HVR := Lib.hid hv
      have hwN : writtenN b ≤ N := by rw [HN.out]; exact hwl
      have HP := Lib.hid hp
      clear hx hnext hF hj hv hrt hne hdl hwl hr hp
      obtain ⟨z, kd, py⟩ := r
      dsimp only at HNX hsize
      generalize hwr : writtenN b = wn at *
      clear hwr
      have hp100 : p ≤ 100000 := by omega
      go_wp2_with fail
      refine HF.out.mono ?_
      rintro e w1 ⟨pa, pn, pc, rfl, ho, k1⟩
      have HO := Lib.hid ho
      have K1 := Lib.hid k1
      clear ho k1
      dsimp only [recCells]
      have hw0 : Whole (w1.alloc (.cells #[.int .i64 0, .int .i64 0, .int .u8 0, .slice none 0 0] 122)) w1.heap.size 122 [.int .i64 0, .int .i64 0, .int .u8 0, .slice none 0 0] := Whole.new w1 _ [_, _, _, _]
      have HW0 := Lib.hid hw0
      clear hw0
      go_upto_region 4 with ((refine wpList_store_row rfl 122 _ _ rfl w1.heap.size #[.int .i64 0, .int .i64 z, .int .u8 (kd.toNat : Int), .slice pa pn pc] rfl rfl 122 #[.int .i64 0, .int .i64 0, .int .u8 0, .slice none 0 0] HW0.out (by rw [szRecord]; rfl) rfl (rec_one _ _ _ _ _ _) ?_))
      generalize hV : World.setRow _ _ _ = V
      have wV : Whole V w1.heap.size 122 [.int .i64 0, .int .i64 z, .int .u8 (kd.toNat : Int), .slice pa pn pc] := by
        rw [← hV]; exact HW0.out.setRow [_, _, _, _]
      have kV : Keeps [] w1 V := by
        rw [← hV]
        exact (Keeps.alloc [] w1 _).then (Keeps.setRow (S := [w1.heap.size]) _ (by simp) _) (fun x hx => .inr (by simp at hx; omega))
      have v0 := wV.cell 0
      have f0 := wV.frozen 0
      simp only [List.getElem?_cons_zero] at v0
      have wV2 := wV.set 0 (.int .i64 p)
      have kV2 : Keeps [w1.heap.size] V (V.setCell ⟨w1.heap.size, 0, none⟩ (.int .i64 p)) := Keeps.setCell _ (by simp) _
      have HWV := Lib.hid wV2
      have HKV := Lib.hid (kV.then kV2 (fun x hx => .inr (by simp at hx; omega)))
      clear hV wV kV wV2 kV2 HW0
      go_upto_region 5 with (fail)
      generalize World.setCell V _ _ = U at *
      have k1 := K1.out
      have kU := k1.trans HKV.out
      have hbU : Below wr.heap.size wr U := Keeps.below kU
      have henc : EncRec n0 (p, ⟨z, kd, py⟩) #[.agg #[.int .i64 p, .int .i64 z, .int .u8 (kd.toNat : Int), .slice pa pn pc]] U :=
        ⟨pa, pn, pc, rfl, World.ownsRow.keeps (World.ownsRow.mono HO.out (by omega)) HKV.out (by simp)⟩
      obtain ⟨fn, tmps, assign, body, hy, hr⟩ := HY.out k _ _ wr U HX.out HJK.out hsz hbU henc
      have HR := Lib.hid hr
      have HWU := Lib.hid (show Whole U w1.heap.size 122 [.int .i64 p, .int .i64 z, .int .u8 (kd.toNat : Int), .slice pa pn pc] from HWV.out)
      have HBU := Lib.hid (kU.cell HBC.out (by simp))
      have HVU := Lib.hid (HVR.out.keeps kU (by simp))
      have hs1 := k1.size
      have hsU := kU.size
      clear hr henc hbU kU k1 v0 f0 HWV
      refine (wpIn_wide (n := n)).1 ?_
      have d0 := (HWU.out.cell 0).trans (show _ = some (Value.int .i64 (p : Int)) from rfl)
      have d1 := (HWU.out.cell 1).trans (show _ = some (Value.int .i64 (z : Int)) from rfl)
      have d2 := (HWU.out.cell 2).trans (show _ = some (Value.int .u8 (kd.toNat : Int)) from rfl)
      have d3 := (HWU.out.cell 3).trans (show _ = some (Value.slice pa pn pc) from rfl)
      gi_wp2
      refine ⟨(fun h => by cases h), HR.out.mono ?_⟩
      rintro e W3 ⟨rfl, hJ3, hk3⟩
      have HJ3 := Lib.hid hJ3
      have hW3 := HWU.out.kept hk3 (.inr (by omega))
      have e1 := (hW3.cell 1).trans (show _ = some (Value.int .i64 (z : Int)) from rfl)
      have HB3 := Lib.hid (hk3.cell HBU.out (.inl hbx))
      have HV3 := Lib.hid (HVU.out.kept hk3 (.inl hM))
      have h31 := hk3.1
      clear hJ3 hk3 hW3 d0 d1 d2 d3
      gi_wp2
      go_wp2
      go_roundw
      case rel => exact ⟨k + 1, hkl, by rw [HNX.out]; go_num, HJ3.out, HB3.out, HV3.out, by omega⟩
      case measure => simp [intOf]; omega
    · have hke : k = (rowL b).length := by have := rowL_end b k hlt; omega
      rw [hke] at hj
      have HJ3 := Lib.hid hj
      have hlt' : decide ((placeK b k : Int) < (writtenN b : Int)) = false := by simp; omega
      have hlt2 : decide (placeK b k < writtenN b) = false := by simp; omega
      clear hj hv hbc hlt hke hk
      generalize placeK b k = p at *
      generalize writtenN b = wn at *
      go_wp2
      go_end0
      exact ⟨⟨_, rfl⟩, HJ3.out⟩
end Go.Proofs.YtlnmbfddhdjioaaGreat

namespace Go.Proofs.YtlnmbfddhdjioaaGreat
open Go.RowKit
attribute [local go_sem] Oper.semAt_some

theorem infoRecord : (Tryz.prog.info? 122).map (fun i => (i.zero, i.size, i.bytes)) = some (some (.agg #[.int .i64 0, .int .i64 0, .int .u8 0, .slice none 0 0]), 4, 48) := by kernel_rfl

/-- The cells of a row of records, with the values of their payloads. -/
def recsCells : List (Nat × R4) → List Value → List Value
  | x :: xs, v :: vs => recCells x.1 x.2 v ++ recsCells xs vs
  | _, _ => []

/-- Each payload in memory of its own. -/
structure RecsIn (base : Nat) (W : World) (rs : List (Nat × R4)) (vs : List Value) : Prop where
  len : vs.length = rs.length
  pay : ∀ (i : Nat) (x : Nat × R4) (v : Value), rs[i]? = some x → vs[i]? = some v → W.ownsRow base 5 1 v x.2.pay.length (x.2.pay.map bv)

theorem recsCells_snoc : ∀ (rs : List (Nat × R4)) (vs : List Value) (x : Nat × R4) (v : Value), vs.length = rs.length → recsCells (rs ++ [x]) (vs ++ [v]) = recsCells rs vs ++ recCells x.1 x.2 v
  | [], [], x, v, _ => by simp [recsCells]
  | r :: rs, u :: vs, x, v, h => by
    simp only [List.cons_append, recsCells]
    rw [recsCells_snoc rs vs x v (by simpa using h), List.append_assoc]

theorem recsCells_length : ∀ (rs : List (Nat × R4)) (vs : List Value), vs.length = rs.length → (recsCells rs vs).length = rs.length * 4
  | [], [], _ => rfl
  | r :: rs, u :: vs, h => by
    simp only [recsCells, List.length_append, recsCells_length rs vs (by simpa using h)]
    simp [recCells]; omega

theorem recsCells_get : ∀ (rs : List (Nat × R4)) (vs : List Value) (i : Nat) (x : Nat × R4) (v : Value) (j : Nat), rs[i]? = some x → vs[i]? = some v → j < 4 → (recsCells rs vs)[i * 4 + j]? = (recCells x.1 x.2 v)[j]?
  | [], _, i, x, v, j, h, _, _ => by simp at h
  | r :: rs, [], i, x, v, j, _, h, _ => by simp at h
  | r :: rs, u :: vs, 0, x, v, j, h, h', hj => by
    simp at h h'; subst h h'
    simp only [recsCells]
    rw [Nat.zero_mul, Nat.zero_add, List.getElem?_append_left (by simpa [recCells] using hj)]
  | r :: rs, u :: vs, i + 1, x, v, j, h, h', hj => by
    simp only [recsCells]
    rw [List.getElem?_append_right (by simp [recCells]; omega), show (i + 1) * 4 + j - (recCells r.1 r.2 u).length = i * 4 + j by simp [recCells]; omega]
    exact recsCells_get rs vs i x v j (by simpa using h) (by simpa using h') hj

theorem RecsIn.keeps {S : List Nat} {base : Nat} {W X : World} {rs : List (Nat × R4)} {vs : List Value} (h : RecsIn base W rs vs) (hk : Keeps S W X) (hS : ∀ x ∈ S, x < base ∨ W.heap.size ≤ x) : RecsIn base X rs vs :=
  ⟨h.len, fun i x v hx hv => World.ownsRow.keeps (h.pay i x v hx hv) hk (fun g hg hm => by
    obtain ⟨h1, h2⟩ := (h.pay i x v hx hv).lt g hg
    rcases hS g hm with h3 | h3 <;> omega)⟩

theorem RecsIn.snoc {base : Nat} {W : World} {rs : List (Nat × R4)} {vs : List Value} (h : RecsIn base W rs vs) (x : Nat × R4) (v : Value) (hx : W.ownsRow base 5 1 v x.2.pay.length (x.2.pay.map bv)) : RecsIn base W (rs ++ [x]) (vs ++ [v]) := by
  refine ⟨by simp [h.len], fun i y u hy hu => ?_⟩
  by_cases hi : i < rs.length
  · rw [List.getElem?_append_left hi] at hy
    rw [List.getElem?_append_left (by rw [h.len]; exact hi)] at hu
    exact h.pay i y u hy hu
  · have hil : i = rs.length := by
      have := (List.getElem?_eq_some_iff.1 hy).1
      simp at this; omega
    subst hil
    simp at hy
    rw [← h.len] at hu
    simp at hu
    subst hy hu
    exact hx

theorem owns_heap {w : World} {base : Nat} {T : TypeId} {size n : Nat} {v : Value} {xs : List Value} (h : w.ownsRow base T size v n xs) {g : Nat} (hg : v.ownBlock = some g) : ∃ cur, w.heap[g]? = some (.cells cur T (0, 0)) := by
  rcases h.2 with ⟨rfl, _⟩ | ⟨g', cap, cur, rfl, _, hgg, _⟩
  · simp [Value.ownBlock] at hg
  · simp [Value.ownBlock] at hg
    subst hg
    exact ⟨cur, hgg⟩

theorem owns_keepsT {S : List Nat} {W X : World} {base : Nat} {T : TypeId} {size n : Nat} {v : Value} {xs : List Value} (h : W.ownsRow base T size v n xs) (hk : Keeps S W X)
    (hS : ∀ x ∈ S, x < base ∨ ∃ cur T', W.heap[x]? = some (.cells cur T' (0, 0)) ∧ T' ≠ T) : X.ownsRow base T size v n xs :=
  World.ownsRow.keeps h hk (fun g hg hm => by
    obtain ⟨cur, hc⟩ := owns_heap h hg
    rcases hS g hm with h1 | ⟨cur', T', h1, h2⟩
    · have := (h.lt g hg).1; omega
    · rw [hc] at h1; cases h1; exact h2 rfl)

theorem owns_putObj {W : World} {lp : Nat} {o o' : Obj} (hl : W.heap[lp]? = some o) (ho : o.isCells = false) {base : Nat} {T : TypeId} {size n : Nat} {v : Value} {xs : List Value} (h : W.ownsRow base T size v n xs) : (W.putObj lp o').ownsRow base T size v n xs := by
  obtain ⟨h1, h2⟩ := h
  refine ⟨h1, ?_⟩
  rcases h2 with h2 | ⟨g, cap, cur, rfl, hb, hg, hr⟩
  · exact .inl h2
  · exact .inr ⟨g, cap, cur, rfl, hb, putObj_cells hl ho hg rfl, hr⟩

theorem owns_cellsKept {W X : World} {m base : Nat} (hc : ∀ (j : Nat) (o : Obj), j < m → W.heap[j]? = some o → o.isCells = true → X.heap[j]? = some o) (hm : W.heap.size ≤ m) {T : TypeId} {size n : Nat} {v : Value} {xs : List Value} (h : W.ownsRow base T size v n xs) : X.ownsRow base T size v n xs := by
  obtain ⟨h1, h2⟩ := h
  refine ⟨h1, ?_⟩
  rcases h2 with h2 | ⟨g, cap, cur, rfl, hb, hg, hr⟩
  · exact .inl h2
  · exact .inr ⟨g, cap, cur, rfl, hb, hc g _ (by have := (Array.getElem?_eq_some_iff.1 hg).1; omega) hg rfl, hr⟩

theorem IsRow.count {b : List UInt8} {at' : Nat} {l : List (Nat × R4)} (h : IsRow b at' l) : l.length ≤ b.length - at' := by
  induction h with
  | done at' h => simp
  | more at' h l _ ih =>
    have hw := writtenN_le b
    have hs := firstL_size (b.drop at') (by intro e; have := congrArg List.length e; simp at this; omega)
    simp at hs ⊢
    omega

theorem rowL_count (b : List UInt8) : (rowL b).length ≤ b.length := by have := (isRow_rowL b).count; omega

/-- What has been scanned so far. -/
def Scanned (w : World) (base n0 bl : Nat) (rs : List (Nat × R4)) (W : World) : Prop :=
  Keeps [] w W ∧ ∃ (ao : Option Addr) (cp : Nat) (vs : List Value), Whole W bl 106 [.slice ao rs.length cp] ∧ W.ownsRow n0 122 4 (.slice ao rs.length cp) rs.length (recsCells rs vs) ∧ RecsIn base W rs vs

theorem Scanned.stays {w : World} {base n0 bl : Nat} {rs : List (Nat × R4)} : Stays (Scanned w base n0 bl rs) := by
  rintro A B hb ⟨hk, ao, cp, vs, h1, h2, h3⟩
  have hkb : Keeps [] A B := Keeps.ofBelow hb
  exact ⟨hk.trans hkb, ao, cp, vs, h1.keeps hkb (by simp), World.ownsRow.keeps h2 hkb (by simp), h3.keeps hkb (by simp)⟩

theorem keeps_putObj {w W : World} {lp : Nat} {o' : Obj} (h : Keeps [] w W) (hl : w.heap.size ≤ lp) : Keeps [] w (W.putObj lp o') :=
  ⟨h.os, h.tape, h.output, by have := h.size; simpa [World.putObj] using this, fun k hk _ => by
    rw [World.putObj_heap_other (by omega)]; exact h.block k hk (by simp)⟩

theorem Scanned.put {w : World} {base n0 bl : Nat} {rs : List (Nat × R4)} {W : World} {lp : Nat} {o o' : Obj} (hl : w.heap.size ≤ lp) (ho : W.heap[lp]? = some o) (hc : o.isCells = false) (h : Scanned w base n0 bl rs W) : Scanned w base n0 bl rs (W.putObj lp o') := by
  obtain ⟨hk, ao, cp, vs, h1, h2, h3⟩ := h
  exact ⟨keeps_putObj hk hl, ao, cp, vs, putObj_cells ho hc h1 rfl, owns_putObj ho hc h2, h3.len, fun i x v hx hv => owns_putObj ho hc (h3.pay i x v hx hv)⟩

/-- Bytes that lie below a number, or nowhere. -/
theorem Reads.aside {w : World} {v : Value} {b : List UInt8} {M : Nat} (h : Reads w v b M) (hM : b ≠ [] → M < w.heap.size) : ∃ M', Reads w v b M' ∧ M' ≠ w.heap.size ∧ M' < w.heap.size + 2 := by
  by_cases hb : b = []
  · subst hb
    exact ⟨w.heap.size + 1, h.anyBlock _, by omega, by omega⟩
  · have := hM hb
    exact ⟨M, h, by omega, by omega⟩

set_option maxRecDepth 100000 in
set_option maxHeartbeats 1000000 in
theorem Scan_any (w : World) (v : Value) (b : List UInt8) (M₀ : Nat) (h₀ : Reads w v b M₀) (hl : b.length ≤ 100000) (hM₀ : b ≠ [] → M₀ < w.heap.size) :
    Calls Tryz.prog 56 #[v] w fun e w' => ∃ ao cp vs, e = .returned (.slice ao (rowL b).length cp) ∧ w'.ownsRow w.heap.size 122 4 (.slice ao (rowL b).length cp) (rowL b).length (recsCells (rowL b) vs) ∧ RecsIn w.heap.size w' (rowL b) vs ∧ Keeps [] w w' ∧ w.heap.size < w'.heap.size := by
  obtain ⟨M, h, hM, hM2⟩ := h₀.aside hM₀
  clear h₀ hM₀
  obtain ⟨a, cap, rfl, hcap⟩ := h.shape
  obtain ⟨N, hN⟩ : ∃ N, N = b.length := ⟨_, rfl⟩
  have HN := Lib.hid hN
  have HV := Lib.hid h
  rw [← hN] at HV hl ⊢
  clear hN h hcap
  refine (callsIn_wide (n := 3)).1 ?_
  refine callsIn_of_wp_marks Tryz.func56 rfl trivial ?_ rfl
  simp only [Tryz.ntmps56, List.size_toArray, List.length_cons, List.length_nil, Nat.reduceAdd, Nat.reduceSub, Array.replicate_succ, Array.replicate_zero, List.push_toArray, List.append_toArray, List.nil_append, List.cons_append]
  refine wpIn_wide.2 ?_
  go_upto_region 2 with (fail)
  generalize hV : World.alloc w _ = V
  have w0 : Whole V w.heap.size 106 [.slice none 0 0] := by rw [← hV]; exact Whole.new w _ [_]
  have kV : Keeps [] w V := by rw [← hV]; exact Keeps.alloc [] _ _
  have W0 := Lib.hid w0
  have KV := Lib.hid kV
  have HVV := Lib.hid (HV.out.keeps kV (by simp))
  have sV := w0.lt
  clear hV w0 kV
  go_wp2_with (go_at_call 85; refine (row_any _ _ _ _).mono ?_; rintro e w' ⟨rfl, rfl⟩)
  generalize hU : World.alloc V _ = U
  have kU : Keeps [] V U := by rw [← hU]; exact Keeps.alloc [] _ _
  have hbx : U.cell? ⟨V.heap.size, 0, none⟩ = some (.slice a N cap) := by rw [← hU, cell_alloc_new]; rfl
  have sU : V.heap.size < U.heap.size := by rw [← hU]; simp
  have HBX := Lib.hid hbx
  have HU := Lib.hid (HVV.out.keeps kU (by simp))
  have WU := Lib.hid (W0.out.keeps kU (by simp))
  have KU := Lib.hid (KV.out.trans kU)
  clear hU kU hbx
  have hys := rowFn_yields 2 U.heap.size [w.heap.size] U b (.slice a N cap) V.heap.size M (by rw [← HN.out]; exact hl) HU.out HBX.out ⟨sU, by simp; omega⟩ ⟨by omega, by simp; omega⟩
  generalize V.heap.size = bx at *
  refine (wpIn_wide (n := 3)).1 ?_
  refine wpIn_range_made (n := 3) (gf := 104) (lb := #[.pointer (some ⟨bx, 0, none⟩)]) rfl (enters_of Tryz.func104 (by kernel_rfl) rfl) hys (Keeps.refl _ _)
    (fun x args W ⟨_, _, _, h, _⟩ => by rw [h]; rfl)
    (fun k W => Scanned w U.heap.size U.heap.size w.heap.size ((rowL b).take k) W) (fun k => Scanned.stays)
    (fun k W lp o o' hl ho hc h => Scanned.put (by omega) ho hc h)
    ⟨KU.out, none, 0, [], WU.out, ⟨rfl, .inl ⟨rfl, rfl⟩⟩, rfl, fun i x v hx => by simp at hx⟩
    (fun x args W0 a' W' => ∃ (rb : Nat) (pa : Option Addr) (pn pc : Nat), args = #[.agg (recCells x.1 x.2 (.slice pa pn pc)).toArray] ∧ W0.heap.size ≤ rb ∧ Whole W' rb 122 (recCells x.1 x.2 (.slice pa pn pc)) ∧ W'.ownsRow U.heap.size 5 1 (.slice pa pn pc) x.2.pay.length (x.2.pay.map bv) ∧
      a' = { tmps := #[.slice a N cap, undef, .slice none 0 0, .pointer (some ⟨w.heap.size, 0, none⟩), .pointer (some ⟨rb, 0, none⟩), .slice a N cap, .func (.func 104) #[] #[.pointer (some ⟨bx, 0, none⟩)], .agg (recCells x.1 x.2 (.slice pa pn pc)).toArray, undef, undef, undef, undef, undef], defers := [] }) ?assign ?out ?body ?done
  case out =>
    rintro x args W0 a' W' lp o o' ho hc ⟨rb, pa, pn, pc, h1, h2, h3, h4, h5⟩
    exact ⟨rb, pa, pn, pc, h1, h2, putObj_cells ho hc h3 rfl, owns_putObj ho hc h4, h5⟩
  case assign =>
    rintro l k ⟨t, z, kd, py⟩ args W0 W1 K hx hb01 ⟨pa, pn, pc, rfl, ho⟩ hK
    have HK := Lib.hid hK
    have HO := Lib.hid ho
    clear hK ho hx
    dsimp only [recCells]
    gi_wp2
    exact HK.out _ _ ((Below.refl _ W1).alloc (Nat.le_refl _) _) ⟨W1.heap.size, pa, pn, pc, rfl, hb01.size, Whole.new W1 _ [_, _, _, _], World.ownsRow.keeps HO.out (Keeps.alloc [] _ _) (by simp), rfl⟩
  case body =>
    rintro l k ⟨t, z, kd, py⟩ args W0 a' W' hx ⟨_, ao, cp, vs, w0, ho0, hr0⟩ hsz hle ⟨kW, _⟩ ⟨rb, pa, pn, pc, rfl, hrb, wrb, hop, rfl⟩ hcU
    obtain ⟨i0, hi, hz0, hz1, hz2⟩ := info_parts infoRecord
    have hk : k < (rowL b).length := (List.getElem?_eq_some_iff.1 hx).1
    have hcnt := rowL_count b
    rw [← HN.out] at hcnt
    have hlen : ((rowL b).take k).length = k := by simp; omega
    have htake : (rowL b).take (k + 1) = (rowL b).take k ++ [(t, ⟨z, kd, py⟩)] := by rw [List.take_add_one, hx]; rfl
    rw [hlen] at w0 ho0
    have w1 : Whole W' w.heap.size 106 [.slice ao k cp] := hcU _ _ w0.lt w0 rfl
    have ho1 := owns_cellsKept hcU (Nat.le_refl _) ho0
    have hr1 : RecsIn U.heap.size W' ((rowL b).take k) vs := ⟨hr0.len, fun i x v hx hv => owns_cellsKept hcU (Nat.le_refl _) (hr0.pay i x v hx hv)⟩
    have c0 := (w1.cell 0).trans (show _ = some (Value.slice ao k cp) from rfl)
    have d0 := (wrb.cell 0).trans (show _ = some (Value.int .i64 (t : Int)) from rfl)
    have d1 := (wrb.cell 1).trans (show _ = some (Value.int .i64 (z : Int)) from rfl)
    have d2 := (wrb.cell 2).trans (show _ = some (Value.int .u8 (kd.toNat : Int)) from rfl)
    have d3 := (wrb.cell 3).trans (show _ = some (Value.slice pa pn pc) from rfl)
    have hbl : w.heap.size < W0.heap.size := w0.lt
    have HT := Lib.hid htake
    have H1 := Lib.hid ho1
    have HR1 := Lib.hid hr1
    have HOP := Lib.hid hop
    have W1 := Lib.hid w1
    have HLT := Lib.hid (fun g hg => ho0.lt g hg)
    have KW := Lib.hid kW
    clear hx w0 ho0 hr0 htake ho1 hr1 hop w1 kW wrb hcU hlen
    dsimp only [recCells] at *
    gi_wp2_with (gi_at_builtin; refine wpListIn_append_own _ rfl _ _ 106 rfl U.heap.size 122 i0 (.agg #[.int .i64 0, .int .i64 0, .int .u8 0, .slice none 0 0]) 4 48 Tryz.underlying106 hi hz0 hz1 hz2 rfl (by decide) (.slice ao k cp) k (recsCells ((rowL b).take k) vs) rfl (H1.out.alloc _) ⟨W'.heap.size, 0, none⟩ 1 1 [.int .i64 t, .int .i64 z, .int .u8 (kd.toNat : Int), .slice pa pn pc] rfl rfl ?c1 ?c2 ?c3 ?c4 ?c5 ?_)
    case c1 =>
      intro i u hu
      rw [Addr.add_off, Nat.zero_add, cell_alloc_new]
      simpa using hu
    case c2 => intro u hu; simp at hu; rcases hu with rfl | rfl | rfl | rfl <;> rfl
    case c3 => unfold maxLen; omega
    case c4 => omega
    case c5 => simp; omega
    intro v3 w3 hown3 hg3 _
    obtain ⟨ao3, cp3, rfl⟩ := owns_shape2 hown3
    have kA : Keeps [] W' (W'.alloc (.cells #[Value.int .i64 t, Value.int .i64 z, Value.int .u8 (kd.toNat : Int), Value.slice pa pn pc] 122)) := Keeps.alloc [] _ _
    have k3 := Keeps.grown (S := (Value.slice ao k cp).ownBlock.toList) hg3 (fun j hj => .inl (by rw [hj]; simp))
    have k13 : Keeps (Value.slice ao k cp).ownBlock.toList W' w3 := (kA.mono (by simp)).trans k3
    have hng : w.heap.size ∉ (Value.slice ao k cp).ownBlock.toList := fun hm => by
      have := (HLT.out w.heap.size (by simpa using hm)).1
      omega
    have w13 := W1.out.keeps k13 hng
    have q0 := (w13.cell 0).trans (show _ = some (Value.slice ao k cp) from rfl)
    have q1 := w13.frozen 0
    have H3 := Lib.hid hown3
    have K13 := Lib.hid k13
    have W13 := Lib.hid w13
    clear hown3 hg3 kA k3 k13 w13 c0 d0 d1 d2 d3
    gi_wp2
    have wX := W13.out.set 0 (.slice ao3 (k + 1) cp3)
    have kS : Keeps [w.heap.size] w3 (w3.setCell ⟨w.heap.size, 0, none⟩ (.slice ao3 (k + 1) cp3)) := Keeps.setCell _ (by simp) _
    have kX : Keeps (w.heap.size :: (Value.slice ao k cp).ownBlock.toList) W' (w3.setCell ⟨w.heap.size, 0, none⟩ (.slice ao3 (k + 1) cp3)) :=
      (K13.out.mono (fun x hx => by simp [hx])).trans (kS.mono (fun x hx => by simp at hx; simp [hx]))
    have hlen : ((rowL b).take (k + 1)).length = k + 1 := by simp; omega
    refine ⟨⟨kX.size, fun j o hj ho hc => kX.obj ho (fun hm => ?_)⟩, Kept.ofKeeps kX (fun x hx => ?_), KW.out.then kX (fun x hx => ?_), ao3, cp3, vs ++ [.slice pa pn pc], ?_, ?_, ?_⟩
    · rcases List.mem_cons.1 hm with h | h
      · subst h
        have := W1.out
        unfold Whole at this
        rw [this] at ho; cases ho; cases hc
      · obtain ⟨cur, hcur⟩ := owns_heap H1.out (g := j) (by simpa using h)
        rw [hcur] at ho; cases ho; cases hc
    · rcases List.mem_cons.1 hx with h | h
      · subst h; exact ⟨.inr (by simp), hbl⟩
      · have := HLT.out x (by simpa using h)
        exact ⟨.inl this.1, this.2⟩
    · rcases List.mem_cons.1 hx with h | h
      · subst h; exact .inr (Nat.le_refl _)
      · have := HLT.out x (by simpa using h)
        exact .inr (by omega)
    · rw [hlen]; exact wX
    · rw [hlen, HT.out, recsCells_snoc _ _ _ _ HR1.out.len]
      exact World.ownsRow.keeps H3.out kS (fun g hg hm => by
        have := (H3.out.lt g hg).1
        simp at hm; omega)
    · have hS : ∀ x ∈ (w.heap.size :: (Value.slice ao k cp).ownBlock.toList), x < U.heap.size ∨ ∃ cur T', W'.heap[x]? = some (.cells cur T' (0, 0)) ∧ T' ≠ 5 := by
        intro x hx
        rcases List.mem_cons.1 hx with h | h
        · exact .inl (by omega)
        · obtain ⟨cur, hcur⟩ := owns_heap H1.out (g := x) (by simpa using h)
          exact .inr ⟨cur, _, hcur, by decide⟩
      rw [HT.out]
      exact RecsIn.snoc ⟨HR1.out.len, fun i x v hx hv => owns_keepsT (HR1.out.pay i x v hx hv) kX hS⟩ _ _ (owns_keepsT HOP.out kX hS)
  case done =>
    rintro D W hD ⟨hkW, ao, cp, vs, hw, ho, hr⟩ hdef
    rw [List.take_length] at hw ho hr
    have c0 := (hw.cell 0).trans (show _ = some (Value.slice ao (rowL b).length cp) from rfl)
    have HO := Lib.hid ho
    have HR := Lib.hid hr
    have HKW := Lib.hid hkW
    have HD := Lib.hid hdef
    have HWL := Lib.hid (show w.heap.size < (W.putObj D (.deferred Option.none)).heap.size by have := hw.lt; simpa [World.putObj] using this)
    clear hw ho hr hkW hdef
    obtain ⟨nn, hnn⟩ : ∃ nn, nn = (rowL b).length := ⟨_, rfl⟩
    have HNN := Lib.hid hnn
    rw [← hnn] at c0 HO
    clear hnn
    go_wp2
    refine ⟨by simp, .inl ⟨_, _, rfl, run_takeDeferred HD.out, ?_⟩⟩
    refine ⟨.slice ao nn cp, by simp [results, Tryz.results56, go_sem], ?_⟩
    have hp : ∀ (base : Nat) (T : TypeId) (size n : Nat) (v : Value) (xs : List Value), W.ownsRow base T size v n xs → (W.putObj D (.deferred Option.none)).ownsRow base T size v n xs := fun _ _ _ _ _ _ h => owns_putObj HD.out rfl h
    refine ⟨ao, cp, vs, by rw [HNN.out], ?_, ⟨HR.out.len, fun i x v hx hv => hp _ _ _ _ _ _ (World.ownsRow.mono (HR.out.pay i x v hx hv) (by omega))⟩, keeps_putObj HKW.out (by omega), HWL.out⟩
    rw [← HNN.out]
    exact hp _ _ _ _ _ _ (World.ownsRow.mono HO.out (by omega))

/-- Where a row that begins at 0 ends. -/
def endK (b : List UInt8) : Nat := placeK b (rowL b).length

set_option maxRecDepth 100000 in
set_option maxHeartbeats 1000000 in
theorem recEnd_any (w : World) (v : Value) (b : List UInt8) (M₀ : Nat) (h₀ : Reads w v b M₀) (hl : b.length ≤ 100000) (hM₀ : b ≠ [] → M₀ < w.heap.size) :
    Calls Tryz.prog 58 #[v] w fun e w' => e = .returned (.int .i64 (endK b)) ∧ Keeps [] w w' := by
  obtain ⟨M, h, hM, hM2⟩ := h₀.aside hM₀
  clear h₀ hM₀
  obtain ⟨a, cap, rfl, hcap⟩ := h.shape
  obtain ⟨N, hN⟩ : ∃ N, N = b.length := ⟨_, rfl⟩
  have HN := Lib.hid hN
  have HV := Lib.hid h
  rw [← hN] at HV hl ⊢
  clear hN h hcap
  refine (callsIn_wide (n := 3)).1 ?_
  refine callsIn_of_wp_marks Tryz.func58 rfl trivial ?_ rfl
  simp only [Tryz.ntmps58, List.size_toArray, List.length_cons, List.length_nil, Nat.reduceAdd, Nat.reduceSub, Array.replicate_succ, Array.replicate_zero, List.push_toArray, List.append_toArray, List.nil_append, List.cons_append]
  refine wpIn_wide.2 ?_
  go_upto_region 2 with (fail)
  generalize hV : World.alloc w _ = V
  have w0 : Whole V w.heap.size 3 [.int .i64 0] := by rw [← hV]; exact Whole.new w _ [_]
  have kV : Keeps [] w V := by rw [← hV]; exact Keeps.alloc [] _ _
  have W0 := Lib.hid w0
  have KV := Lib.hid kV
  have HVV := Lib.hid (HV.out.keeps kV (by simp))
  have sV := w0.lt
  clear hV w0 kV
  go_wp2_with (go_at_call 85; refine (row_any _ _ _ _).mono ?_; rintro e w' ⟨rfl, rfl⟩)
  generalize hU : World.alloc V _ = U
  have kU : Keeps [] V U := by rw [← hU]; exact Keeps.alloc [] _ _
  have hbx : U.cell? ⟨V.heap.size, 0, none⟩ = some (.slice a N cap) := by rw [← hU, cell_alloc_new]; rfl
  have sU : V.heap.size < U.heap.size := by rw [← hU]; simp
  have HBX := Lib.hid hbx
  have HU := Lib.hid (HVV.out.keeps kU (by simp))
  have WU := Lib.hid (W0.out.keeps kU (by simp))
  have KU := Lib.hid (KV.out.trans kU)
  clear hU kU hbx
  have hys := rowFn_yields 2 U.heap.size [w.heap.size] U b (.slice a N cap) V.heap.size M (by rw [← HN.out]; exact hl) HU.out HBX.out ⟨sU, by simp; omega⟩ ⟨by omega, by simp; omega⟩
  generalize V.heap.size = bx at *
  refine (wpIn_wide (n := 3)).1 ?_
  refine wpIn_range_made (n := 3) (gf := 104) (lb := #[.pointer (some ⟨bx, 0, none⟩)]) rfl (enters_of Tryz.func104 (by kernel_rfl) rfl) hys (Keeps.refl _ _)
    (fun x args W ⟨_, _, _, h, _⟩ => by rw [h]; rfl)
    (fun k W => Keeps [] w W ∧ Whole W w.heap.size 3 [.int .i64 (placeK b k)])
    (fun k A B hb h => ⟨h.1.trans (Keeps.ofBelow hb), h.2.keeps (Keeps.ofBelow (S := []) hb) (by simp)⟩)
    (fun k W lp o o' hl ho hc h => ⟨keeps_putObj h.1 (by omega), putObj_cells ho hc h.2 rfl⟩)
    ⟨KU.out, WU.out⟩
    (fun x args W0 a' W' => ∃ (rb : Nat) (pa : Option Addr) (pn pc : Nat), args = #[.agg (recCells x.1 x.2 (.slice pa pn pc)).toArray] ∧ W0.heap.size ≤ rb ∧ Whole W' rb 122 (recCells x.1 x.2 (.slice pa pn pc)) ∧
      a' = { tmps := #[.slice a N cap, undef, .int .i64 0, .pointer (some ⟨w.heap.size, 0, none⟩), .pointer (some ⟨rb, 0, none⟩), .slice a N cap, .func (.func 104) #[] #[.pointer (some ⟨bx, 0, none⟩)], .agg (recCells x.1 x.2 (.slice pa pn pc)).toArray, undef, undef, undef, undef, undef, undef], defers := [] }) ?assign ?out ?body ?done
  case out =>
    rintro x args W0 a' W' lp o o' ho hc ⟨rb, pa, pn, pc, h1, h2, h3, h5⟩
    exact ⟨rb, pa, pn, pc, h1, h2, putObj_cells ho hc h3 rfl, h5⟩
  case assign =>
    rintro l k ⟨t, z, kd, py⟩ args W0 W1 K hx hb01 ⟨pa, pn, pc, rfl, ho⟩ hK
    have HK := Lib.hid hK
    clear hK ho hx
    dsimp only [recCells]
    gi_wp2
    exact HK.out _ _ ((Below.refl _ W1).alloc (Nat.le_refl _) _) ⟨W1.heap.size, pa, pn, pc, rfl, hb01.size, Whole.new W1 _ [_, _, _, _], rfl⟩
  case body =>
    rintro l k ⟨t, z, kd, py⟩ args W0 a' W' hx ⟨_, w0⟩ hsz hle ⟨kW, w1⟩ ⟨rb, pa, pn, pc, rfl, hrb, wrb, rfl⟩ hcU
    have hlt : placeK b k < writtenN b := by
      by_cases h : placeK b k < writtenN b
      · exact h
      · have := rowL_end b k h
        have := (List.getElem?_eq_some_iff.1 hx).1
        omega
    have hg := rowL_get b k hlt
    rw [hx] at hg
    have hs := placeK_succ b k hlt
    obtain ⟨h1, h2⟩ : t = placeK b k ∧ firstL (b.drop (placeK b k)) = ⟨z, kd, py⟩ := by simp at hg; exact ⟨hg.1, hg.2.symm⟩
    rw [h2, ← h1] at hs
    dsimp only at hs
    have hple := placeK_le b (k + 1)
    rw [hs, ← HN.out] at hple
    have c0 := (w1.cell 0).trans (show _ = some (Value.int .i64 (placeK b k : Int)) from rfl)
    have d0 := (wrb.cell 0).trans (show _ = some (Value.int .i64 (t : Int)) from rfl)
    have d1 := (wrb.cell 1).trans (show _ = some (Value.int .i64 (z : Int)) from rfl)
    have f0 := w1.frozen 0
    have hbl : w.heap.size < W0.heap.size := w0.lt
    have HS := Lib.hid hs
    have W1 := Lib.hid w1
    have KW := Lib.hid kW
    clear hx w0 w1 kW wrb hcU hg hlt h1 h2 hs
    dsimp only [recCells] at *
    gi_wp2
    have kS : Keeps [w.heap.size] W' (W'.setCell ⟨w.heap.size, 0, none⟩ (.int .i64 ((t : Int) + (z : Int)))) := Keeps.setCell _ (by simp) _
    have wX := W1.out.set 0 (.int .i64 ((t : Int) + (z : Int)))
    refine ⟨⟨kS.size, fun j o hj ho hc => kS.obj ho (fun hm => ?_)⟩, Kept.ofKeeps kS (fun x hx => ?_), KW.out.then kS (fun x hx => ?_), ?_⟩
    · simp at hm; subst hm
      have := W1.out
      unfold Whole at this
      rw [this] at ho; cases ho; cases hc
    · simp at hx; subst hx; exact ⟨.inr (by simp), hbl⟩
    · simp at hx; subst hx; exact .inr (Nat.le_refl _)
    · rw [HS.out, show ((t + z : Nat) : Int) = (t : Int) + (z : Int) by omega]; exact wX
  case done =>
    rintro D W hD ⟨hkW, hw⟩ hdef
    have c0 := (hw.cell 0).trans (show _ = some (Value.int .i64 (placeK b (rowL b).length : Int)) from rfl)
    have HKW := Lib.hid hkW
    have HD := Lib.hid hdef
    clear hw hkW hdef
    obtain ⟨nn, hnn⟩ : ∃ nn, nn = placeK b (rowL b).length := ⟨_, rfl⟩
    have HNN := Lib.hid (show endK b = nn from hnn.symm)
    rw [← hnn] at c0
    clear hnn
    go_wp2
    refine ⟨by simp, .inl ⟨_, _, rfl, run_takeDeferred HD.out, ?_⟩⟩
    exact ⟨.int .i64 nn, by simp [results, Tryz.results58, go_sem], by rw [HNN.out], keeps_putObj HKW.out (by omega)⟩
end Go.Proofs.YtlnmbfddhdjioaaGreat
