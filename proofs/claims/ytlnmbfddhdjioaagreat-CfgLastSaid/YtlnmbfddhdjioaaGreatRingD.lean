/-
  Contracts of ring: the closures that choose; lists of headers, as they lie.
-/
import Derived.Test.YtlnmbfddhdjioaaGreatRingC
import Derived.Laws.ResultCell
namespace Go.Proofs.YtlnmbfddhdjioaaGreat
open Go.RowKit

theorem results_row_tmp {P : Program} {fn : Func} {p u : Tmp} {ty : TypeId} (h : fn.results = #[.cell p ty, .tmp u]) (tmps : Array Value) (w : World) (g : Nat) (t : TypeId) (cs : Array Value) (fr : Nat × Nat) (d : TypeDesc)
    (hp : tmps.getD p undef = .pointer (some ⟨g, 0, none⟩)) (hg : w.heap[g]? = some (.cells cs t fr))
    (hu : P.underlying ty = some d) (hd : (match d with | .struct _ | .array _ _ => true | _ => false) = true) (hi : (P.info? ty).map (·.size) = some cs.size) (v : Value) (hv : tmps.getD u undef = v) :
    (results fn tmps).run P w = .ok (.tuple #[.agg cs, v]) w := by
  rw [results_cell_tmp h, hp, hv]
  simp [asAddr, run_loadVar_row w g t ty cs fr d hg hu hd hi, Result.andThen]

/-- A list of headers, as it lies. -/
def HdrsAt (w : World) (v : Value) (hs : List Hdr) : Prop :=
  ∃ (ao : Option Addr) (cap : Nat), v = .slice ao hs.length cap ∧ hs.length ≤ cap ∧ ∀ (i : Nat) (x : Hdr), hs[i]? = some x → ∃ g : Nat, ao = some ⟨g, 0, none⟩ ∧ g < w.heap.size ∧
    w.cell? ⟨g, i * 3, none⟩ = some (.int .i64 x.sector) ∧ w.cell? ⟨g, i * 3 + 1, none⟩ = some (.int .u8 (x.kind.toNat : Int)) ∧ w.cell? ⟨g, i * 3 + 2, none⟩ = some (.int .u32 (x.num.toNat : Int))

theorem HdrsAt.keeps {S : List Nat} {w w' : World} {v : Value} {hs : List Hdr} (h : HdrsAt w v hs) (hk : Keeps S w w') (hS : ∀ x ∈ S, w.heap.size ≤ x) : HdrsAt w' v hs := by
  obtain ⟨ao, cap, hv, hl, hc⟩ := h
  refine ⟨ao, cap, hv, hl, fun i x hx => ?_⟩
  obtain ⟨g, h1, hg, c0, c1, c2⟩ := hc i x hx
  have hn : g ∉ S := fun hm => by have := hS g hm; omega
  exact ⟨g, h1, by have := hk.size; omega, hk.cell c0 hn, hk.cell c1 hn, hk.cell c2 hn⟩

/-- Lists that blocks that are written do not touch. -/
theorem HdrsAt.keepsBut {S : List Nat} {w w' : World} {ao : Option Addr} {n cap : Nat} {hs : List Hdr} (h : HdrsAt w (.slice ao n cap) hs) (hk : Keeps S w w') (hS : ∀ g, ao = some ⟨g, 0, none⟩ → g ∉ S) : HdrsAt w' (.slice ao n cap) hs := by
  obtain ⟨ao', cap', hv, hl, hc⟩ := h
  simp at hv
  obtain ⟨rfl, rfl, rfl⟩ := hv
  refine ⟨ao, cap, rfl, hl, fun i x hx => ?_⟩
  obtain ⟨g, h1, hg, c0, c1, c2⟩ := hc i x hx
  have hn : g ∉ S := hS g h1
  exact ⟨g, h1, by have := hk.size; omega, hk.cell c0 hn, hk.cell c1 hn, hk.cell c2 hn⟩

theorem HdrsAt.shape {w : World} {v : Value} {hs : List Hdr} (h : HdrsAt w v hs) : ∃ ao cap, v = .slice ao hs.length cap ∧ hs.length ≤ cap := by
  obtain ⟨ao, cap, rfl, hl, _⟩ := h; exact ⟨ao, cap, rfl, hl⟩

theorem HdrsAt.nil (w : World) : HdrsAt w (.slice none 0 0) [] := ⟨none, 0, rfl, Nat.le_refl _, fun i x hx => by simp at hx⟩

/-- The first ones of a list. -/
theorem HdrsAt.take {w : World} {ao : Option Addr} {n cap : Nat} {hs : List Hdr} (h : HdrsAt w (.slice ao n cap) hs) (k : Nat) (hk : k ≤ hs.length) : HdrsAt w (.slice ao k cap) (hs.take k) := by
  obtain ⟨ao', cap', hv, hl, hc⟩ := h
  simp at hv
  obtain ⟨rfl, rfl, rfl⟩ := hv
  have hlen : (hs.take k).length = k := by simp; omega
  refine ⟨ao, cap, by rw [hlen], by omega, fun i x hx => ?_⟩
  rw [List.getElem?_take] at hx
  split at hx
  · exact hc i x hx
  · cases hx

def hdrsCells (hs : List Hdr) : List Value := hs.flatMap hdrCells

theorem hdrsCells_length (hs : List Hdr) : (hdrsCells hs).length = hs.length * 3 := by
  induction hs with
  | nil => rfl
  | cons x hs ih => unfold hdrsCells at *; rw [List.flatMap_cons, List.length_append, ih]; simp [hdrCells]; omega

theorem hdrsCells_get : ∀ (hs : List Hdr) (i : Nat) (x : Hdr) (j : Nat), hs[i]? = some x → j < 3 → (hdrsCells hs)[i * 3 + j]? = (hdrCells x)[j]?
  | [], i, x, j, h, _ => by simp at h
  | y :: hs, 0, x, j, h, hj => by
    simp at h; subst h
    unfold hdrsCells
    rw [List.flatMap_cons, Nat.zero_mul, Nat.zero_add, List.getElem?_append_left (by simpa [hdrCells] using hj)]
  | y :: hs, i + 1, x, j, h, hj => by
    unfold hdrsCells
    rw [List.flatMap_cons, List.getElem?_append_right (by simp [hdrCells]; omega), show (i + 1) * 3 + j - (hdrCells y).length = i * 3 + j by simp [hdrCells]; omega]
    exact hdrsCells_get hs i x j (by simpa using h) hj

theorem hdrsCells_snoc (hs : List Hdr) (x : Hdr) : hdrsCells (hs ++ [x]) = hdrsCells hs ++ hdrCells x := by
  unfold hdrsCells; rw [List.flatMap_append]; simp

/-- Of a row of cells, at the head of a block. -/
theorem HdrsAt.ofCells {w : World} {g n cap : Nat} {hs : List Hdr} (hn : n = hs.length) (hc : n ≤ cap) (hg : g < w.heap.size) (h : ∀ (j : Nat) (v : Value), (hdrsCells hs)[j]? = some v → w.cell? ⟨g, j, none⟩ = some v) : HdrsAt w (.slice (some ⟨g, 0, none⟩) n cap) hs := by
  subst hn
  refine ⟨_, cap, rfl, hc, fun i x hx => ⟨g, rfl, hg, ?_, ?_, ?_⟩⟩
  · exact h _ _ (by have := hdrsCells_get hs i x 0 hx (by decide); rw [Nat.add_zero] at this; rw [this]; rfl)
  · exact h _ _ (by rw [hdrsCells_get hs i x 1 hx (by decide)]; rfl)
  · exact h _ _ (by rw [hdrsCells_get hs i x 2 hx (by decide)]; rfl)

theorem HdrsAt.ofOwn {w : World} {base : Nat} {v : Value} {hs : List Hdr} (h : w.ownsRow base 60 3 v hs.length (hdrsCells hs)) : HdrsAt w v hs := by
  rcases h.2 with ⟨rfl, h0⟩ | ⟨g, cap, cur, rfl, _, hg, h1, _⟩
  · have : hs = [] := List.eq_nil_of_length_eq_zero h0
    subst this
    exact HdrsAt.nil w
  · refine HdrsAt.ofCells rfl h1 (Array.getElem?_eq_some_iff.1 hg).1 fun j u hu => ?_
    have := h.cells rfl j u hu
    rwa [Addr.add_off, Nat.zero_add] at this

set_option maxHeartbeats 400000 in
theorem live_any (w : World) (h : Hdr) : Calls Tryz.prog 43 #[.agg #[.int .i64 h.sector, .int .u8 (h.kind.toNat : Int), .int .u32 (h.num.toNat : Int)]] w fun e w' => e = .returned (.bool (liveH h)) ∧ Keeps [] w w' := by
  obtain ⟨k, kd, x⟩ := h
  have e : liveH ⟨k, kd, x⟩ = ((kd.toNat : Int) == 1) := by
    unfold liveH
    simp only
    have h2 : kd = 1 ↔ kd.toNat = 1 := ⟨fun h => by rw [h]; rfl, fun h => UInt8.toNat_inj.1 (by rw [h]; rfl)⟩
    rw [Bool.eq_iff_iff]
    simp only [beq_iff_eq, h2]
    omega
  rw [e]
  dsimp only
  clear e
  generalize (kd.toNat : Int) = z at *
  generalize (x.toNat : Int) = y at *
  go_enter Tryz.func43, Tryz.ntmps43
  go_wp2
  go_ret
  exact ⟨rfl, Keeps.alloc [] _ _⟩

set_option maxHeartbeats 400000 in
theorem newer_any (w : World) (a b : Hdr) : Calls Tryz.prog 44 #[.agg #[.int .i64 a.sector, .int .u8 (a.kind.toNat : Int), .int .u32 (a.num.toNat : Int)], .agg #[.int .i64 b.sector, .int .u8 (b.kind.toNat : Int), .int .u32 (b.num.toNat : Int)]] w fun e w' => e = .returned (.bool (newerH a b)) ∧ Keeps [] w w' := by
  have e : newerH a b = decide ((b.num.toNat : Int) < (a.num.toNat : Int)) := by
    unfold newerH; exact decide_eq_decide.2 (by omega)
  rw [e]
  clear e
  generalize (a.num.toNat : Int) = x at *
  generalize (b.num.toNat : Int) = y at *
  generalize (a.kind.toNat : Int) = ka at *
  generalize (b.kind.toNat : Int) = kb at *
  go_enter Tryz.func44, Tryz.ntmps44
  go_wp2
  go_ret
  exact ⟨rfl, (Keeps.alloc [] _ _).trans (Keeps.alloc [] _ _)⟩

set_option maxHeartbeats 400000 in
theorem other_any (w : World) (h : Hdr) (bx : Nat) (but : Int) (hb : w.cell? ⟨bx, 0, none⟩ = some (.int .i64 but)) : Calls Tryz.prog 115 #[.agg #[.int .i64 h.sector, .int .u8 (h.kind.toNat : Int), .int .u32 (h.num.toNat : Int)], .pointer (some ⟨bx, 0, none⟩)] w fun e w' => e = .returned (.bool (otherH but h)) ∧ Keeps [] w w' := by
  have e : otherH but h = (h.sector != but) := rfl
  rw [e]
  clear e
  generalize h.sector = k at *
  generalize (h.kind.toNat : Int) = z at *
  generalize (h.num.toNat : Int) = y at *
  have hb' : (w.alloc (.cells #[.int .i64 k, .int .u8 z, .int .u32 y] 60)).cell? ⟨bx, 0, none⟩ = some (.int .i64 but) := (Keeps.alloc [] w _).cell hb (by simp)
  go_enter Tryz.func115, Tryz.ntmps115
  go_wp2
  go_ret
  exact ⟨rfl, Keeps.alloc [] _ _⟩

theorem Wear_any {F B W M : Nat} {s : FS} (w : World) (h : FlashAt w F B W M s) (a : Int) :
    Calls Tryz.prog 117 #[.pointer (some ⟨F, 0, none⟩), .int .i64 a] w fun e w' => e = .returned (.int .i64 (s.wearOf a)) ∧ w = w' := by
  unfold FS.wearOf
  by_cases ha : 0 ≤ a ∧ a < s.wear.length
  · rw [if_pos ha]
    obtain ⟨A, rfl⟩ := Int.eq_ofNat_of_zero_le ha.1
    refine Wear_yes w h A _ ?_
    rw [Int.toNat_natCast, List.getD_eq_getElem?_getD, List.getElem?_eq_getElem (by omega)]
    rfl
  · rw [if_neg ha]
    exact Wear_out w h a ha

set_option maxRecDepth 100000 in
set_option maxHeartbeats 400000 in
theorem fresher_any {F B W M : Nat} {s : FS} (w : World) (hF : FlashAt w F B W M s) (a b : Hdr) (fx : Nat) (hf : w.cell? ⟨fx, 0, none⟩ = some (.pointer (some ⟨F, 0, none⟩))) :
    Calls Tryz.prog 116 #[.agg #[.int .i64 a.sector, .int .u8 (a.kind.toNat : Int), .int .u32 (a.num.toNat : Int)], .agg #[.int .i64 b.sector, .int .u8 (b.kind.toNat : Int), .int .u32 (b.num.toNat : Int)], .pointer (some ⟨fx, 0, none⟩)] w fun e w' => e = .returned (.bool (s.fresher a b)) ∧ Keeps [] w w' := by
  have e : s.fresher a b = decide (s.wearOf a.sector < s.wearOf b.sector) := rfl
  rw [e]
  clear e
  have HW := Lib.hid (fun U (hk : Keeps [] w U) k => Wear_any U (hF.keeps hk (by simp) (by simp) (by simp) (by simp)) k)
  have HF := Lib.hid (fun U (hk : Keeps [] w U) => hk.cell hf (by simp))
  clear hF
  generalize a.sector = k at *
  generalize b.sector = l at *
  generalize (a.num.toNat : Int) = x at *
  generalize (b.num.toNat : Int) = y at *
  generalize (a.kind.toNat : Int) = ka at *
  generalize (b.kind.toNat : Int) = kb at *
  generalize hwk : s.wearOf k = wk at *
  generalize hwl : s.wearOf l = wl at *
  go_enter Tryz.func116, Tryz.ntmps116
  go_upto_region 1 with (fail)
  generalize hU : World.alloc (World.alloc w _) _ = U
  have kU : Keeps [] w U := by rw [← hU]; exact (Keeps.alloc [] _ _).trans (Keeps.alloc [] _ _)
  have w1 : Whole U w.heap.size 60 [.int .i64 k, .int .u8 ka, .int .u32 x] := by
    rw [← hU]; exact (Whole.new w 60 [_, _, _]).keeps (Keeps.alloc [] _ _) (by simp)
  have w2 : Whole U (w.heap.size + 1) 60 [.int .i64 l, .int .u8 kb, .int .u32 y] := by
    rw [← hU]; exact Whole.new_at _ 60 [_, _, _] _ (by simp)
  have q1 := (w1.cell 0).trans (show _ = some (Value.int .i64 k) from rfl)
  have q2 := (w2.cell 0).trans (show _ = some (Value.int .i64 l) from rfl)
  have q3 := HF.out U kU
  have KU := Lib.hid kU
  have HW1 := Lib.hid (fun n => (HW.out (U.drewN n) (kU.trans (Keeps.drewN _ _ _)) k).mono (R' := fun e w' => e = .returned (.int .i64 wk) ∧ w' = U.drewN n) fun _ _ h => ⟨by rw [h.1, hwk], h.2.symm⟩)
  have HW2 := Lib.hid (fun n => (HW.out (U.drewN n) (kU.trans (Keeps.drewN _ _ _)) l).mono (R' := fun e w' => e = .returned (.int .i64 wl) ∧ w' = U.drewN n) fun _ _ h => ⟨by rw [h.1, hwl], h.2.symm⟩)
  clear hU w1 w2 kU HW HF hwk hwl
  go_quiet ((go_at_call 117; first | (with_reducible exact Calls.quiet_of_same (HW1.out _)) | (with_reducible exact Calls.quiet_of_same (HW2.out _))))
  go_wp2
  go_ret
  exact ⟨rfl, KU.out.trans (Keeps.drewN _ _ _)⟩
end Go.Proofs.YtlnmbfddhdjioaaGreat
