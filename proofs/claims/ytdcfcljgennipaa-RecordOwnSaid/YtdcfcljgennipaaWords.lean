/-
  Words for numbers of 32 bits, whole blocks, arrays that are filled, and slice expressions over bytes. No function of the program is named here.
-/
import Derived.Test.YtdcfcljgennipaaRows
import Derived.Test.YtdcfcljgennipaaVoc
import Derived.Test.YtdcfcljgennipaaBase
import Derived.Deep.QuietTactic
import Derived.Deep.Slices
import Derived.BigQuiet
import Derived.Outline
import Derived.Laws.Rows
import Derived.Laws.CopyRow
import Derived.Deep.MidRow
import Derived.Lib.SlBytesConst
namespace Go.Proofs.Ytdcfcljgennipaa
open Go.RowKit

/-- A number of 32 bits as a value. -/
abbrev uv (x : BitVec 32) : Value := .int .u32 (x.toNat : Int)

theorem bits_ofInt (x : BitVec 32) : BitVec.ofInt IntKind.u32.bits (x.toNat : Int) = x := by
  show BitVec.ofInt 32 (x.toNat : Int) = x
  simp

theorem wrap_nat32 (x : BitVec 32) : IntKind.u32.wrap (x.toNat : Int) = x.toNat := by
  have := x.isLt
  exact IntWalk.u32_in _ (by omega)

theorem bits_xor32 (x y : BitVec 32) : bits .xor .u32 (x.toNat : Int) (y.toNat : Int) = ((x ^^^ y).toNat : Int) := by
  unfold bits
  simp only [bits_ofInt]
  exact wrap_nat32 _

theorem bits_and32 (x y : BitVec 32) : bits .and .u32 (x.toNat : Int) (y.toNat : Int) = ((x &&& y).toNat : Int) := by
  unfold bits
  simp only [bits_ofInt]
  exact wrap_nat32 _

theorem bits_or32 (x y : BitVec 32) : bits .or .u32 (x.toNat : Int) (y.toNat : Int) = ((x ||| y).toNat : Int) := by
  unfold bits
  simp only [bits_ofInt]
  exact wrap_nat32 _

theorem bits_not32 (s : BitVec 32) : bits .xor .u32 4294967295 (s.toNat : Int) = ((~~~ s).toNat : Int) := by
  have h : (4294967295 : Int) = ((BitVec.allOnes 32).toNat : Int) := rfl
  rw [h, bits_xor32, BitVec.allOnes_xor]

theorem add32 (x y : BitVec 32) : IntKind.u32.wrap ((x.toNat : Int) + (y.toNat : Int)) = ((x + y).toNat : Int) := by
  rw [BitVec.toNat_add]
  show ((x.toNat : Int) + y.toNat) % 4294967296 = _
  omega

theorem add32m (x y : BitVec 32) : ((x.toNat : Int) + (y.toNat : Int)) % 4294967296 = ((x + y).toNat : Int) := add32 x y

theorem shr32 (s : BitVec 32) (k : Nat) : (s.toNat : Int) / (2 : Int) ^ k = ((s >>> k).toNat : Int) := by
  rw [BitVec.toNat_ushiftRight, Nat.shiftRight_eq_div_pow, Int.natCast_ediv, Int.natCast_pow]; rfl

theorem shl32 (s : BitVec 32) (k : Nat) : IntKind.u32.wrap ((s.toNat : Int) * (2 : Int) ^ k) = ((s <<< k).toNat : Int) := by
  rw [BitVec.toNat_shiftLeft, Nat.shiftLeft_eq]
  show ((s.toNat : Int) * 2 ^ k) % 4294967296 = _
  rw [Int.natCast_emod, Int.natCast_mul, Int.natCast_pow]
  rfl

theorem byte32 (c : UInt8) : (c.toNat : Int) = ((c.toBitVec.setWidth 32).toNat : Int) := by
  have : c.toNat < 256 := c.toNat_lt
  rw [BitVec.toNat_setWidth, Nat.mod_eq_of_lt]
  · rfl
  · show c.toNat < _; omega

/-- A table, as far as it is made. -/
def tabK (n : Nat) (f : Nat → BitVec 32) (k : Nat) : List Value := (List.range n).map fun i => if i < k then uv (f i) else uv 0#32

theorem tabK_length (n : Nat) (f : Nat → BitVec 32) (k : Nat) : (tabK n f k).length = n := by simp [tabK]

theorem tabK_set (n : Nat) (f : Nat → BitVec 32) (k : Nat) : (tabK n f k).set k (uv (f k)) = tabK n f (k + 1) := by
  apply List.ext_getElem
  · simp [tabK]
  · intro i h1 h2
    rw [List.getElem_set]
    simp only [tabK, List.getElem_map, List.getElem_range]
    by_cases e : k = i
    · subst e; simp
    · rw [if_neg e]
      by_cases l : i < k
      · rw [if_pos l, if_pos (by omega)]
      · rw [if_neg l, if_neg (by omega)]

theorem tabK_get (n : Nat) (f : Nat → BitVec 32) (k i : Nat) (h : i < n) : (tabK n f k)[i]? = some (if i < k then uv (f i) else uv 0#32) := by
  simp [tabK, h]

def tab (n : Nat) (f : Nat → BitVec 32) : List Value := (List.range n).map fun i => uv (f i)

theorem tabK_all (n : Nat) (f : Nat → BitVec 32) : tabK n f n = tab n f := by
  unfold tabK tab
  apply List.map_congr_left
  intro i hi
  rw [if_pos (by simpa using hi)]

theorem tab_length (n : Nat) (f : Nat → BitVec 32) : (tab n f).length = n := by simp [tab]

theorem tab_get (n : Nat) (f : Nat → BitVec 32) (i : Nat) (h : i < n) : (tab n f)[i]? = some (uv (f i)) := by
  simp [tab, h]

theorem tab_congr {n : Nat} {f g : Nat → BitVec 32} (h : ∀ i, i < n → f i = g i) : tab n f = tab n g := by
  unfold tab
  apply List.map_congr_left
  intro i hi
  rw [h i (by simpa using hi)]

theorem tab_set {n : Nat} {f g : Nat → BitVec 32} (k : Nat) (x : BitVec 32) (h : ∀ i, i < n → g i = if i = k then x else f i) : (tab n f).set k (uv x) = tab n g := by
  apply List.ext_getElem
  · simp [tab]
  · intro i h1 h2
    rw [List.getElem_set]
    simp only [tab, List.getElem_map, List.getElem_range]
    rw [h i (by simpa [tab] using h2)]
    by_cases e : k = i
    · subst e; simp
    · rw [if_neg e, if_neg (fun e' => e e'.symm)]

theorem tab_one (n : Nat) (f : Nat → BitVec 32) : (tab n f).toArray.all (·.oneCell') = true := by
  rw [List.all_toArray, List.all_eq_true]
  intro u hu
  obtain ⟨i, _, rfl⟩ := List.mem_map.1 hu
  rfl

theorem tab_ones (n : Nat) (f : Nat → BitVec 32) : ∀ u ∈ tab n f, u.oneCell' = true := by
  intro u hu
  obtain ⟨i, _, rfl⟩ := List.mem_map.1 hu
  rfl

/-- A whole block of cells. -/
def Whole (w : World) (b : Nat) (T : TypeId) (xs : List Value) : Prop := w.heap[b]? = some (.cells xs.toArray T (0, 0))

theorem Whole.keeps {S : List Nat} {w w' : World} {b : Nat} {T : TypeId} {xs : List Value} (h : Whole w b T xs) (hk : Keeps S w w') (hb : b ∉ S) : Whole w' b T xs := hk.obj h hb

theorem Whole.cell {w : World} {b : Nat} {T : TypeId} {xs : List Value} (h : Whole w b T xs) (i : Nat) : w.cell? ⟨b, i, none⟩ = xs[i]? := by
  rw [cell_of_row w b i _ T (0, 0) h]; simp

theorem Whole.frozen {w : World} {b : Nat} {T : TypeId} {xs : List Value} (h : Whole w b T xs) (i : Nat) : w.frozen? ⟨b, i, none⟩ = false := by
  unfold Whole at h; simp [World.frozen?, h]

theorem Whole.set {w : World} {b : Nat} {T : TypeId} {xs : List Value} (h : Whole w b T xs) (i : Nat) (v : Value) : Whole (w.setCell ⟨b, i, none⟩ v) b T (xs.set i v) := by
  unfold Whole
  rw [heap_setCell_at w b i v _ T (0, 0) h]
  simp

theorem Whole.lt {w : World} {b : Nat} {T : TypeId} {xs : List Value} (h : Whole w b T xs) : b < w.heap.size := (Array.getElem?_eq_some_iff.1 h).1

theorem Whole.new (w : World) (T : TypeId) (xs : List Value) : Whole (w.alloc (.cells xs.toArray T)) w.heap.size T xs := heap_alloc_new w _

theorem Whole.new_at (w : World) (T : TypeId) (xs : List Value) (b : Nat) (hb : w.heap.size = b) : Whole (w.alloc (.cells xs.toArray T)) b T xs := hb ▸ Whole.new w T xs

theorem Keeps.setRow {S : List Nat} (w : World) {g : Nat} (hp : g ∈ S) (cells : Array Value) : Keeps S w (w.setRow g cells) :=
  ⟨rfl, rfl, rfl, by simp [World.setRow], fun k _ hs => by
    have : g ≠ k := fun e => hs (e ▸ hp)
    simp [World.setRow, Array.getElem?_modify, this]⟩

theorem Whole.setRow {w : World} {b : Nat} {T : TypeId} {xs : List Value} (h : Whole w b T xs) (ys : List Value) : Whole (w.setRow b ys.toArray) b T ys := by
  unfold Whole at h ⊢
  simp [World.setRow, Array.getElem?_modify, h]

theorem Whole.range {w : World} {b : Nat} {T : TypeId} {pre cs post : List Value} (h : Whole w b T (pre ++ (cs ++ post))) (o : Nat) (ho : pre.length = o) : w.rangeAt b o cs := by
  intro j v hv
  have hj : j < cs.length := (List.getElem?_eq_some_iff.1 hv).1
  rw [h.cell, List.getElem?_append_right (by omega), ho, Nat.add_sub_cancel_left, List.getElem?_append_left hj, hv]

theorem Whole.there {w : World} {b : Nat} {T : TypeId} {xs : List Value} (h : Whole w b T xs) (o n : Nat) (ho : o + n ≤ xs.length) : w.there b o n := by
  intro j hj
  refine ⟨?_, h.frozen _⟩
  rw [h.cell, List.getElem?_eq_getElem (by omega)]; rfl

theorem Whole.setCells {w : World} {b : Nat} {T : TypeId} {pre cs post : List Value} (vs : List Value) (h : Whole w b T (pre ++ (cs ++ post))) (o : Nat) (ho : pre.length = o) (hl : vs.length = cs.length) : Whole (w.setCells b o vs) b T (pre ++ (vs ++ post)) := by
  induction vs generalizing w pre cs o with
  | nil =>
    obtain rfl : cs = [] := List.eq_nil_of_length_eq_zero hl.symm
    exact h
  | cons v vs ih =>
    match cs, hl with
    | c :: cs, hl =>
      have h1 := h.set o v
      have e1 : (pre ++ (c :: cs ++ post)).set o v = (pre ++ [v]) ++ (cs ++ post) := by
        rw [List.set_append_right _ _ (by omega), ho, Nat.sub_self]; simp
      rw [e1] at h1
      have := ih (pre := pre ++ [v]) (cs := cs) h1 (o + 1) (by simp [ho]) (by simpa using hl)
      rw [List.append_assoc] at this
      exact this

theorem Keeps.setCells {S : List Nat} (w : World) {b : Nat} (hp : b ∈ S) (o : Nat) (vs : List Value) : Keeps S w (w.setCells b o vs) := by
  induction vs generalizing w o with
  | nil => exact Keeps.refl _ _
  | cons v vs ih => exact (Keeps.setCell w (p := ⟨b, o, none⟩) hp v).trans (ih _ _)

/-- A callee that draws, in a quiet region behind other draws. -/
theorem quiet_more {P : Program} {f : FuncId} {args : Array Value} {w : World} {a n : Nat} {v : Value}
    (h : Calls P f args (w.drewN (a + n)) fun e w' => e = .returned v ∧ ∃ m, w' = (w.drewN (a + n)).drewN m) :
    Calls P f args (w.drewN (a + n)) fun e w'' => e = .returned v ∧ ∃ m, w'' = w.drewN (a + m) :=
  h.mono fun _ _ ⟨he, m, hm⟩ => ⟨he, n + m, by rw [hm, World.drewN_drewN, Nat.add_assoc]⟩

theorem quiet_none {P : Program} {f : FuncId} {args : Array Value} {w : World} {a n : Nat} {v : Value}
    (h : Calls P f args (w.drewN (a + n)) fun e w' => e = .returned v ∧ w.drewN (a + n) = w') :
    Calls P f args (w.drewN (a + n)) fun e w'' => e = .returned v ∧ ∃ m, w'' = w.drewN (a + m) :=
  h.mono fun _ _ ⟨he, hm⟩ => ⟨he, n, hm.symm⟩

/-- A struct that is built of what is known. -/
theorem wpList_build_at {P : Program} {ops : Array Oper} {rest : List Oper} {o : Oper} {a : Act} {w : World} {Q : Exit → Act → World → Prop} (hg : o.guard = none) (t : TypeId) (parts : Array (Nat × Operand)) (ho : o.op = .build t parts)
    (cs : Array Value) (hc : P.built t (parts.map fun (i, x) => (i, a.eval x)).toList = some cs) (h : wpList P ops Q rest (a.put o.dst (.agg cs)) w) : wpList P ops Q (o :: rest) a w :=
  wpList_build hg t parts ho (by rw [hc]; rfl) (by rw [hc]; exact h)

theorem sizeByte (w : World) : (sizeOf 5).run Try.prog w = .ok 1 w := by
  obtain ⟨i0, hi, hz0, hz1, hz2⟩ := info_parts infoByte
  simp [sizeOf, typeInfo, hi, hz1]

theorem szByte : (Try.prog.info? 5).map (·.size) = some 1 := by kernel_rfl

theorem aggByte (w : World) : (isAgg 5).run Try.prog w = .ok false w := by simp [isAgg, run_underlying Try.underlying5]
theorem aggU32 (w : World) : (isAgg 54).run Try.prog w = .ok false w := by simp [isAgg, run_underlying Try.underlying54]

/-- An element of an array that is a value. -/
theorem run_index_at (w : World) (T E : TypeId) (n : Nat) (hu : Try.prog.underlying T = some (.array n E)) (hs : (Try.prog.info? E).map (·.size) = some 1) (ha : ∀ w, (isAgg E).run Try.prog w = .ok false w) (cs : List Value) (hl : cs.length = n) (k : Nat) (kd : IntKind) (z : Int) (hv : cs[k]? = some (.int kd z)) :
    (Instr.index T (.agg cs.toArray) (.int .i64 k)).run Try.prog w = .ok (.int kd z) w := by
  have hk : k < cs.length := (List.getElem?_eq_some_iff.1 hv).1
  obtain ⟨i, hi, hs⟩ : ∃ i, Try.prog.info? E = some i ∧ i.size = 1 := by
    cases hq : Try.prog.info? E with
    | none => rw [hq] at hs; cases hs
    | some i => rw [hq] at hs; exact ⟨i, rfl, by simpa using hs⟩
  have hkn : k < n := by omega
  simp [Instr.index, asIntOf, run_underlying hu, sizeOf, typeInfo, hi, hs, part, hv, hkn, ha]

/-- A part of bytes that a slice reads as. -/
theorem Reads.cut {w : World} {a : Option Addr} {cap : Nat} {l : List UInt8} {M : Nat} (h : Reads w (.slice a l.length cap) l M) (lo hi : Nat) (h1 : lo ≤ hi) (h2 : hi ≤ l.length) :
    ∃ p c, sliced a lo hi cap 1 = .slice p ((l.drop lo).take (hi - lo)).length c ∧ Reads w (.slice p ((l.drop lo).take (hi - lo)).length c) ((l.drop lo).take (hi - lo)) M := by
  have hlen : ((l.drop lo).take (hi - lo)).length = hi - lo := by simp; omega
  refine ⟨if cap = lo then a else a.map (·.add (lo * 1)), cap - lo, by unfold sliced; rw [hlen], ?_⟩
  rw [hlen]
  rcases h with ⟨hv, rfl⟩ | ⟨ad, c, hv, hc, hb, hcell⟩
  · simp at h2
    subst h2
    obtain rfl : lo = 0 := by omega
    simp at hv
    obtain ⟨rfl, rfl⟩ := hv
    exact .inl ⟨by simp, by simp⟩
  · simp at hv
    obtain ⟨rfl, rfl⟩ := hv
    by_cases e : cap = lo
    · have h0 : (l.drop lo).take (hi - lo) = [] := by
        apply List.eq_nil_of_length_eq_zero; rw [hlen]; omega
      rw [if_pos e, h0]
      refine .inr ⟨ad, cap - lo, by simp; omega, by simp, fun hh => absurd rfl hh, fun i c hi => by simp at hi⟩
    · rw [if_neg e]
      refine .inr ⟨ad.add (lo * 1), cap - lo, by rw [hlen]; rfl, by rw [hlen]; omega, ?_, ?_⟩
      · intro hne
        rw [Addr.add_block]
        exact hb (by intro e'; subst e'; simp at hne)
      · intro i c hi
        rw [List.getElem?_take] at hi
        split at hi
        · rw [List.getElem?_drop] at hi
          have := hcell _ c hi
          rw [Nat.mul_one]
          rw [Deep.add_add]; exact this
        · cases hi

theorem Reads.len {w : World} {a : Option Addr} {n cap : Nat} {l : List UInt8} {M : Nat} (h : Reads w (.slice a n cap) l M) : n = l.length ∧ l.length ≤ cap := by
  rcases h with ⟨hv, rfl⟩ | ⟨ad, c, hv, hc, _⟩
  · simp at hv; simp [hv]
  · simp at hv; obtain ⟨_, rfl, rfl⟩ := hv; exact ⟨rfl, hc⟩

theorem Reads.shape {w : World} {v : Value} {l : List UInt8} {M : Nat} (h : Reads w v l M) : ∃ a cap, v = .slice a l.length cap ∧ l.length ≤ cap := by
  rcases h with ⟨rfl, rfl⟩ | ⟨ad, c, rfl, hc, _⟩
  · exact ⟨none, 0, rfl, Nat.le_refl _⟩
  · exact ⟨some ad, c, rfl, hc⟩

theorem elemBytes : Try.prog.elem 22 = 5 := by kernel_rfl
theorem underBytes : Try.prog.underlying 22 = some (.slice (Try.prog.elem 22)) := by rw [elemBytes]; exact Try.underlying22

theorem run_cut_h (w : World) (a : Option Addr) (len cap hi : Nat) (h : hi ≤ cap) : (Instr.sliceAt 22 (.slice a len cap) none (some (.int .i64 hi)) none).run Try.prog w = .ok (sliced a 0 hi cap 1) w := by
  have hu := underBytes
  rw [run_sliceAt_slice _ _ _ _ _ _ hu, run_slice_h _ _ _ _ _ hu _ _ (by omega) (by omega), elemBytes, sizeByte]
  rfl

theorem run_cut_l (w : World) (a : Option Addr) (len cap lo : Nat) (h : lo ≤ len) : (Instr.sliceAt 22 (.slice a len cap) (some (.int .i64 lo)) none none).run Try.prog w = .ok (sliced a lo len cap 1) w := by
  have hu := underBytes
  rw [run_sliceAt_slice _ _ _ _ _ _ hu, run_slice_l _ _ _ _ _ hu _ _ (by omega) (by omega), elemBytes, sizeByte]
  rfl

theorem run_cut_lh (w : World) (a : Option Addr) (len cap lo hi : Nat) (h1 : lo ≤ hi) (h2 : hi ≤ cap) : (Instr.sliceAt 22 (.slice a len cap) (some (.int .i64 lo)) (some (.int .i64 hi)) none).run Try.prog w = .ok (sliced a lo hi cap 1) w := by
  have hu := underBytes
  rw [run_sliceAt_slice _ _ _ _ _ _ hu, run_slice_lh _ _ _ _ _ hu _ _ _ _ (by omega) (by omega) (by omega), elemBytes, sizeByte]
  rfl

/-- The first bytes that a slice reads as. -/
theorem Reads.head {w : World} {a : Option Addr} {cap : Nat} {l : List UInt8} {M : Nat} (h : Reads w (.slice a l.length cap) l M) (n : Nat) (h2 : n ≤ l.length) :
    ∃ p c, (∀ w, (Instr.sliceAt 22 (.slice a l.length cap) none (some (.int .i64 n)) none).run Try.prog w = .ok (.slice p (l.take n).length c) w) ∧ Reads w (.slice p (l.take n).length c) (l.take n) M := by
  obtain ⟨p, c, e, r⟩ := h.cut 0 n (Nat.zero_le _) h2
  have hc := h.len.2
  rw [List.drop_zero, Nat.sub_zero] at e r
  exact ⟨p, c, fun w => by rw [run_cut_h _ _ _ _ _ (by omega), e], r⟩

/-- The bytes behind some. -/
theorem Reads.tail {w : World} {a : Option Addr} {cap : Nat} {l : List UInt8} {M : Nat} (h : Reads w (.slice a l.length cap) l M) (n : Nat) (h2 : n ≤ l.length) :
    ∃ p c, (∀ w, (Instr.sliceAt 22 (.slice a l.length cap) (some (.int .i64 n)) none none).run Try.prog w = .ok (.slice p (l.drop n).length c) w) ∧ Reads w (.slice p (l.drop n).length c) (l.drop n) M := by
  obtain ⟨p, c, e, r⟩ := h.cut n l.length h2 (Nat.le_refl _)
  rw [List.take_of_length_le (by simp)] at e r
  exact ⟨p, c, fun w => by rw [run_cut_l _ _ _ _ _ h2, e], r⟩

theorem Reads.lit (w : World) (l : List UInt8) (cs : Array Value) (T : TypeId) (n : Nat) (fz : Nat × Nat) (hcs : cs = (l.map bv).toArray) (hn : n = l.length) :
    Reads (w.alloc (.cells cs T fz)) (.slice (some ⟨w.heap.size, 0, none⟩) n n) l w.heap.size := by
  subst hn
  refine .inr ⟨⟨w.heap.size, 0, none⟩, l.length, rfl, Nat.le_refl _, fun _ => rfl, fun i c hi => ?_⟩
  rw [Addr.add_off, Nat.zero_add, cell_of_row _ _ _ cs T fz (heap_alloc_new w _), hcs]
  simp [hi]
end Go.Proofs.Ytdcfcljgennipaa
