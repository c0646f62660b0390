/-
  Records on a flash, as plain mathematics: what is programmed where nothing was.
  Record's examples (awake).
-/
import Derived.Test.YtlnmbfddhdjioaaGreatRecI
import Derived.Test.YtlnmbfddhdjioaaGreatFlashEnd
import Derived.Deep.RegionWith
import Derived.Deep.RegionHeld3
namespace Go.Proofs.YtlnmbfddhdjioaaGreat
open Go.RowKit

/-- Bytes, put in place of others. -/
def put (bs : List UInt8) (a : Nat) (l : List UInt8) : List UInt8 := bs.take a ++ (l ++ bs.drop (a + l.length))

theorem put_length (bs : List UInt8) (a : Nat) (l : List UInt8) (h : a + l.length ≤ bs.length) : (put bs a l).length = bs.length := by
  simp [put]; omega

theorem put_head (bs : List UInt8) (a : Nat) (l : List UInt8) (h : a + l.length ≤ bs.length) : (put bs a l).take (a + l.length) = bs.take a ++ l := by
  have h1 : (bs.take a).length = a := by simp; omega
  unfold put
  rw [← List.append_assoc, List.take_append_of_le_length (by simp; omega), List.take_of_length_le (by simp; omega)]

theorem put_drop (bs : List UInt8) (a : Nat) (l : List UInt8) (h : a + l.length ≤ bs.length) : (put bs a l).drop (a + l.length) = bs.drop (a + l.length) := by
  have h1 : (bs.take a ++ l).length = a + l.length := by simp; omega
  unfold put
  rw [← List.append_assoc, List.drop_append_of_le_length (by omega), List.drop_of_length_le (by omega), List.nil_append]

theorem put_put (bs : List UInt8) (a : Nat) (l m : List UInt8) (h : a + l.length + m.length ≤ bs.length) : put (put bs a l) (a + l.length) m = put bs a (l ++ m) := by
  have h2 : put (put bs a l) (a + l.length) m = (put bs a l).take (a + l.length) ++ (m ++ ((put bs a l).drop (a + l.length)).drop m.length) := by
    unfold put; rw [List.drop_drop]
  rw [h2, put_head _ _ _ (by omega), put_drop _ _ _ (by omega), List.drop_drop]
  unfold put
  simp [List.append_assoc, Nat.add_assoc]

theorem clears_blank (x : UInt8) : clears 255 255 x = x := by
  have h : ∀ x : UInt8, (255 : UInt8) &&& ~~~((255 : UInt8) &&& ~~~x) = x := by
    intro x
    apply UInt8.eq_of_toBitVec_eq
    simp only [UInt8.toBitVec_and, UInt8.toBitVec_not, UInt8.toBitVec_ofNat]
    have : ∀ b : BitVec 8, (BitVec.ofNat 8 255) &&& ~~~((BitVec.ofNat 8 255) &&& ~~~b) = b := by
      intro b
      rw [show BitVec.ofNat 8 255 = BitVec.allOnes 8 from rfl, BitVec.allOnes_and, BitVec.allOnes_and, BitVec.not_not]
    exact this _
  exact h x

theorem blank_get {bs : List UInt8} {a j : Nat} (h : blank (bs.drop a)) (hj : a ≤ j) (hl : j < bs.length) : bs[j]? = some 255 := by
  have hc : bs[j]? = some bs[j] := List.getElem?_eq_getElem hl
  have : bs[j] ∈ bs.drop a := List.mem_iff_getElem?.2 ⟨j - a, by rw [List.getElem?_drop, show a + (j - a) = j by omega, hc]⟩
  rw [hc, h _ this]

theorem span_get (bs : List UInt8) (a k : Nat) (g : Nat → UInt8 → UInt8) (j : Nat) : (span bs a k g)[j]? = (bs[j]?).map fun c => if a ≤ j ∧ j < a + k then g (j - a) c else c := by
  simp [span]

theorem span_blank (bs : List UInt8) (a : Nat) (l : List UInt8) (h : a + l.length ≤ bs.length) (hb : blank (bs.drop a)) : span bs a l.length (gClear l 255) = put bs a l := by
  apply List.ext_getElem?
  intro j
  rw [span_get]
  have h1 : (bs.take a).length = a := by simp; omega
  unfold put
  by_cases hj : j < a
  · rw [List.getElem?_append_left (by omega), List.getElem?_take, if_pos hj]
    cases bs[j]? with
    | none => rfl
    | some c => simp [show ¬ a ≤ j by omega]
  · rw [List.getElem?_append_right (by omega), h1]
    by_cases hj2 : j < a + l.length
    · rw [List.getElem?_append_left (by omega), blank_get hb (by omega) (by omega)]
      simp only [Option.map_some]
      rw [if_pos ⟨by omega, hj2⟩]
      unfold gClear
      rw [clears_blank, List.getD_eq_getElem?_getD, List.getElem?_eq_getElem (by omega)]
      rfl
    · rw [List.getElem?_append_right (by omega), List.getElem?_drop, show a + l.length + (j - a - l.length) = j by omega]
      cases bs[j]? with
      | none => rfl
      | some c => simp [show ¬ j < a + l.length by omega]

theorem program_blank {s : FS} (a : Nat) (l : List UInt8) (hd : s.down = false) (hu : s.armed = false) (h4 : a % 4 = 0) (hl4 : l.length % 4 = 0) (hne : l ≠ []) (hle : a + l.length ≤ s.bs.length) (hb : blank (s.bs.drop a)) :
    s.program a l = ({ s with bs := put s.bs a l }, 0) := by
  have hm : s.mayProgram a l.length = 0 := FS.mayProgram_ok hd (by unfold FS.has; omega) (by omega) (by omega)
  rw [FS.program_let hm hne, FS.let_whole hu, Int.toNat_natCast, span_blank _ _ _ hle hb]

theorem blank_drop_put {bs : List UInt8} {a : Nat} {l : List UInt8} (h : a + l.length ≤ bs.length) (hb : blank (bs.drop a)) : blank ((put bs a l).drop (a + l.length)) := by
  rw [put_drop _ _ _ h]
  intro c hc
  have : bs.drop (a + l.length) = (bs.drop a).drop l.length := by rw [List.drop_drop]
  rw [this] at hc
  exact hb c (List.mem_of_mem_drop hc)

/-- A record that is written where nothing was. -/
theorem write_blank {s : FS} (a : Nat) (p : List UInt8) (hp : p.length ≤ 4080) (hd : s.down = false) (hu : s.armed = false) (h4 : a % 4 = 0) (hle : a + sizeN p.length ≤ s.bs.length) (hb : blank (s.bs.drop a)) :
    s.write a p = ({ s with bs := put s.bs a (recB p) }, 0) := by
  have hf := fillN_mod p.length
  have h0 : (headB p.length).length = 4 := headB_length _
  have h1 : (bodyB p).length = fillN p.length + 4 := bodyB_length p
  have hsz : sizeN p.length = 12 + fillN p.length := rfl
  have hr : s.readErr a (sizeN p.length) = 0 := by
    unfold FS.readErr
    rw [hd, if_neg (by simp), if_pos (by unfold FS.has; omega)]
  unfold FS.write
  rw [if_neg (by omega), if_neg (fun h => h.2 hr)]
  have e1 := program_blank (s := s) a (headB p.length) hd hu h4 (by rw [h0]) (by intro e; rw [e] at h0; cases h0) (by omega) hb
  have b1 : blank ((put s.bs a (headB p.length)).drop (a + 4)) := by have := blank_drop_put (bs := s.bs) (a := a) (l := headB p.length) (by omega) hb; rwa [h0] at this
  have l1 : (put s.bs a (headB p.length)).length = s.bs.length := put_length _ _ _ (by omega)
  have e2 := program_blank (s := { s with bs := put s.bs a (headB p.length) }) (a + 4) (bodyB p) hd hu (by omega) (by omega) (by intro e; rw [e] at h1; simp at h1) (by simp only [l1]; omega) b1
  have b2 := blank_drop_put (bs := put s.bs a (headB p.length)) (a := a + 4) (l := bodyB p) (by omega) b1
  have l2 : (put (put s.bs a (headB p.length)) (a + 4) (bodyB p)).length = s.bs.length := by rw [put_length _ _ _ (by omega), l1]
  have e3 := program_blank (s := { s with bs := put (put s.bs a (headB p.length)) (a + 4) (bodyB p) }) (a + 4 + (bodyB p).length) [0, 0, 0, 0] hd hu (by omega) (by rfl) (by simp) (by simp only [l2, List.length_cons, List.length_nil]; omega) b2
  simp only [stepP]
  rw [e1]
  simp only [ne_eq, not_true_eq_false, if_false, h0]
  rw [show ((a : Int) + ((4 : Nat) : Int)) = ((a + 4 : Nat) : Int) by omega, e2]
  simp only [not_true_eq_false, if_false]
  rw [show (((a + 4 : Nat) : Int) + (((bodyB p).length : Nat) : Int)) = ((a + 4 + (bodyB p).length : Nat) : Int) by omega, e3]
  simp only [not_true_eq_false, if_false]
  have pp1 : put (put s.bs a (headB p.length)) (a + 4) (bodyB p) = put s.bs a (headB p.length ++ bodyB p) := by
    have := put_put s.bs a (headB p.length) (bodyB p) (by omega)
    rwa [h0] at this
  have pp2 : put (put s.bs a (headB p.length ++ bodyB p)) (a + 4 + (bodyB p).length) [0, 0, 0, 0] = put s.bs a (recB p) := by
    have hx : (headB p.length ++ bodyB p).length = 4 + (bodyB p).length := by simp [h0]
    have := put_put s.bs a (headB p.length ++ bodyB p) [0, 0, 0, 0] (by rw [hx]; simp; omega)
    rw [hx, ← Nat.add_assoc, List.append_assoc] at this
    exact this
  rw [pp1, pp2]

end Go.Proofs.YtlnmbfddhdjioaaGreat

namespace Go.Proofs.YtlnmbfddhdjioaaGreat
open Go.RowKit

def exB : List UInt8 := recB [7] ++ ([0, 1, 255, 255] ++ List.replicate 236 255)
def exT : List UInt8 := (recB [7]).take 12 ++ [255, 255, 255, 255]

theorem exB_row : rowL exB = [(0, ⟨16, 1, [7]⟩), (16, ⟨4, 3, []⟩)] := by decide +kernel
theorem exB_end : endK exB = 20 := by decide +kernel
theorem exB_at : atL (exB.drop 20) = ⟨236, 0, []⟩ := by decide +kernel
theorem exT_at : atL exT = ⟨16, 2, []⟩ := by decide +kernel
theorem exB_head : (exB.take 8 == [0, 1, 255, 254, 7, 255, 255, 255]) = true := by decide +kernel
theorem exB_commit : ((exB.drop 12).take 4 == [0, 0, 0, 0]) = true := by decide +kernel
theorem exB_length : exB.length = 256 := by decide +kernel
theorem ex16 : exB.take 16 = recB [7] := by decide +kernel

/-- A flash of eight sectors that is new. -/
structure Fresh8 (s : FS) : Prop where
  len : s.bs.length = 2048
  all : blank s.bs
  down : s.down = false
  armed : s.armed = false

theorem fresh8 : Fresh8 (FS.new 8) := ⟨List.length_replicate, blank_replicate _, rfl, rfl⟩

theorem Fresh8.from {s : FS} (h : Fresh8 s) (a : Nat) : blank (s.bs.drop a) := fun c hc => h.all c (List.mem_of_mem_drop hc)

/-- The flash of the examples. -/
def exS (s : FS) : FS := { s with bs := put s.bs 0 (recB [7] ++ [0, 1, 255, 255]) }

theorem ex_write {s : FS} (h : Fresh8 s) : s.write 0 [7] = ({ s with bs := put s.bs 0 (recB [7]) }, 0) :=
  write_blank 0 [7] (by decide) h.down h.armed rfl (by rw [h.len]; decide) (h.from 0)

theorem ex_len {s : FS} (h : Fresh8 s) : (put s.bs 0 (recB [7])).length = 2048 := by
  rw [put_length _ _ _ (by rw [h.len]; decide +kernel), h.len]

theorem ex_program {s : FS} (h : Fresh8 s) : ({ s with bs := put s.bs 0 (recB [7]) } : FS).program 16 [0, 1, 255, 255] = (exS s, 0) := by
  have h16 : (recB [7]).length = 16 := by decide +kernel
  have hb := blank_drop_put (bs := s.bs) (a := 0) (l := recB [7]) (by rw [h16, h.len]; decide) (h.from 0)
  rw [h16, Nat.zero_add] at hb
  have hp := put_put s.bs 0 (recB [7]) [0, 1, 255, 255] (by rw [h16, h.len]; decide)
  rw [h16, Nat.zero_add] at hp
  have := program_blank (s := { s with bs := put s.bs 0 (recB [7]) }) 16 [0, 1, 255, 255] h.down h.armed rfl rfl (by simp) (by simp only [ex_len h]; decide) hb
  unfold exS
  rw [← hp]
  exact this

theorem ex_read {s : FS} (h : Fresh8 s) : (exS s).down = false ∧ (exS s).has (0 : Int) (256 : Int) ∧ (exS s).part 0 256 = exB := by
  have hL : (recB [7] ++ [0, 1, 255, 255]).length = 20 := by decide +kernel
  have hl : (exS s).bs.length = 2048 := by
    show (put s.bs 0 _).length = _
    rw [put_length _ _ _ (by rw [h.len, hL]; decide), h.len]
  refine ⟨h.down, by unfold FS.has; rw [hl]; decide, ?_⟩
  show ((put s.bs 0 (recB [7] ++ [0, 1, 255, 255])).drop 0).take 256 = exB
  have hb := blank_eq (h.from 20)
  have hd : (s.bs.drop 20).length = 2028 := by simp [h.len]
  rw [hd] at hb
  unfold put exB
  rw [hL, Nat.zero_add, hb, List.drop_zero, List.take_zero, List.nil_append, List.take_append, hL]
  rw [List.take_of_length_le (by rw [hL]; decide), List.take_replicate, List.append_assoc]
  rfl

theorem Write_lit {F B W M : Nat} {s : FS} (w : World) (hF : FlashAt w F B W M s) (a : Int) (l : List UInt8) (cs : Array Value) (n : Nat) (s' : FS) (r : Int) (hcs : cs = (l.map bv).toArray) (hn : n = l.length) (hl : l.length ≤ 65536) (hp : s.write a l = (s', r)) :
    Calls Tryz.prog 47 #[.pointer (some ⟨F, 0, none⟩), .int .i64 a, .slice (some ⟨w.heap.size, 0, none⟩) n n] (w.alloc (.cells cs 5)) fun e w' => e = .returned (.int .i64 r) ∧ FlashAt w' F B W M s' ∧ Keeps [F, B] w w' := by
  have k := Keeps.alloc [] w (.cells cs 5)
  have := Write_any (w.alloc (.cells cs 5)) (hF.keeps k (by simp) (by simp) (by simp) (by simp)) a _ l _ (Reads.lit w l cs 5 n (0, 0) hcs hn) (by omega)
  rw [hp] at this
  exact this.mono fun _ _ ⟨h1, h2, h3⟩ => ⟨h1, h2, (k.mono (by simp)).trans h3⟩

theorem ex_list (w : World) : RecsAt ((w.alloc (.cells #[.int .u8 7] 5)).alloc (.cells #[.int .i64 0, .int .i64 16, .int .u8 1, .slice (some ⟨w.heap.size, 0, none⟩) 1 1, .int .i64 16, .int .i64 4, .int .u8 3, .slice none 0 0] 122)) (.slice (some ⟨w.heap.size + 1, 0, none⟩) 2 2) [(0, ⟨16, 1, [7]⟩), (16, ⟨4, 3, []⟩)] := by
  obtain ⟨V, hV⟩ : ∃ V, V = w.alloc (.cells #[.int .u8 7] 5) := ⟨_, rfl⟩
  have hs : V.heap.size = w.heap.size + 1 := by rw [hV]; simp
  have h7 := Reads.lit w [7] #[.int .u8 7] 5 1 (0, 0) rfl rfl
  rw [← hV] at h7 ⊢
  rw [← hs]
  have hW := Whole.new V 122 [.int .i64 0, .int .i64 16, .int .u8 1, .slice (some ⟨w.heap.size, 0, none⟩) 1 1, .int .i64 16, .int .i64 4, .int .u8 3, .slice none 0 0]
  refine ⟨_, 2, rfl, Nat.le_refl _, fun i x hx => ?_⟩
  match i, hx with
  | 0, hx =>
    simp at hx; subst hx
    exact ⟨_, _, w.heap.size, rfl, by simp, (hW.cell 0).trans rfl, (hW.cell 1).trans rfl, (hW.cell 2).trans rfl, (hW.cell 3).trans rfl, h7.keeps (Keeps.alloc [] _ _) (by simp), by simp; omega⟩
  | 1, hx =>
    simp at hx; subst hx
    exact ⟨_, _, 0, rfl, by simp, (hW.cell 4).trans rfl, (hW.cell 5).trans rfl, (hW.cell 6).trans rfl, (hW.cell 7).trans rfl, Reads.nil _ _, by simp⟩
  | i + 2, hx => simp at hx

theorem made_bytes (w : World) (l c : Int) (n m : Nat) (hl : l = (n : Int)) (hc : c = (m : Int)) (h : n ≤ m) (hm : m ≤ 1000000000) :
    (Instr.makeSlice 23 (.int .i64 l) (.int .i64 c)).run Tryz.prog w = .ok (.slice (some ⟨w.heap.size, 0, none⟩) n m) (w.alloc (.cells (List.replicate m (bv 0)).toArray 5)) := by
  obtain ⟨i0, hi, hz0, hz1, hz2⟩ := info_parts infoByte
  subst hl hc
  rw [run_make w 23 5 i0 (.int .u8 0) Tryz.underlying23 hi hz0 .i64 .i64 _ _ (by omega) (by omega) (by rw [hz2]; omega) (by omega)]
  rw [hz1, Int.toNat_natCast, Int.toNat_natCast, Nat.mul_one, show (Value.int IntKind.u8 0).cells = #[.int .u8 0] from rfl, ← made_list]
  rfl

theorem fld_kind (t z k : Int) (a : Option Addr) (n c : Nat) (w : World) : (Instr.field 122 (.agg #[.int .i64 t, .int .i64 z, .int .u8 k, .slice a n c]) 2).run Tryz.prog w = .ok (.int .u8 k) w := by kernel_rfl

end Go.Proofs.YtlnmbfddhdjioaaGreat
