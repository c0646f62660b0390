/-
  FlashClears: what the walk needs.
-/
import Derived.Test.YtpcgckppdnlccaaLawErase
import Derived.Test.YtpcgckppdnlccaaReadPut
import Derived.Lib.SmallJoins
namespace Go.Proofs.Ytpcgckppdnlccaa
open Go.RowKit Go.Deep Go.ChangeShapes Go.WideShapes Go.Joins

theorem clears_none (c t x : UInt8) : clears c t x &&& ~~~c = 0 := by
  unfold clears
  apply UInt8.eq_of_toBitVec_eq
  simp only [UInt8.toBitVec_and, UInt8.toBitVec_not, UInt8.toBitVec_zero]
  ext i hi
  simp only [BitVec.getElem_and, BitVec.getElem_not, BitVec.getElem_zero]
  cases c.toBitVec[i] <;> simp

theorem clears_keeps (c t x : UInt8) : (c &&& x) &&& ~~~clears c t x = 0 := by
  unfold clears
  apply UInt8.eq_of_toBitVec_eq
  simp only [UInt8.toBitVec_and, UInt8.toBitVec_not, UInt8.toBitVec_zero]
  ext i hi
  simp only [BitVec.getElem_and, BitVec.getElem_not, BitVec.getElem_zero]
  cases c.toBitVec[i] <;> cases t.toBitVec[i] <;> cases x.toBitVec[i] <;> simp

theorem all255 : ∀ j : Fin 8, (255 : UInt8).toBitVec[j.val]'j.isLt = true := by decide

theorem clears_again (c t x : UInt8) : clears (clears c t x) 255 x = clears c 255 x := by
  unfold clears
  apply UInt8.eq_of_toBitVec_eq
  simp only [UInt8.toBitVec_and, UInt8.toBitVec_not]
  ext i hi
  have h255 : (255 : UInt8).toBitVec[i] = true := by
    exact all255 ⟨i, hi⟩
  simp only [BitVec.getElem_and, BitVec.getElem_not, h255]
  cases c.toBitVec[i] <;> cases t.toBitVec[i] <;> cases x.toBitVec[i] <;> simp

theorem and_u8 (a b : UInt8) : bits .and .u8 (a.toNat : Int) (b.toNat : Int) = ((a &&& b).toNat : Int) := by
  have ha := a.toNat_lt
  have hb := b.toNat_lt
  rw [u8_and_nat _ _ (by omega) (by omega)]
  simp [UInt8.toNat_and]

theorem andNot_self (c : UInt8) : bits .andNot .u8 (c.toNat : Int) (c.toNat : Int) = 0 := by
  have h : c &&& ~~~c = 0 := by
    apply UInt8.eq_of_toBitVec_eq
    simp only [UInt8.toBitVec_and, UInt8.toBitVec_not, UInt8.toBitVec_zero]
    ext i hi
    rw [BitVec.getElem_and, BitVec.getElem_not, BitVec.getElem_zero]
    cases c.toBitVec[i] <;> rfl
  rw [andNot_u8, h]; rfl

theorem and_255 (c : UInt8) : bits .and .u8 (c.toNat : Int) 255 = (c.toNat : Int) := by
  have h := and_u8 c 255
  have e : c &&& 255 = c := by
    apply UInt8.eq_of_toBitVec_eq
    simp only [UInt8.toBitVec_and]
    ext i hi
    rw [BitVec.getElem_and, all255 ⟨i, hi⟩, Bool.and_true]
  rw [e] at h
  exact h

theorem span_again (bs : List UInt8) (a n : Nat) (b m : List UInt8) : span (span bs a n fun i c => gClear b (m.getD i 0) i c) a n (gClear b 255) = span bs a n (gClear b 255) := by
  refine List.ext_getElem? fun j => ?_
  simp only [span, List.getElem?_mapIdx, Option.map_map]
  congr 1
  funext c
  simp only [Function.comp, gClear]
  split
  · exact clears_again _ _ _
  · rfl

theorem put_read {H : Type} {enc : TypeId × Value → H} {W : World} {b0 base : Nat} {spare : Nat → Bool} {held : Bool} {r : Reach} {v : Value} {d : DataW H} {p : List MemPlace} (hv : Value.okWide Try.prog W r b0 49 v) (h : DataW.Trod enc Try.prog W base spare held 49 v d p) :
    ∃ z : PutD, v = .agg #[.int .u16 z.word, z.v] ∧ z.ok W W.heap.size := by
  obtain ⟨c0, c1, y0, y1, m, rfl, _, _, h0, h1⟩ := open_agg2 Try.underlying49 (by kernel_rfl) (by kernel_rfl) hv h
  obtain ⟨q, hq, rfl⟩ := word_read h0
  obtain ⟨l, M, hr, hll, hM⟩ := bytes_read h1
  exact ⟨⟨q, c1, l, M⟩, rfl, hq, hll, hr, hM⟩

theorem Arm_any {F B W M : Nat} {s : FS} (w : World) (hF : FlashAt w F B W M s) (n : Int) (hd : s.down = false) (hn : 0 ≤ n) (hn' : n ≤ 9223372036854775807) (v : Value) (l : List UInt8) (Ml : Nat) (hr : Reads w v l Ml) (hl : l.length ≤ 65536) :
    Calls Try.prog 27 #[.pointer (some ⟨F, 0, none⟩), .int .i64 n, v] w fun e w' => e = .returned (.int .i64 0) ∧ ∃ M', (M' = M ∨ w.heap.size ≤ M') ∧ FlashAt w' F B W M' (s.arm n l) ∧ Keeps [F] w w' := by
  rcases hr with ⟨rfl, rfl⟩ | ⟨ad, cap, rfl, hcap, _, hc⟩
  · exact (Arm_nil w hF n hd hn hn').mono fun _ w' h => ⟨h.1, M, .inl rfl, h.2.1, h.2.2⟩
  · exact (Arm_some w hF n hd hn hn' ad l.length cap l rfl hcap (by omega) hc).mono fun _ w' h => ⟨h.1, let ⟨M', a, b, c⟩ := h.2; ⟨M', .inr a, b, c⟩⟩

/-- A program that is torn, and what the power's return makes of it. -/
def T1 (s : FS) (a : Nat) (b m : List UInt8) : FS := { s with bs := span s.bs a b.length fun i c => gClear b (m.getD i 0) i c, down := true, armed := false, left := 0, mask := [] }
def T2 (s : FS) (a : Nat) (b m : List UInt8) : FS := (T1 s a b m).up

section
variable {s : FS} (h : Plain s) (a : Nat) (b m : List UInt8)
include h
theorem t1 (ha : a % 4 = 0) (hb : b.length % 4 = 0) (hl : a + b.length ≤ 2048) (hn : b ≠ []) (hm : m.length ≤ 2048) : (s.arm 0 m).program a b = (T1 s a b m, 12) := by
  have hmk : (s.arm 0 m).mask = m := by show m.take s.bs.length = m; rw [h.len, List.take_of_length_le hm]
  rw [FS.program_let (FS.mayProgram_ok rfl (by unfold FS.has; show _ ∧ _ ∧ _ ≤ (s.bs.length : Int); rw [h.len]; omega) (by omega) (by omega)) hn, FS.let_torn rfl rfl]
  unfold T1
  simp only [Int.toNat_natCast, hmk]
  rfl
theorem T2plain : Plain (T2 s a b m) := ⟨by unfold T2 FS.up T1; dsimp only; rw [span_length, h.len], rfl, rfl, h.wear, rfl⟩
omit h in
theorem T2put : ((T2 s a b m).put a b).bs = (s.put a b).bs := by
  unfold T2 FS.up T1 FS.put
  dsimp only
  exact span_again _ _ _ _ _
end
end Go.Proofs.Ytpcgckppdnlccaa
