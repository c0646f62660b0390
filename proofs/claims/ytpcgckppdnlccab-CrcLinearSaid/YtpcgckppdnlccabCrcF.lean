/-
  Contracts of crc: the matrix: of, squared.
-/
import Derived.Test.YtpcgckppdnlccabCrcD
import Derived.Test.YtpcgckppdnlccabCrcE
namespace Go.Proofs.Ytpcgckppdnlccab
open Go.RowKit

theorem and_shr_one (v : BitVec 32) (k : Nat) : bits .and .u32 ((v.toNat : Int) / (2 : Int) ^ k) 1 = if v.getLsbD k then 1 else 0 := by
  have e : (v.toNat : Int) / (2 : Int) ^ k = ((v >>> k).toNat : Int) := by
    rw [BitVec.toNat_ushiftRight, Nat.shiftRight_eq_div_pow, Int.natCast_ediv, Int.natCast_pow]; rfl
  rw [e, and_one, BitVec.getLsbD_ushiftRight, Nat.add_zero]

set_option maxHeartbeats 1000000 in
theorem mof_any (w : World) (f : Nat → BitVec 32) (v : BitVec 32) :
    Calls Try.prog 25 #[.agg (tab 32 f).toArray, uv v] w fun e w' => e = .returned (uv (mof f v)) ∧ Keeps [] w w' := by
  go_enter Try.func25, Try.ntmps25
  go_wp2_with (first | (refine wpList_load_row rfl 46 _ rfl w.heap.size rfl 46 (tab 32 f).toArray (0, 0) _ (Whole.new w _ (tab 32 f)) Try.underlying46 rfl (by rw [sizeMatrix]; simp [tab_length]) ?_))
  go_loop [5, 9] (fun t i => ∃ k : Nat, k ≤ 32 ∧ i = .int .i64 k ∧ t = uv (mofK f v k)) (fun _ i => 32 - (intOf i).toNat)
  case atStart => exact ⟨0, Nat.zero_le _, rfl, rfl⟩
  case round =>
    obtain ⟨k, hk, rfl, rfl⟩ := hrel
    have HM := Lib.hid (show mofK f v (k + 1) = if v.getLsbD k then mofK f v k ^^^ f k else mofK f v k from rfl)
    generalize hz : mofK f v k = t at *
    have HZ := Lib.hid hz
    clear hz
    by_cases hlt : k < 32
    · have hlt' : (k : Int) < 32 := by omega
      have h1 := and_shr_one v k
      have hi := fun w => run_index_row w f k hlt
      generalize f k = fk at *
      have H3 := Lib.hid (bits_xor32 t fk)
      cases hb : v.getLsbD k
      all_goals
        rw [hb] at h1
        simp only [Bool.false_eq_true, if_false, if_true] at h1
        rw [hb] at HM
        clear hb
        go_wp2
        go_round
        case rel => exact ⟨k + 1, by omega, by go_num, by rw [HM.out]; first | rfl | exact congrArg (Value.int .u32) H3.out⟩
        case measure => simp [intOf]; omega
    · have hkn : k = 32 := by omega
      subst hkn
      go_wp2
      go_ret
      refine ⟨?_, Keeps.alloc [] _ _⟩
      rw [show mof f v = t from HZ.out]
      rfl

set_option maxHeartbeats 1000000 in
theorem squared_any (w : World) (f : Nat → BitVec 32) :
    Calls Try.prog 24 #[.agg (tab 32 f).toArray] w fun e w' => e = .returned (.agg (tab 32 fun i => mof f (f i)).toArray) ∧ Keeps [] w w' := by
  generalize hg : (fun i => mof f (f i)) = g
  have HG := Lib.hid (show ∀ i, mof f (f i) = g i from fun i => congrFun hg i)
  clear hg
  go_enter Try.func24, Try.ntmps24
  go_wp2_with (first | (refine wpList_load_row rfl 46 _ rfl w.heap.size rfl 46 (tab 32 f).toArray (0, 0) _ (((Whole.new w _ (tab 32 f)).keeps (Keeps.alloc [] _ _) (by simp)).keeps (Keeps.alloc [] _ _) (by simp)) Try.underlying46 rfl (by rw [sizeMatrix]; simp [tab_length]) ?_))
  go_loopw [7] (fun i wr => ∃ k : Nat, k ≤ 32 ∧ i = .int .i64 k ∧ Whole wr (w.heap.size + 1 + 1) 46 (tabK 32 g k) ∧ Whole wr (w.heap.size + 1) 46 (tabK 32 g 0) ∧ Whole wr w.heap.size 46 (tab 32 f) ∧ Keeps [] w wr) (fun i _ => 32 - (intOf i).toNat)
  case atStart =>
    refine ⟨0, Nat.zero_le _, rfl, ?_, ?_, ?_, ?_⟩
    · exact Whole.new_at ((w.alloc _).alloc _) _ (tabK 32 g 0) _ (by simp)
    · exact (Whole.new_at (w.alloc _) _ (tabK 32 g 0) _ (by simp)).keeps (Keeps.alloc [] _ _) (by simp)
    · exact ((Whole.new w _ (tab 32 f)).keeps (Keeps.alloc [] _ _) (by simp)).keeps (Keeps.alloc [] _ _) (by simp)
    · exact ((Keeps.alloc [] _ _).trans (Keeps.alloc [] _ _)).trans (Keeps.alloc [] _ _)
  case round =>
    obtain ⟨k, hk, rfl, w2, w1, w0, kp⟩ := hrel
    by_cases hlt : k < 32
    · have hlt' : (k : Int) < 32 := by omega
      have hi := fun w => run_index_row w f k hlt
      have hz := kp.size
      have W0 := Lib.hid w0
      have W1 := Lib.hid w1
      have W2 := Lib.hid w2
      have KP := Lib.hid kp
      clear w0 w1 w2 kp
      go_wp2_with (first | (refine wpList_load_row rfl 46 _ rfl w.heap.size rfl 46 (tab 32 f).toArray (0, 0) _ W0.out Try.underlying46 rfl (by rw [sizeMatrix]; simp [tab_length]) ?_) | (go_at_call 25; refine (mof_any _ f _).mono ?_; rintro e w3 ⟨rfl, k3⟩; rw [HG.out]; have W0' := Lib.hid (W0.out.keeps k3 (by simp)); have W1' := Lib.hid (W1.out.keeps k3 (by simp)); have W2' := Lib.hid (W2.out.keeps k3 (by simp)); have KP' := Lib.hid (KP.out.trans k3); have c2 := W2'.out.cell k; rw [tabK_get _ _ _ _ hlt, if_neg (Nat.lt_irrefl _)] at c2; have f2 := W2'.out.frozen k; have S2 := Lib.hid (W2'.out.set k (uv (g k))); clear k3))
      go_roundw
      case rel =>
        refine ⟨k + 1, by omega, by go_num, ?_, ?_, ?_, ?_⟩
        · have := S2.out; rw [tabK_set] at this; exact this
        · exact W1'.out.keeps (Keeps.setCell (S := [w.heap.size + 1 + 1]) _ (by simp) _) (by simp)
        · exact W0'.out.keeps (Keeps.setCell (S := [w.heap.size + 1 + 1]) _ (by simp) _) (by simp; omega)
        · exact KP'.out.then (Keeps.setCell (S := [w.heap.size + 1 + 1]) _ (by simp) _) (fun x hx => .inr (by simp at hx; omega))
      case measure => simp [intOf]; omega
    · have hkn : k = 32 := by omega
      subst hkn
      rw [tabK_all] at w2
      have W2 := Lib.hid w2
      have W1 := Lib.hid w1
      have KP := Lib.hid kp
      clear w0 w1 w2 kp
      go_wp2_with (first | (refine wpList_load_row rfl 46 _ rfl (w.heap.size + 1 + 1) rfl 46 (tab 32 g).toArray (0, 0) _ W2.out Try.underlying46 rfl (by rw [sizeMatrix]; simp [tab_length]) ?_) | (refine wpList_store_row rfl 46 _ _ rfl (w.heap.size + 1) (tab 32 g).toArray rfl rfl 46 (tabK 32 g 0).toArray W1.out (by rw [sizeMatrix]; simp [tab_length]) (by simp [tab_length, tabK_length]) (tab_one _ _) ?_))
      exact bodyPost_ret (results_cell_row Try.results24 _ _ (w.heap.size + 1) 46 (tab 32 g).toArray (0, 0) _ rfl (W1.out.setRow (tab 32 g)) Try.underlying46 rfl (by rw [sizeMatrix]; simp [tab_length])) rfl ⟨rfl, KP.out.then (Keeps.setRow (S := [w.heap.size + 1]) _ (by simp) _) (fun x hx => .inr (by simp at hx; omega))⟩
end Go.Proofs.Ytpcgckppdnlccab
