/-
  Contract: the document's New.
-/
import Derived.Test.YtpcgckppdnlccaaTellsE
import Derived.Test.YtpcgckppdnlccaaLawOrderC
namespace Go.Proofs.Ytpcgckppdnlccaa
open Go.RowKit Go.Deep

set_option maxHeartbeats 400000 in
theorem RNew_bad (w : World) (n : Int) (h : n < 8 ∨ 256 < n) :
    Calls Try.prog 12 #[.int .i64 n] w fun e w' => e = .returned (.tuple #[.pointer none, .int .i64 2]) ∧ w = w' := by
  by_cases h8 : n < 8
  · go_enter Try.func12, Try.ntmps12
    go_wp2
    go_ret2
    exact ⟨rfl, rfl⟩
  · have h256 : 256 < n := by omega
    go_enter Try.func12, Try.ntmps12
    go_wp2
    go_ret2
    exact ⟨rfl, rfl⟩

def RMade (w : World) (n : Nat) (e : Ending) (w' : World) : Prop :=
  ∃ R C W M, e = .returned (.tuple #[.pointer (some ⟨R, 0, none⟩), .int .i64 0]) ∧ w.heap.size ≤ R ∧ w.heap.size ≤ C ∧ w.heap.size ≤ W ∧ w.heap.size ≤ M ∧ RefAt w' R C W M (FS.new n) [] ∧ Keeps [] w w'

set_option maxHeartbeats 2000000 in
theorem RNew_ok (w : World) (n : Nat) (h8 : 8 ≤ n) (h256 : n ≤ 256) :
    Calls Try.prog 12 #[.int .i64 n] w (RMade w n) := by
  have hmk := fun w => run_make_row' (P := Try.prog) 37 3 (.int .i64 0) 8 Try.underlying37 infoInt rfl .i64 .i64 n (by omega) (by omega) w
  obtain ⟨i0, hi, hz0, hz1, hz2⟩ := info_parts infoByte
  have HMD := Lib.hid (Row.made w (.int .i64 0) n 3)
  have hcast : ((n : Int) * 256) = ((n * 256 : Nat) : Int) := by omega
  have HN := Lib.hid hcast
  clear hcast
  go_enter Try.func12, Try.ntmps12
  go_wp2
  clear hmk
  go_loopw [5] (fun i wr => ∃ (k : Nat) (av : Option Addr) (cv : Nat), k ≤ n * 256 ∧ i = .int .i64 k ∧
    wr.heap[w.heap.size + 1]? = some (.cells #[.slice av k cv, .slice (some ⟨w.heap.size, 0, none⟩) n n, .int .i64 (-1), .slice none 0 0, .bool false] 39 (0, 0)) ∧
    wr.ownsRow (w.heap.size + 2) 5 1 (.slice av k cv) k (List.replicate k (bv 255)) ∧ Row wr w.heap.size 3 ((FS.new n).wear.map (Value.int .i64)) n ∧ Keeps [] w wr ∧ w.heap.size + 2 ≤ wr.heap.size) (fun i _ => n * 256 - (intOf i).toNat)
  case atStart =>
    refine ⟨0, none, 0, Nat.zero_le _, rfl, ?_, World.ownsRow_nil _ _ _ _, ?_, (Keeps.alloc [] w _).trans (Keeps.alloc [] _ _), by simp⟩
    · have := heap_alloc_new (w.alloc (.cells (madeCells #[.int .i64 0] n) 3)) (.cells #[.slice none 0 0, .slice (some ⟨w.heap.size, 0, none⟩) n n, .int .i64 (-1), .slice none 0 0, .bool false] 39)
      simpa using this
    · have := HMD.out.keeps (Keeps.alloc [] _ (.cells #[.slice none 0 0, .slice (some ⟨w.heap.size, 0, none⟩) n n, .int .i64 (-1), .slice none 0 0, .bool false] 39)) (by simp)
      simpa [FS.new] using this
  case round =>
    obtain ⟨k, av, cv, hk, rfl, hobj, hown, hW, hK, hsz⟩ := hrel
    have HOB := Lib.hid hobj
    have HO := Lib.hid hown
    have HW := Lib.hid hW
    have HK := Lib.hid hK
    have c0 : wr.cell? ⟨w.heap.size + 1, 0, none⟩ = some (.slice av k cv) := by simp [World.cell?, hobj]
    clear hobj hown hW hK
    by_cases hlt : k < n * 256
    · have hlt' : (k : Int) < (n : Int) * 256 := by omega
      go_wp2_with (at_builtin; refine wpList_append_own _ rfl _ _ 31 rfl (w.heap.size + 2) 5 i0 (.int .u8 0) 1 1 Try.underlying31 hi hz0 hz1 hz2 rfl (by decide) (.slice av k cv) k (List.replicate k (bv 255)) rfl (HO.out.alloc _) ⟨wr.heap.size, 0, none⟩ 1 1 [bv 255] rfl rfl ?c1 ?c2 ?c3 ?c4 ?c5 ?_)
      case c1 =>
        intro j u hu
        rw [Addr.add_off, Nat.zero_add, cell_alloc_new]
        match j, hu with
        | 0, hu => simpa [bv] using hu
      case c2 => intro u hu; simp at hu; subst hu; rfl
      case c3 => unfold maxLen; omega
      case c4 => omega
      case c5 => simp; omega
      intro v' w1 hown1 hg1 _
      obtain ⟨S, hS⟩ : ∃ S, S = (Value.slice av k cv).ownBlock.toList := ⟨_, rfl⟩
      have hSm : ∀ x ∈ S, w.heap.size + 2 ≤ x := fun x hx => (HO.out.lt x (by rw [hS] at hx; simpa using hx)).1
      have kg : Keeps S _ w1 := Keeps.grown hg1 (fun x e => .inl (by rw [hS, e]; simp))
      have kS : Keeps S wr w1 := (Keeps.alloc S wr _).trans kg
      have ho1 := kS.obj HOB.out (fun e => by have := hSm _ e; omega)
      have HW1 := Lib.hid (HW.out.keeps kS (fun e => by have := hSm _ e; omega))
      have kw1 : Keeps [] w w1 := HK.out.then kS (fun x hx => .inr (by have := hSm _ hx; omega))
      have HKw1 := Lib.hid kw1
      have hsz1 := kS.size
      have hrep : List.replicate k (bv 255) ++ [bv 255] = List.replicate (k + 1) (bv 255) := by rw [List.replicate_succ']
      rw [hrep] at hown1
      obtain ⟨av', cv', rfl⟩ := owns_shape hown1
      have HO1 := Lib.hid hown1
      have HB1 := Lib.hid ho1
      have p0 : w1.cell? ⟨w.heap.size + 1, 0, none⟩ = some (.slice av k cv) := by simp [World.cell?, ho1]
      have g0 : w1.frozen? ⟨w.heap.size + 1, 0, none⟩ = false := by simp [World.frozen?, ho1]
      clear hown1 hg1 hrep kg kS ho1 kw1 hSm hS c0
      go_wp2
      go_roundw
      case rel =>
        have k2 : Keeps [w.heap.size + 1] w1 (w1.setCell ⟨w.heap.size + 1, 0, none⟩ (.slice av' (k + 1) cv')) := Keeps.setCell _ (by simp) _
        refine ⟨k + 1, av', cv', by omega, by go_num, ?_, ownsRow_keeps HO1.out k2 (fun x hx => by have := (HO1.out.lt x hx).1; simp; omega), HW1.out.keeps k2 (by simp), HKw1.out.then k2 (fun x hx => .inr (by simp at hx; omega)), by have := k2.size; omega⟩
        rw [heap_setCell_at _ _ _ _ _ _ _ HB1.out]; rfl
      case measure => simp [intOf]; omega
    · obtain rfl : k = n * 256 := by omega
      have hge : ¬ (((n * 256 : Nat) : Int) < (n : Int) * 256) := by omega
      obtain ⟨C, cC, hv, hC, hR⟩ := Row.ofOwns HO.out (by intro e; simp at e; omega)
      simp at hv
      obtain ⟨rfl, rfl⟩ := hv
      have hCl := hR.lt
      have HR := Lib.hid (show RefAt wr (w.heap.size + 1) C w.heap.size wr.heap.size (FS.new n) [] from
        ⟨by omega, by omega, by omega, ⟨by omega, by omega, by omega⟩, by simp [FS.new]; omega, by simp [FS.new]; omega, Int.le_refl 0, by show (0 : Int) ≤ _; omega, by simp, (by intro e; cases e),
          cv, n, .slice none 0 0, by have := HOB.out; simpa [FS.new, FS.lets] using this, by simpa [FS.new] using hR, HW.out, Reads.nil _ _⟩)
      clear hR c0
      go_wp2
      go_ret2
      exact ⟨w.heap.size + 1, C, w.heap.size, wr.heap.size, rfl, by omega, by omega, by omega, by omega, HR.out, HK.out⟩
end Go.Proofs.Ytpcgckppdnlccaa
