/-
  Contracts: bits.Mul at 1, bytes.Repeat of one byte, New.
-/
import Derived.Test.YtdcfcljgennipaaFlashI
import Derived.Lib.MakeNoZero
import Derived.Laws.CopyOwn
import Derived.Laws.BitsAllLaws
import Derived.Deep.RegionLaw
namespace Go.Proofs.Ytdcfcljgennipaa
open Go.RowKit

set_option maxRecDepth 100000 in
set_option maxHeartbeats 1000000 in
theorem Mul64_one (w : World) (c : Nat) (hc : c ≤ 65536) :
    Calls Try.prog 96 #[.int .u64 1, .int .u64 c] w fun e w' => e = .returned (.tuple #[.int .u64 0, .int .u64 c]) ∧ w = w' := by
  have h1 : bits .and .u64 1 4294967295 = 1 := by decide
  have h0 : bits .and .u64 0 4294967295 = 0 := by decide
  have h2 : bits .and .u64 (c : Int) 4294967295 = (c : Int) := by
    have := u64_and_nat c 4294967295 (by omega) (by omega)
    rw [show ((4294967295 : Nat) : Int) = 4294967295 from rfl] at this
    rw [this, show (4294967295 : Nat) = 2 ^ 32 - 1 from rfl, Nat.and_two_pow_sub_one_eq_mod, Nat.mod_eq_of_lt (by omega)]
  have h3 : (c : Int) / 4294967296 = 0 := by omega
  go_enter Try.func96, Try.ntmps96
  go_wp2
  go_ret2
  exact ⟨rfl, rfl⟩

set_option maxRecDepth 100000 in
set_option maxHeartbeats 1000000 in
theorem Mul_one (w : World) (c : Nat) (hc : c ≤ 65536) :
    Calls Try.prog 81 #[.int .u64 1, .int .u64 c] w fun e w' => e = .returned (.tuple #[.int .u64 0, .int .u64 c]) ∧ w = w' := by
  go_enter Try.func81, Try.ntmps81
  go_wp2_with (go_at_call 96; refine (Mul64_one _ c hc).mono ?_; rintro e w' ⟨rfl, rfl⟩)
  go_ret2
  exact ⟨rfl, rfl⟩

theorem callMakeNoZero (w : World) (n : Nat) (hn : n ≤ 65536) :
    ∃ cs : Array Value, (callFunc 82 #[.int .i64 (n : Int)]).run Try.prog w = .ok (.value (.slice (some ⟨w.heap.size, 0, none⟩) n cs.size)) ((w.alloc (.cells cs 5)).drewN 2) ∧ n ≤ cs.size := by
  obtain ⟨cs, hrunM, hle, _⟩ := Lib.run_makeNoZero (P := Try.prog) w #[3] 22 5 Try.underlying22 n (by omega)
  refine ⟨cs, ?_, hle⟩
  rw [run_callFunc_extern Try.func82 (by kernel_rfl) (by kernel_rfl) (by kernel_rfl) (e := Extern.BytealgMakeNoZero.makeNoZero #[3] #[22]) (by kernel_rfl), hrunM]
  rfl

theorem slice_from (b n lo : Nat) (h : lo < n) (w : World) :
    (Instr.slice 22 (.slice (some ⟨b, 0, none⟩) n n) (some (.int .i64 lo)) none none).run Try.prog w = .ok (.slice (some ⟨b, lo, none⟩) (n - lo) (n - lo)) w := by
  rw [run_slice_l w 22 _ n n underBytes .i64 lo (by omega) (by omega)]
  rw [elemBytes, sizeByte]
  simp only [Result.andThen, sliced, Int.toNat_natCast]
  rw [if_neg (by omega)]
  simp only [Option.map_some, Nat.mul_one, Addr.add_off, Nat.zero_add]

theorem slice_to (ad : Addr) (n cap hi : Nat) (h : hi ≤ cap) (w : World) :
    (Instr.slice 22 (.slice (some ad) n cap) none (some (.int .i64 hi)) none).run Try.prog w = .ok (.slice (some ad) hi cap) w := by
  rw [run_slice_h w 22 _ n cap underBytes .i64 hi (by omega) (by omega)]
  rw [elemBytes, sizeByte]
  simp [Result.andThen, sliced, Addr.add]

theorem take_splice {α : Type} (L : List α) (off : Nat) (cs : List α) (h : off + cs.length ≤ L.length) : (splice L off cs).take (off + cs.length) = L.take off ++ cs := by
  unfold splice
  rw [List.take_append, List.take_take, List.length_take, Nat.min_eq_right (by omega), Nat.min_eq_left (by omega), List.take_append]
  simp

theorem Row.copied {w : World} {b : Nat} {T : TypeId} {xs : List Value} {cap : Nat} {cur cs : List Value} (hx : cur.take xs.length = xs) (hr : xs.length + cs.length ≤ cap) (hm : cap ≤ cur.length)
    (hg : w.heap[b]? = some (.cells (splice cur xs.length cs).toArray T (0, 0))) : Row w b T (xs ++ cs) cap := by
  refine ⟨by simpa using hr, _, hg, by simp [length_splice _ _ _ (show xs.length + cs.length ≤ cur.length by omega)]; omega, ?_⟩
  rw [List.length_append]
  show (splice cur xs.length cs).take _ = _
  rw [take_splice _ _ _ (by omega), hx]

theorem replicate_more (n m : Nat) (c : UInt8) : (List.replicate n c).map bv ++ List.replicate m (bv c) = (List.replicate (n + m) c).map bv := by
  rw [List.map_replicate, List.map_replicate, List.replicate_append_replicate]

theorem copy_hpos (w : World) (M off : Nat) (cs : Array Value) (c : UInt8) (hc : w.cell? ⟨M, off, none⟩ = some (bv c)) :
    0 < [bv c].length → some (⟨w.heap.size, 0, none⟩ : Addr) = some ⟨w.heap.size, 0, none⟩ ∧ ∃ ad : Addr, some (⟨M, off, none⟩ : Addr) = some ad ∧ ∀ j v, [bv c][j]? = some v → ((w.alloc (.cells cs 5)).drewN 2).cell? (ad.add j) = some v := by
  intro _
  refine ⟨rfl, _, rfl, fun j v hv => ?_⟩
  rw [Addr.add_off]
  match j, hv with
  | 0, hv =>
    simp at hv
    subst hv
    exact (Keeps.alloc [] w _).cell hc (by simp)

theorem rep_hpos (w : World) (R bp m n : Nat) (T : TypeId) (c : UInt8) (hR : Row w R T ((List.replicate bp c).map bv) n) (hm : m ≤ bp) :
    0 < (List.replicate m (bv c)).length → some (⟨R, bp, none⟩ : Addr) = some ⟨R, bp, none⟩ ∧ ∃ ad : Addr, some (⟨R, 0, none⟩ : Addr) = some ad ∧ ∀ j v, (List.replicate m (bv c))[j]? = some v → w.cell? (ad.add j) = some v := by
  intro _
  refine ⟨rfl, _, rfl, fun j v hv => ?_⟩
  rw [Addr.add_off, Nat.zero_add]
  have hj : j < m := by
    have := (List.getElem?_eq_some_iff.1 hv).1
    simpa using this
  have hv' : bv c = v := by
    rw [List.getElem?_replicate, if_pos hj] at hv
    exact Option.some.inj hv
  subst hv'
  exact hR.cell j (by rw [List.map_replicate, List.getElem?_replicate, if_pos (by omega)])

theorem one_rep (m : Nat) (c : UInt8) : ∀ v ∈ List.replicate m (bv c), v.oneCell' = true := by
  intro v hv; rw [List.eq_of_mem_replicate hv]; rfl

set_option maxRecDepth 100000 in
set_option maxHeartbeats 1000000 in
theorem Repeat_one (w : World) (M off cap n : Nat) (c : UInt8) (hc : w.cell? ⟨M, off, none⟩ = some (bv c)) (hn0 : 0 < n) (hn : n ≤ 8192) :
    Calls Try.prog 52 #[.slice (some ⟨M, off, none⟩) 1 cap, .int .i64 n] w fun e w' => ∃ b, e = .returned (.slice (some ⟨b, 0, none⟩) n n) ∧ w.heap.size ≤ b ∧ Row w' b 5 ((List.replicate n c).map bv) n ∧ Keeps [] w w' := by
  have hnz : ((n : Int) == 0) = false := by simp; omega
  obtain ⟨cs, hmk, hle⟩ := callMakeNoZero w n (by omega)
  have hle' : (n : Int) ≤ cs.size := by omega
  have hg : ((w.alloc (.cells cs 5)).drewN 2).heap[w.heap.size]? = some (.cells cs.toList.toArray 5 (0, 0)) := heap_alloc_new w _
  have hbel : Below w.heap.size w ((w.alloc (.cells cs 5)).drewN 2) := ⟨rfl, rfl, rfl, by simp [World.drewN], fun k hk => Below.heap_alloc _ _ _ hk⟩
  have hn1 : [bv c].length = Nat.min 1 n := by simp [Nat.min_def]; omega
  have hf1 : 0 + [bv c].length ≤ cs.toList.length := by simp; omega
  have h11 : ∀ v ∈ [bv c], v.oneCell' = true := fun v hv => by simp at hv; subst hv; rfl
  have HG := Lib.hid hg
  have HB := Lib.hid hbel
  have HN := Lib.hid hn1
  clear hg hbel hn1
  go_enter Try.func52, Try.ntmps52
  go_wp2_with (first | (go_at_call 81; refine (Mul_one _ n (by omega)).mono ?_; rintro e w' ⟨rfl, rfl⟩) | (with_reducible refine wpList_copy_splice (o := ⟨some 60, _, _, _, _, _⟩) rfl (.tmp 58) (.tmp 59) 22 22 rfl 5 Try.underlying22 szByte (some ⟨w.heap.size, 0, none⟩) (some ⟨M, off, none⟩) n n 1 cap rfl rfl w.heap.size 0 cs.toList 5 HG.out [bv c] HN.out (copy_hpos w M off cs c hc) hf1 h11 w.heap.size w HB.out (Nat.le_refl _) ?_; intro w1 HG1 hB1; have R1 : Row w1 w.heap.size 5 ((List.replicate 1 c).map bv) n := Row.copied (xs := []) (cs := [bv c]) rfl (by simp; omega) (by simpa using hle) HG1.out; clear HG1; have HR1 := Lib.hid R1; clear R1) | fail)
  go_loopw [10] (fun s10 wr => ∃ bp : Nat, 1 ≤ bp ∧ bp ≤ n ∧ s10 = .int .i64 bp ∧ Row wr w.heap.size 5 ((List.replicate bp c).map bv) n ∧ Below w.heap.size w wr) (fun s10 _ => n - (intOf s10).toNat)
  case atStart => exact ⟨1, Nat.le_refl _, hn0, rfl, HR1.out, hB1⟩
  case round =>
    obtain ⟨bp, h1, h2, rfl, hR, hBe⟩ := hrel
    by_cases hlt : bp < n
    · have hlt' : (bp : Int) < n := by omega
      have HRb := Lib.hid hR
      have HBe := Lib.hid hBe
      have hsl := slice_from w.heap.size n bp hlt
      obtain ⟨cur, hg, hsz, htk⟩ := hR.there
      have HG2 := Lib.hid (show wr.drew.heap[w.heap.size]? = some (.cells cur.toList.toArray 5 (0, 0)) from hg)
      have HB2 := Lib.hid (hBe.drew)
      have HR2 := Lib.hid (show Row wr.drew w.heap.size 5 ((List.replicate bp c).map bv) n from hR.keeps (Keeps.drew [] _) (by simp))
      have HT := Lib.hid htk
      have hcl : n ≤ cur.toList.length := by simpa using hsz
      have hsl2 := slice_to ⟨w.heap.size, 0, none⟩ n n bp (by omega)
      obtain ⟨m, hm⟩ : ∃ m, Nat.min bp (n - bp) = m := ⟨_, rfl⟩
      have hm1 : m ≤ bp := hm ▸ Nat.min_le_left _ _
      have hm2 : m ≤ n - bp := hm ▸ Nat.min_le_right _ _
      have hm3 : 1 ≤ m := by have : Nat.min bp (n - bp) = min bp (n - bp) := rfl; omega
      have HFIT := Lib.hid (show bp + (List.replicate m (bv c)).length ≤ cur.toList.length by rw [List.length_replicate]; omega)
      have HLEN := Lib.hid (show (List.replicate m (bv c)).length = Nat.min bp (n - bp) by rw [List.length_replicate, hm])
      have hwr : IntKind.i64.wrap ((bp : Int) + m) = (bp : Int) + m := IntWalk.i64_in _ (by omega)
      clear hR hBe hmk hg hsz htk hm
      go_wp2
      go_region_law (refine step_copy_splice rfl (.tmp 70) (.tmp 73) 22 22 rfl 5 Try.underlying22 szByte (some ⟨w.heap.size, bp, none⟩) (some ⟨w.heap.size, 0, none⟩) (n - bp) (n - bp) bp n (by go_simp) (by go_simp) w.heap.size bp cur.toList 5 HG2.out (List.replicate m (bv c)) HLEN.out (rep_hpos _ _ _ _ _ _ _ HR2.out hm1) HFIT.out (one_rep _ _) w.heap.size w HB2.out (Nat.le_refl _) ?_; intro w3 HG3 hB3)
      have hR3 : Row w3 w.heap.size 5 ((List.replicate bp c).map bv ++ List.replicate m (bv c)) n := Row.copied (by rw [List.length_map, List.length_replicate]; have := HT.out; simpa using this) (by rw [List.length_map, List.length_replicate, List.length_replicate]; omega) (by have := HFIT.out; omega) (by have := HG3.out; simpa using this)
      rw [replicate_more] at hR3
      have HR3 := Lib.hid hR3
      clear hR3 HG3 hwr
      simp only [Act.put, List.getElem_toArray, List.getElem_cons_succ, List.getElem_cons_zero, List.setIfInBounds_toArray, List.set_cons_succ, List.set_cons_zero]
      go_wp2
      go_roundw
      case rel => exact ⟨bp + m, by omega, by omega, by go_num, HR3.out, hB3⟩
      case measure => simp [intOf]; omega
    · obtain rfl : bp = n := by omega
      have HRb := Lib.hid hR
      clear hR hmk
      go_wp2
      go_ret
      exact ⟨w.heap.size, rfl, Nat.le_refl _, HRb.out, Keeps.ofBelow hBe⟩
end Go.Proofs.Ytdcfcljgennipaa
