/-
  Contracts of sha: sum, noBytes, New, made, Write, Len, Sum, Of.
-/
import Derived.Test.YtlnmbfddhdjioaaDoorShaJ
namespace Go.Proofs.YtlnmbfddhdjioaaDoor
open Go.RowKit

/-- Bytes, the first k of which are put, of n. -/
def fillK (o : List UInt8) (n k : Nat) : List UInt8 := o.take k ++ List.replicate (n - k) 0

theorem fillK_set (o : List UInt8) (n k : Nat) (v : UInt8) (hk : k < n) (hv : o[k]? = some v) : (fillK o n k).set k v = fillK o n (k + 1) := by
  have hl : k < o.length := (List.getElem?_eq_some_iff.1 hv).1
  have hg : o[k] = v := (List.getElem?_eq_some_iff.1 hv).2
  unfold fillK
  rw [List.set_append_right _ _ (by simp; omega)]
  have e : n - k = (n - (k + 1)) + 1 := by omega
  rw [e, List.replicate_succ]
  simp only [List.length_take, Nat.min_eq_left (Nat.le_of_lt hl), Nat.sub_self, List.set_cons_zero]
  rw [List.take_succ_eq_append_getElem hl, hg, List.append_assoc]
  rfl

theorem fillK_get (o : List UInt8) (n k : Nat) (hk : k < n) (ho : k ≤ o.length) : (fillK o n k)[k]? = some 0 := by
  unfold fillK
  have hl : (o.take k).length = k := by rw [List.length_take, Nat.min_eq_left ho]
  rw [List.getElem?_append_right (by omega), hl, Nat.sub_self, List.getElem?_replicate, if_pos (by omega)]

theorem fillK_end (o : List UInt8) (n : Nat) (h : o.length = n) : fillK o n n = o := by
  unfold fillK
  simp [← h]

theorem fillK_length (o : List UInt8) (n k : Nat) (h : o.length = n) (hk : k ≤ n) : (fillK o n k).length = n := by
  unfold fillK; simp; omega

theorem outs_get (s : W8) (i : Nat) (hi : i < 32) : (outs s)[i]? = some (outb s i) := by
  unfold outs; simp [hi]

theorem szBytes32 : (Tryd.prog.info? 27).map (·.size) = some 32 := by kernel_rfl
theorem szText : (Tryd.prog.info? 48).map (·.size) = some 73 := by kernel_rfl

theorem bytes_one (l : List UInt8) : (l.map bv).toArray.all (·.oneCell') = true := by
  rw [List.all_toArray, List.all_eq_true]
  exact fun u hu => one_bytes l u hu

set_option maxRecDepth 100000 in
set_option maxHeartbeats 1000000 in
theorem sum_any (w : World) (l xs : List UInt8) (hx : Heads l xs) (hR : Roots w) (hn : l.length ≤ 100000000) :
    Calls Tryd.prog 23 #[.agg (tcells (stOf kk h0 l) xs l.length).toArray] w fun e w' => e = .returned (.agg ((sumOf kk h0 l).map bv).toArray) ∧ Keeps [] w w' := by
  have HX := Lib.hid hx
  have HR := Lib.hid hR
  have hrl := hR.lt
  clear hx hR
  go_enter Tryd.func23, Tryd.ntmps23
  go_upto_region 1 with (fail)
  generalize hV : World.alloc (World.alloc w _) _ = V
  have w0 : Whole V w.heap.size 48 ([] ++ tcells (stOf kk h0 l) xs l.length) := by
    rw [← hV]; exact (Whole.new w 48 ([] ++ tcells (stOf kk h0 l) xs l.length)).keeps (Keeps.alloc [] _ _) (by simp)
  have w1 : Whole V (w.heap.size + 1) 27 ((List.replicate 32 (0 : UInt8)).map bv) := by
    rw [← hV]; exact Whole.new_at (w.alloc _) 27 ((List.replicate 32 (0 : UInt8)).map bv) _ (by simp)
  have kV : Keeps [] w V := by rw [← hV]; exact (Keeps.alloc [] _ _).trans (Keeps.alloc [] _ _)
  have c72 := wholeLen w0 HX.out.1 0 rfl
  have sV : w.heap.size + 1 < V.heap.size := w1.lt
  have T0 := Lib.hid (show Txt V w.heap.size 48 [] l from ⟨xs, HX.out, w0⟩)
  have W1 := Lib.hid w1
  have KV := Lib.hid kV
  have RV := Lib.hid (HR.out.keeps kV (by simp) (by simp))
  rw [Nat.zero_add] at c72
  clear hV w0 w1 kV
  go_upto_region 2 with (first | (go_at_call 27; refine (padding_any _ _ (by omega)).mono ?_; rintro e w2 ⟨v, M, rfl, hv, hM, k2⟩; have HV := Lib.hid hv; have K2 := Lib.hid k2; clear hv k2) | (go_at_call 22; refine (add_any _ w.heap.size 0 M 48 [] l (padb l.length) _ (T0.out.keeps K2.out (by simp)) rfl HV.out (by omega) (RV.out.keeps K2.out (by simp) (by simp)) (by omega) (by omega) (by rw [padb_length]; omega)).mono ?_; rintro e w3 ⟨⟨u, rfl⟩, t3, k3⟩; have T3 := Lib.hid t3; have K3 := Lib.hid k3; clear t3 k3))
  go_upto_region 3 with (fail)
  generalize hU : World.alloc w3 _ = U
  have u2 : Whole U w3.heap.size 27 ((fillK (outs (stOf kk h0 (l ++ padb l.length))) 32 0).map bv) := by
    rw [← hU]; exact Whole.new w3 27 ((List.replicate 32 (0 : UInt8)).map bv)
  have kU : Keeps [] w3 U := by rw [← hU]; exact Keeps.alloc [] _ _
  obtain ⟨ys, hy, hw⟩ := T3.out
  have U0 := Lib.hid (hw.keeps kU (by simp))
  have U2 := Lib.hid u2
  have U1 := Lib.hid (((W1.out.keeps K2.out (by simp)).keeps K3.out (by simp)).keeps kU (by simp))
  have KU := Lib.hid (((KV.out.trans K2.out).then K3.out (fun x hx => .inr (by simp at hx; omega))).trans kU)
  have s3 : w.heap.size + 1 < w3.heap.size := by have := K2.out.size; have := K3.out.size; omega
  have HS := Lib.hid (show sumOf kk h0 l = outs (stOf kk h0 (l ++ padb l.length)) from rfl)
  have HY := Lib.hid hy
  clear hU u2 kU hw hy HV T3 T0 W1 K2 K3 KV RV HX c72
  generalize stOf kk h0 (l ++ padb l.length) = st at *
  generalize (l ++ padb l.length).length = nn at *
  generalize w3.heap.size = b2 at *
  go_wp2
  go_loopw [9] (fun i wr => ∃ k : Nat, k ≤ 32 ∧ i = .int .i64 k ∧ Whole wr b2 27 ((fillK (outs st) 32 k).map bv) ∧ Whole wr w.heap.size 48 ([] ++ tcells st ys nn) ∧ Whole wr (w.heap.size + 1) 27 ((List.replicate 32 (0 : UInt8)).map bv) ∧ Keeps [] w wr) (fun i _ => 32 - (intOf i).toNat)
  case atStart => exact ⟨0, Nat.zero_le _, rfl, U2.out, U0.out, U1.out, KU.out⟩
  case round =>
    obtain ⟨k, hk, rfl, h2, ht, h1, kp⟩ := hrel
    by_cases hlt : k < 32
    · have hlt' : (k : Int) < 32 := by omega
      have q1 : (k : Int) / 4 = ((k / 4 : Nat) : Int) := by omega
      have q2 : (k : Int).tdiv 4 = ((k / 4 : Nat) : Int) := by rw [Int.tdiv_eq_ediv_of_nonneg (by omega)]; exact q1
      have q3 : (k : Int) % 4 = ((k % 4 : Nat) : Int) := by omega
      have q4 : (k : Int).tmod 4 = ((k % 4 : Nat) : Int) := by rw [Int.tmod_eq_emod_of_nonneg (by omega)]; exact q3
      have q5 : k / 4 < 8 := by omega
      have q6 : ((k / 4 : Nat) : Int) < 8 := by omega
      have cw : wr.cell? ⟨w.heap.size, k / 4, none⟩ = some (uv (st.get (k / 4))) := by
        rw [ht.cell, List.nil_append]
        unfold tcells
        rw [List.getElem?_append_left (by rw [tab_length]; exact q5), tab_get 8 _ _ q5]
      have r1 : ((k % 4 : Nat) : Int) * 8 = ((k % 4 * 8 : Nat) : Int) := by omega
      have r2 : (24 : Int) - ((k % 4 * 8 : Nat) : Int) = ((24 - k % 4 * 8 : Nat) : Int) := by omega
      have r3 : min (24 - k % 4 * 8) 32 = 24 - k % 4 * 8 := by omega
      have r6 : k % 4 * 8 ≤ 24 := by omega
      have hlo : (outs st)[k]? = some (outb st k) := outs_get st k hlt
      have r4 : ((st.get (k / 4)).toNat : Int) / (2 : Int) ^ (24 - k % 4 * 8) % 256 = ((outb st k).toNat : Int) := by
        unfold outb
        rw [byte_mod, Int.natCast_emod, Int.natCast_ediv, Int.natCast_pow]; rfl
      have r5 : IntKind.u8.wrap (((st.get (k / 4)).toNat : Int) / (2 : Int) ^ (24 - k % 4 * 8)) = ((outb st k).toNat : Int) := r4
      have c2 : wr.cell? ⟨b2, k, none⟩ = some (bv 0) := (h2.cell k).trans (by rw [List.getElem?_map, fillK_get _ _ _ hlt (by rw [outs_length]; omega)]; rfl)
      have f2 := h2.frozen k
      have hs := h2.set k (bv (outb st k))
      rw [← List.map_set, fillK_set _ _ _ _ hlt hlo] at hs
      have kst := fun v => Keeps.setCell (S := [b2]) wr (p := ⟨b2, k, none⟩) (by simp) v
      have HS2 := Lib.hid hs
      have HT := Lib.hid (ht.keeps (kst (bv (outb st k))) (notMem1 (by omega)))
      have H1 := Lib.hid (h1.keeps (kst (bv (outb st k))) (notMem1 (by omega)))
      have KP := Lib.hid (kp.then (kst (bv (outb st k))) (fun x hx => .inr (by simp at hx; omega)))
      clear h2 ht h1 kp hs kst hlo
      generalize outb st k = oc at *
      generalize st.get (k / 4) = sw at *
      generalize k / 4 = kq at *
      generalize 24 - k % 4 * 8 = sh at *
      generalize k % 4 * 8 = k8 at *
      generalize k % 4 = kr at *
      unfold bv at c2
      go_wp2
      go_roundw
      case rel => exact ⟨k + 1, by omega, by go_num, HS2.out, HT.out, H1.out, KP.out⟩
      case measure => simp [intOf]; omega
    · have hkn : k = 32 := by omega
      subst hkn
      rw [fillK_end _ _ (outs_length st)] at h2
      have H2 := Lib.hid h2
      have H1 := Lib.hid h1
      have KP := Lib.hid kp
      clear h2 ht h1 kp
      go_wp2_with (first | (refine wpList_load_row rfl 27 _ rfl b2 rfl 27 ((outs st).map bv).toArray (0, 0) _ H2.out Tryd.underlying27 rfl (by rw [szBytes32]; simp [outs_length]) ?_) | (refine wpList_store_row rfl 27 _ _ rfl (w.heap.size + 1) ((outs st).map bv).toArray rfl rfl 27 ((List.replicate 32 (0 : UInt8)).map bv).toArray H1.out (by rw [szBytes32]; simp [outs_length]) (by simp [outs_length]) (bytes_one _) ?_))
      exact bodyPost_ret (results_cell_row Tryd.results23 _ _ (w.heap.size + 1) 27 ((outs st).map bv).toArray (0, 0) _ rfl (H1.out.setRow _) Tryd.underlying27 rfl (by rw [szBytes32]; simp [outs_length])) rfl ⟨by rw [HS.out], KP.out.then (Keeps.setRow (S := [w.heap.size + 1]) _ (by simp) _) (fun x hx => .inr (by simp at hx; omega))⟩
end Go.Proofs.YtlnmbfddhdjioaaDoor
