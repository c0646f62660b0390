/-
  Keys and values: what a change means; bytes laid anew, however many.
-/
import Derived.Test.YtlnmbfddhdjioaaGreatCfgRefS
namespace Go.Proofs.YtlnmbfddhdjioaaGreat
open Go.RowKit Go.Deep

set_option maxRecDepth 100000 in
set_option maxHeartbeats 2000000 in
theorem meant6_any (w : World) {P : Nat → Prop} (hP : ∀ M, w.heap.size ≤ M → P M) (d ar : Nat) (hd : d < 256) (v kv vv mv : Value) (es : List Ent) (ky vl : List UInt8) (h : EntsP P w v es) (hn : es.length ≤ 100000) (hwt : wtL es ≤ 236) (hok : ∀ e ∈ es, OkE e) (hk0 : BytesP P w kv ky) (hv0 : BytesP P w vv vl) (hkl : ky.length ≤ maxLen) (hvl : vl.length ≤ maxLen) :
    Calls Tryz.prog 8 #[.agg #[.int .u8 d, kv, vv, .int .u8 ar, mv], v] w fun e w' => ∃ ao cp, e = .returned (.tuple #[.slice ao (opE es d ky vl).1.length cp, .int .i64 (opE es d ky vl).2]) ∧ EntsP P w' (.slice ao (opE es d ky vl).1.length cp) (opE es d ky vl).1 ∧ Keeps [] w w' := by
  have HS := Lib.hid (show ∀ U, Keeps [] w U → Calls Tryz.prog 24 #[v, kv, vv] U (fun e w' => ∃ ao cp, e = .returned (.tuple #[.slice ao (setE es ky vl).1.length cp, .int .i64 (setE es ky vl).2]) ∧ EntsP P w' (.slice ao (setE es ky vl).1.length cp) (setE es ky vl).1 ∧ Keeps [] U w') from fun U hU => by
    obtain ⟨Mk, rk, _⟩ := hk0.keeps hU (by simp)
    obtain ⟨Mv, rv, _⟩ := hv0.keeps hU (by simp)
    exact r6Set_any U (fun M hM => hP M (by have := hU.size; omega)) v kv vv es ky vl Mk Mv (h.keeps hU (by simp)) hn hwt hok rk rv (hk0.keeps hU (by simp)) (hv0.keeps hU (by simp)) hkl hvl)
  have HD := Lib.hid (show ∀ U, Keeps [] w U → Calls Tryz.prog 23 #[v, kv] U (fun e w' => ∃ ao cp, e = .returned (.tuple #[.slice ao (delE es ky).1.length cp, .int .i64 (delE es ky).2]) ∧ EntsP P w' (.slice ao (delE es ky).1.length cp) (delE es ky).1 ∧ Keeps [] U w') from fun U hU => by
    obtain ⟨Mk, rk, _⟩ := hk0.keeps hU (by simp)
    exact r6Delete_any U (fun M hM => hP M (by have := hU.size; omega)) v kv es ky Mk (h.keeps hU (by simp)) hn rk hkl)
  obtain ⟨q, hq⟩ : ∃ q, q = d % 4 := ⟨_, rfl⟩
  have e1 : (d : Int) % 4 = (q : Int) := by omega
  have e2 : (d : Int).tmod 4 = (q : Int) := by rw [Int.tmod_eq_emod_of_nonneg (by omega)]; exact e1
  have hq4 : q < 4 := by omega
  unfold opE
  rw [← hq]
  clear hq h hk0 hv0
  by_cases h3 : q = 3
  · subst h3
    rw [if_pos rfl]
    generalize delE es ky = res at HD ⊢
    obtain ⟨es', er⟩ := res
    simp only at HD ⊢
    generalize es'.length = m at HD ⊢
    go_enter Tryz.func8, Tryz.ntmps8
    go_upto_region 1 with (fail)
    generalize hV : World.alloc w _ = V
    have kV : Keeps [] w V := by rw [← hV]; exact Keeps.alloc [] _ _
    have wO : Whole V w.heap.size 33 [.int .u8 d, kv, vv, .int .u8 ar, mv] := by rw [← hV]; exact Whole.new w 33 [_, _, _, _, _]
    have o0 := (wO.cell 0).trans (show _ = some (Value.int .u8 (d : Int)) from rfl)
    have o1 := (wO.cell 1).trans (show _ = some kv from rfl)
    have o2 := (wO.cell 2).trans (show _ = some vv from rfl)
    have KV := Lib.hid kV
    clear hV kV wO
    go_wp2_with (go_at_call 23; refine (HD.out _ KV.out).mono ?_; rintro e w1 ⟨ao, cp, rfl, he, k1⟩; have HE := Lib.hid he; have K1 := Lib.hid (KV.out.trans k1); clear he k1)
    go_ret2
    exact ⟨ao, cp, rfl, HE.out, K1.out⟩
  · have h3' : ¬ (q : Int) = 3 := by omega
    have h3b : ((q : Int) == 3) = false := by simp; omega
    rw [if_neg h3]
    generalize setE es ky vl = res at HS ⊢
    obtain ⟨es', er⟩ := res
    simp only at HS ⊢
    generalize es'.length = m at HS ⊢
    go_enter Tryz.func8, Tryz.ntmps8
    go_upto_region 1 with (fail)
    generalize hV : World.alloc w _ = V
    have kV : Keeps [] w V := by rw [← hV]; exact Keeps.alloc [] _ _
    have wO : Whole V w.heap.size 33 [.int .u8 d, kv, vv, .int .u8 ar, mv] := by rw [← hV]; exact Whole.new w 33 [_, _, _, _, _]
    have o0 := (wO.cell 0).trans (show _ = some (Value.int .u8 (d : Int)) from rfl)
    have o1 := (wO.cell 1).trans (show _ = some kv from rfl)
    have o2 := (wO.cell 2).trans (show _ = some vv from rfl)
    have KV := Lib.hid kV
    clear hV kV wO
    go_wp2_with (go_at_call 24; refine (HS.out _ KV.out).mono ?_; rintro e w1 ⟨ao, cp, rfl, he, k1⟩; have HE := Lib.hid he; have K1 := Lib.hid (KV.out.trans k1); clear he k1)
    go_ret2
    exact ⟨ao, cp, rfl, HE.out, K1.out⟩

set_option maxRecDepth 100000 in
set_option maxHeartbeats 400000 in
theorem FreshBig_some (w : World) (ad : Addr) (n cap : Nat) (xs : List Value) (hx : xs.length = n) (hl : n ≤ 140737488351232) (h1 : ∀ u ∈ xs, u.oneCell' = true) (hc : ∀ i u, xs[i]? = some u → w.cell? (ad.add i) = some u) :
    Calls Tryz.prog 7 #[.slice (some ad) n cap] w fun e w' => ∃ b c, e = .returned (.slice (some ⟨b, 0, none⟩) n c) ∧ w.heap.size ≤ b ∧ Row w' b 5 xs c ∧ Keeps [] w w' := by
  obtain ⟨i0, hi, hz0, hz1, hz2⟩ := info_parts infoByte
  have Hx := Lib.hid hx
  clear hx
  go_enter Tryz.func7, Tryz.ntmps7
  go_wp2_with (first | (refine wpList_make_own _ rfl _ _ 23 rfl w.heap.size 5 i0 (.int .u8 0) 1 Tryz.underlying23 hi hz0 hz1 .i64 .i64 _ n rfl rfl rfl (by rw [hz2]; omega) (by unfold maxLen; omega) (Nat.le_refl _) ?_; intro w1 hown1 hg1; have HO := Lib.hid hown1; have HG := Lib.hid hg1; clear hown1 hg1) | (at_builtin; refine wpList_append_fits _ rfl _ _ 23 rfl w.heap.size 5 i0 1 Tryz.underlying23 hi hz1 w.heap.size 0 n [] rfl HO.out ad n cap xs rfl (by rw [Hx.out, Nat.mul_one]) (fun j u hu => (Keeps.grown (S := []) HG.out (fun k hk => by cases hk)).cell (hc j u hu) (by simp)) h1 (by omega) ?_; intro w2 hown2 hg2; have HO2 := Lib.hid hown2; have HG2 := Lib.hid hg2; clear hown2 hg2) | fail)
  go_ret
  have hsz := HG.out.size
  exact ⟨w.heap.size, n, by simp, Nat.le_refl _, by have := Row.ofOwnsAt HO2.out; simpa using this, (Keeps.grown (S := []) HG.out (fun k hk => by cases hk)).then (Keeps.grown (S := [w.heap.size]) HG2.out (fun k hk => by simp at hk; simp [hk])) (fun x hx => .inr (by simp at hx; omega))⟩

theorem FreshBig (w : World) (v : Value) (l : List UInt8) (M : Nat) (h : Reads w v l M) (hl : l.length ≤ 140737488351232) :
    Calls Tryz.prog 7 #[v] w fun e w' => ∃ b c, e = .returned (.slice (some ⟨b, 0, none⟩) l.length c) ∧ w.heap.size ≤ b ∧ Row w' b 5 (l.map bv) c ∧ Keeps [] w w' := by
  rcases h with ⟨rfl, rfl⟩ | ⟨ad, cap, rfl, _, _, hc⟩
  · exact Fresh_nil w
  · exact FreshBig_some w ad l.length cap (l.map bv) (by simp) hl (one_bytes l) (fun i u hu => by
      rw [List.getElem?_map] at hu
      obtain ⟨c, h1, rfl⟩ := Option.map_eq_some_iff.1 hu
      exact hc i c h1)
end Go.Proofs.YtlnmbfddhdjioaaGreat
