/-
  Keys and values: what the statements ask of a flash and of lists of entries.
-/
import Derived.Test.YtcmjecnbmdhjlaaGreatCfgOps
namespace Go.Proofs.YtcmjecnbmdhjlaaGreat
open Go.RowKit Go.Deep

theorem quiet_same6 {P : Program} {f : FuncId} {args : Array Value} {w : World} {n : Nat} {v : Value} (h : Calls P f args (w.drewN n) fun e w' => e = .returned v ∧ w.drewN n = w') :
    Calls P f args (w.drewN n) fun e w'' => e = .returned v ∧ ∃ m, w'' = w.drewN m :=
  h.mono fun _ _ ⟨h1, h2⟩ => ⟨h1, n, h2.symm⟩

def sumW (s : FS) (first : Nat) : Nat → Int
  | 0 => 0
  | j + 1 => sumW s first j + s.wearOf ((first + j : Nat) : Int)

theorem sumW_bound (s : FS) (first : Nat) (hb : ∀ k : Nat, 0 ≤ s.wearOf k ∧ s.wearOf k ≤ 1000000) : ∀ j, 0 ≤ sumW s first j ∧ sumW s first j ≤ j * 1000000
  | 0 => by simp [sumW]
  | j + 1 => by have := sumW_bound s first hb j; have := hb (first + j); unfold sumW; omega

set_option maxRecDepth 100000 in
set_option maxHeartbeats 1000000 in
theorem wears6_any {F B W M : Nat} {s : FS} (w : World) (hF : FlashAt w F B W M s) (first n : Nat) (hf : first + n ≤ 256) (hn : 0 < n) (hb : ∀ k : Nat, 0 ≤ s.wearOf k ∧ s.wearOf k ≤ 1000000) :
    Calls Tryz.prog 22 #[.pointer (some ⟨F, 0, none⟩), .agg #[.int .i64 first, .int .i64 n]] w fun e w' => ∃ d : Int, e = .returned (.tuple #[.int .i64 (sumW s first n), .int .i64 d]) ∧
      (∀ D : Int, 0 ≤ D → (∀ x y : Nat, (first ≤ x ∧ x < first + n) → (first ≤ y ∧ y < first + n) → s.wearOf x ≤ s.wearOf y + D) → d ≤ D) ∧ Keeps [] w w' := by
  have HB := Lib.hid hb
  have HSB := Lib.hid (sumW_bound s first hb)
  have hf1 : (first : Int) + n ≤ 256 := by omega
  have HF := Lib.hid hF
  clear hF hb
  go_enter Tryz.func22, Tryz.ntmps22
  go_upto_region 1 with (fail)
  generalize hV : World.alloc w _ = V
  have kV : Keeps [] w V := by rw [← hV]; exact Keeps.alloc [] _ _
  have wV : Whole V w.heap.size 25 [.int .i64 first, .int .i64 n] := by rw [← hV]; exact Whole.new w 25 [_, _]
  have v0 := (wV.cell 0).trans (show _ = some (Value.int .i64 (first : Int)) from rfl)
  have v1 := (wV.cell 1).trans (show _ = some (Value.int .i64 (n : Int)) from rfl)
  have HW := Lib.hid (fun k : Nat => Wear_any V (HF.out.keeps kV (by simp) (by simp) (by simp) (by simp)) k)
  have KV := Lib.hid kV
  clear hV kV wV
  have HW0 := Lib.hid (HW.out first)
  go_wp2_with (go_at_call 48; refine HW0.out.mono ?_; rintro e w' ⟨rfl, rfl⟩)
  go_loopw [6, 7, 8, 9] (fun sm l m k wr => ∃ (lv mv : Int) (a b q : Nat), (first ≤ a ∧ a < first + n) ∧ (first ≤ b ∧ b < first + n) ∧ q ≤ n ∧ k = .int .i64 ((first + q : Nat) : Int) ∧ sm = .int .i64 (sumW s first q) ∧ l = .int .i64 lv ∧ m = .int .i64 mv ∧ lv = s.wearOf a ∧ (mv = s.wearOf b ∨ mv = 0) ∧ wr = V) (fun _ _ _ k _ => first + n - (intOf k).toNat)
  case atStart => exact ⟨_, _, first, first, 0, ⟨by omega, by omega⟩, ⟨by omega, by omega⟩, by omega, rfl, rfl, rfl, rfl, rfl, .inr rfl, rfl⟩
  case round =>
    obtain ⟨lv, mv, a, b, q, ha, hb, hq, rfl, rfl, rfl, rfl, hl, hm, rfl⟩ := hrel
    have hB := HB.out
    have hsb := HSB.out q
    by_cases hlt : q < n
    · have hqi : ((first + q : Nat) : Int) < (first : Int) + n := by omega
      have hqn : (q : Int) ≤ 256 := by omega
      have HWQ := Lib.hid (HW.out (first + q))
      have hsb1 := HSB.out (q + 1)
      rw [show sumW s first (q + 1) = sumW s first q + s.wearOf ((first + q : Nat) : Int) from rfl] at hsb1
      have hx := hB (first + q)
      have hya := hB a
      have hyb := hB b
      have hwa : IntKind.i64.wrap (sumW s first q + s.wearOf ((first + q : Nat) : Int)) = sumW s first q + s.wearOf ((first + q : Nat) : Int) := IntWalk.i64_in _ (by omega)
      have HL := Lib.hid hl
      have HM := Lib.hid hm
      clear hl hm
      go_wp2_with (go_at_call 48; refine HWQ.out.mono ?_; rintro e w' ⟨rfl, rfl⟩)
      go_roundw
      case rel =>
        have e1 : ((first : Int) + (q : Int)) = ((first + q : Nat) : Int) := by omega
        have hl := HL.out
        have hm := HM.out
        obtain ⟨a', ha', hl'⟩ : ∃ a' : Nat, (first ≤ a' ∧ a' < first + n) ∧ min lv (s.wearOf ((first + q : Nat) : Int)) = s.wearOf a' := by
          rw [Int.min_def]; split
          · exact ⟨a, ha, hl⟩
          · exact ⟨first + q, ⟨by omega, by omega⟩, rfl⟩
        obtain ⟨b', hb', hm'⟩ : ∃ b' : Nat, (first ≤ b' ∧ b' < first + n) ∧ (max mv (s.wearOf ((first + q : Nat) : Int)) = s.wearOf b' ∨ max mv (s.wearOf ((first + q : Nat) : Int)) = 0) := by
          rw [Int.max_def]; split
          · exact ⟨first + q, ⟨by omega, by omega⟩, .inl rfl⟩
          · exact ⟨b, hb, hm⟩
        have hw64 : wrap64 (sumW s first q + s.wearOf ((first : Int) + (q : Int))) = sumW s first (q + 1) := by rw [e1]; exact IntWalk.wrap64_in _ ⟨by omega, by omega⟩
        exact ⟨_, _, a', b', q + 1, ha', hb', by omega, by go_num, congrArg _ hw64, rfl, rfl, hl', hm', by trivial⟩
      case measure => simp [intOf]; omega
    · obtain rfl : q = n := by omega
      have hya := hB a
      have hyb := hB b
      have hqi : ¬ ((first + q : Nat) : Int) < (first : Int) + q := by omega
      have hD : ∀ D : Int, 0 ≤ D → (∀ x y : Nat, (first ≤ x ∧ x < first + q) → (first ≤ y ∧ y < first + q) → s.wearOf x ≤ s.wearOf y + D) → mv - lv ≤ D := fun D h0 h => by
        have := h b a hb ha
        rcases hm with hm | hm <;> omega
      have HD := Lib.hid hD
      have hb1 : 0 ≤ lv ∧ lv ≤ 1000000 := by omega
      have hb2 : 0 ≤ mv ∧ mv ≤ 1000000 := by rcases hm with hm | hm <;> omega
      have hsub : IntKind.i64.wrap (mv - lv) = mv - lv := IntWalk.i64_in _ (by omega)
      clear hm hl hB hya hyb hD
      generalize hqq : first + q = qq at *
      go_wp2
      go_ret2
      exact ⟨_, rfl, fun D h0 h => HD.out D h0 (fun x y hx hy => h x y hx.1 hx.2 hy.1 hy.2), KV.out⟩

set_option maxRecDepth 100000 in
set_option maxHeartbeats 1000000 in
theorem use6_any {F B W M : Nat} {s : FS} (w : World) (hF : FlashAt w F B W M s) (hd : s.down = false) (first n : Nat) (hc : 3 ≤ n) (hfc : first + n ≤ s.wear.length) :
    Calls Tryz.prog 23 #[.pointer (some ⟨F, 0, none⟩), .agg #[.int .i64 first, .int .i64 n]] w fun e w' => e = .returned (.agg (hdrCells ((newestL (lookL s.bs first n)).getD ⟨0, 0, 0#32⟩)).toArray) ∧ Keeps [] w w' := by
  have hfew := hF.few
  have HL := Lib.hid (fun U (hU : Keeps [] w U) => Look_ok U (hF.keeps hU (by simp) (by simp) (by simp) (by simp)) hd first n hc hfc)
  obtain ⟨L, hL⟩ : ∃ L, L = lookL s.bs first n := ⟨_, rfl⟩
  rw [← hL] at HL ⊢
  have HLL := Lib.hid (show L.length = n by rw [hL, lookL_length])
  have HN := Lib.hid (fun U v (hU : HdrsAt U v L) => Newest_any U v L hU (by rw [HLL.out]; omega))
  clear hF hL
  generalize ((newestL L).getD ⟨0, 0, 0#32⟩) = hh at HN ⊢
  generalize (newestL L).isSome = b at HN
  unfold hdrCells at HN ⊢
  obtain ⟨hs, hk, hn⟩ := hh
  simp only at HN ⊢
  try unfold uv at HN ⊢
  generalize (hk.toNat : Int) = x1 at HN ⊢
  generalize (hn.toNat : Int) = x2 at HN ⊢
  go_enter Tryz.func23, Tryz.ntmps23
  go_upto_region 1 with (fail)
  generalize hV : World.alloc (World.alloc w _) _ = V
  have kV : Keeps [] w V := by rw [← hV]; exact (Keeps.alloc [] _ _).trans (Keeps.alloc [] _ _)
  have wV : Whole V w.heap.size 25 [.int .i64 first, .int .i64 n] := by
    rw [← hV]; exact (Whole.new w 25 [_, _]).keeps (Keeps.alloc [] _ _) (by simp)
  have wX : Whole V (w.heap.size + 1) 51 [.int .i64 0, .int .u8 0, .int .u32 0] := by rw [← hV]; exact Whole.new_at _ 51 [_, _, _] (w.heap.size + 1) (by simp)
  have WX := Lib.hid wX
  have v0 := (wV.cell 0).trans (show _ = some (Value.int .i64 (first : Int)) from rfl)
  have v1 := (wV.cell 1).trans (show _ = some (Value.int .i64 (n : Int)) from rfl)
  have KV := Lib.hid kV
  clear hV kV wV wX
  go_wp2_with (first
    | (go_at_call 35; refine (HL.out _ KV.out).mono ?_; rintro e w1 ⟨g, cp, rfl, hg, hhd, k1⟩; have K1 := Lib.hid (KV.out.trans k1); have X1 := Lib.hid (WX.out.keeps k1 (by simp)); have HD1 := Lib.hid hhd; clear k1 hhd)
    | (go_at_call 36; refine (HN.out _ _ HD1.out).mono ?_; rintro e w2 ⟨rfl, k2⟩; have K2 := Lib.hid (K1.out.trans k2); have X2 := (X1.out.keeps k2 (by simp)); have l2 := X2.lt; have d0 := (X2.cell 0).trans rfl; have d1 := (X2.cell 1).trans rfl; have d2 := (X2.cell 2).trans rfl; have f0 := X2.frozen 0; have f1 := X2.frozen 1; have f2 := X2.frozen 2; clear k2))
  have XE : Whole _ (w.heap.size + 1) 51 [.int .i64 hs, .int .u8 x1, .int .u32 x2] := (((X2.set 0 (.int .i64 hs)).set 1 (.int .u8 x1)).set 2 (.int .u32 x2)).keeps (Keeps.alloc [] _ (.cells #[.int .i64 hs, .int .u8 x1, .int .u32 x2] 51)) (by simp)
  have kE : Keeps [w.heap.size + 1] w2 _ := (((Keeps.setCell (S := [w.heap.size + 1]) w2 (p := ⟨w.heap.size + 1, 0, none⟩) (by simp) (.int .i64 hs)).trans (Keeps.setCell (S := [w.heap.size + 1]) _ (p := ⟨w.heap.size + 1, 1, none⟩) (by simp) (.int .u8 x1))).trans (Keeps.setCell (S := [w.heap.size + 1]) _ (p := ⟨w.heap.size + 1, 2, none⟩) (by simp) (.int .u32 x2))).trans (Keeps.alloc [w.heap.size + 1] _ (.cells #[.int .i64 hs, .int .u8 x1, .int .u32 x2] 51))
  refine bodyPost_ret (results_cell_row Tryz.results23 _ _ (w.heap.size + 1) 51 #[.int .i64 hs, .int .u8 x1, .int .u32 x2] (0, 0) _ rfl XE Tryz.underlying51 rfl (by rw [szHeader]; rfl)) rfl ⟨rfl, ?_⟩
  exact K2.out.then kE (fun x hx => .inr (by simp at hx; omega))

theorem getK_cons {α : Type} (k : List UInt8) (e : List UInt8 × α) (r : List (List UInt8 × α)) : getK k (e :: r) = if e.1 = k then some e.2 else getK k r := by
  unfold getK
  by_cases h : e.1 = k <;> simp [h]

theorem getK_drop {es : List Ent} {i : Nat} {e : Ent} (k : List UInt8) (he : es[i]? = some e) : getK k (es.drop i) = if e.1 = k then some e.2 else getK k (es.drop (i + 1)) := by
  rw [List.drop_eq_getElem?_toList_append, he]
  exact getK_cons k e _

set_option maxRecDepth 100000 in
set_option maxHeartbeats 1000000 in
theorem value6_any (w : World) (v kv : Value) (es : List Ent) (ky : List UInt8) (Mk : Nat) (h : EntsAt 0 w v es) (hn : es.length ≤ 100000) (hk : Reads w kv ky Mk) :
    Calls Tryz.prog 31 #[v, kv] w fun e w' => e = .returned (.tuple #[.string ⟨((getK ky es).getD []).toArray⟩, .bool (getK ky es).isSome]) ∧ Keeps [] w w' := by
  obtain ⟨ao, cap, rfl, hcap⟩ := h.shape
  have HE := Lib.hid h
  have HK := Lib.hid hk
  obtain ⟨n, hN⟩ : ∃ n, n = es.length := ⟨_, rfl⟩
  have HNL := Lib.hid hN
  rw [← hN] at hcap hn HE ⊢
  clear h hk hN
  go_enter Tryz.func31, Tryz.ntmps31
  go_wp2
  go_loopw [7, 10] (fun _ ix wr => ∃ j : Nat, j ≤ n ∧ ix = .int .i64 j ∧ getK ky es = getK ky (es.drop j) ∧ Hid (Keeps [] w wr)) (fun _ ix _ => n - (intOf ix).toNat)
  case atStart => exact ⟨0, by omega, rfl, rfl, Lib.hid (Keeps.refl _ _)⟩
  case round =>
    obtain ⟨j, hj, rfl, hg, HKW⟩ := hrel
    by_cases hlt : j < n
    · have hji : (j : Int) < (n : Int) := by omega
      obtain ⟨e, he⟩ : ∃ e, es[j]? = some e := ⟨es[j]'(by have := HNL.out; omega), List.getElem?_eq_getElem _⟩
      obtain ⟨g, k1, v1, rfl, _, hgl, c0, c1, b0, b1⟩ := (HE.out.keeps HKW.out (by simp)).at j e he
      have hstep := getK_drop ky he
      obtain ⟨ek, ev⟩ := e
      simp only at b0 b1 hstep
      obtain ⟨ka, kc, rfl, _⟩ := b0.shape
      obtain ⟨va, vc, rfl, _⟩ := b1.shape
      have kA : Keeps [] wr (wr.alloc (.cells #[.slice ka ek.length kc, .slice va ev.length vc] 60)) := Keeps.alloc [] _ _
      obtain ⟨M0, r0, _⟩ := b0.keeps kA (by simp)
      obtain ⟨M1, r1, _⟩ := b1.keeps kA (by simp)
      have hcv := conv_reads r1
      have HIS := Lib.hid (Is_any _ _ kv ek ky M0 Mk r0 (HK.out.keepsIf (HKW.out.trans kA) (by simp)))
      have HST := Lib.hid hstep
      have HG := Lib.hid hg
      clear b0 b1 r0 r1 hg hstep he
      by_cases hek : ek = ky
      · have hb : (ek == ky) = true := by simp [hek]
        rw [hb] at HIS
        have HEK := Lib.hid hek
        clear hb hek
        go_wp2_with (go_at_call 14; refine HIS.out.mono ?_; rintro e w' ⟨rfl, rfl⟩)
        go_ret2
        refine ⟨?_, HKW.out.trans kA⟩
        rw [HG.out, HST.out, if_pos HEK.out]
        rfl
      · have hb : (ek == ky) = false := by simp [hek]
        rw [hb] at HIS
        have HEK := Lib.hid hek
        clear hb hek
        go_wp2_with (go_at_call 14; refine HIS.out.mono ?_; rintro e w' ⟨rfl, rfl⟩)
        go_roundw
        case rel => exact ⟨j + 1, by omega, by go_num, by rw [HG.out, HST.out, if_neg HEK.out], Lib.hid (HKW.out.trans kA)⟩
        case measure => simp [intOf]; omega
    · obtain rfl : j = n := by omega
      rw [List.drop_of_length_le (by have := HNL.out; omega)] at hg
      have HG := Lib.hid hg
      clear hg
      go_wp2
      go_ret2
      refine ⟨?_, HKW.out⟩
      rw [HG.out]; rfl

end Go.Proofs.YtcmjecnbmdhjlaaGreat
