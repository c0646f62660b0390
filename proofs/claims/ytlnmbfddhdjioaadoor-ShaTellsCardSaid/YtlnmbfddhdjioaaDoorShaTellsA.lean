/-
  ShaTells, walked.
-/
import Derived.Test.YtlnmbfddhdjioaaDoorShaLongI
import Derived.Test.YtlnmbfddhdjioaaDoorShaU
import Derived.Test.YtlnmbfddhdjioaaDoorShaT
namespace Go.Proofs.YtlnmbfddhdjioaaDoor
open Go.RowKit

theorem store_new {P : Program} (W : World) (g : Nat) (T : TypeId) (old : Array Value) (l : List UInt8) (hg : W.heap[g]? = some (.cells old T (0, 0))) (ho : l.length = old.size) :
    (storeCells ⟨g, 0, none⟩ (l.map bv)).run P W = .ok () (W.setRow g (l.map bv).toArray) := by
  have := run_storeCells_from (P := P) g T (l.map bv) 0 old W hg (by simp [ho]) (fun v hv => (Array.all_eq_true_iff_forall_mem.1 (bytes_one l)) v (by simpa using hv))
  simpa using this

theorem step_store_all {P : Program} {ops : Array Oper} {o : Oper} {a : Act} {w : World} {K : Act → World → Prop} {Q : Exit → Act → World → Prop} {E : Prop} (hgd : o.guard = none) (ty : TypeId) (x y : Operand) (ho : o.op = .store ty x y)
    (b : Nat) (old vs : List Value) (hx : a.eval x = .pointer (some ⟨b, 0, none⟩)) (hy : a.eval y = .agg vs.toArray) {T : TypeId} (hw : Whole w b T old) (hl : vs.length = old.length) (hi : (P.info? ty).map (·.size) = some vs.toArray.size) (h1 : vs.toArray.all (·.oneCell') = true)
    (h : ∀ w', Whole w' b T vs → Keeps [b] w w' → K (a.put o.dst undef) w') : if Region.wanted o (yielded ops a.tmps) = true then Oper.wp P o a w K Q else E := by
  refine step_store_mid hgd ty x y ho b 0 vs.toArray hx hy (hw.there 0 _ (by simp [hl])) hi h1 (h _ ?_ (Keeps.setCells (S := [b]) w (List.mem_singleton.2 rfl) 0 _))
  have := Whole.setCells (pre := []) (post := []) vs (by simpa using hw) 0 rfl hl
  simpa using this

/- genshat -/
set_option linter.unusedSimpArgs false
set_option linter.unusedVariables false
set_option maxRecDepth 100000 in
set_option maxHeartbeats 1000000 in
theorem ShaTells_big (w : World) (p : Option Addr) (n c : Nat) (cut : Int) (hR : Roots w) (h : 400 < n) (hm : n ≤ maxLen) :
    Calls Tryd.prog 3 #[.slice p n c, .int .u16 cut] w fun e w' => e = .returned (.bool true) ∧ Keeps [] w w' := by
  unfold maxLen at hm
  have HR := Lib.hid hR
  have h' : (400 : Int) < n := by omega
  clear hR
  go_enter Tryd.func3, Tryd.ntmps3
  go_wp2_with (go_at_call 4; refine (awake3_any _ HR.out).mono ?_; rintro e w1 ⟨rfl, k1⟩; have K1 := Lib.hid k1; clear k1)
  go_ret
  exact ⟨rfl, K1.out⟩

set_option maxRecDepth 100000 in
set_option maxHeartbeats 1000000 in
theorem ShaTells_small (w : World) (p : Option Addr) (c : Nat) (l : List UInt8) (M : Nat) (cut : Int) (hrd : Reads w (.slice p l.length c) l M) (hM : M < w.heap.size) (hR : Roots w) (hn : l.length ≤ 400) (hc0 : 0 ≤ cut) (hc1 : cut ≤ 65535) :
    Calls Tryd.prog 3 #[.slice p l.length c, .int .u16 cut] w fun e w' => e = .returned (.bool true) ∧ Keeps [] w w' := by
  have HB := Lib.hid hrd
  have HR := Lib.hid hR
  have hlt := hR.lt
  have n1 : ¬ (400 : Int) < l.length := by omega
  have hgd := run_guard
  obtain ⟨k, hk⟩ : ∃ k : Nat, cut % ((l.length : Int) + 1) = (k : Int) := ⟨(cut % ((l.length : Int) + 1)).toNat, by have := Int.emod_nonneg cut (show (l.length : Int) + 1 ≠ 0 by omega); omega⟩
  have hkl : k ≤ l.length := by have := Int.emod_lt_of_pos cut (show (0 : Int) < (l.length : Int) + 1 by omega); omega
  have HK := Lib.hid hk
  obtain ⟨pb, cb, hcutb, hrdb⟩ := hrd.head k hkl
  have HBK := Lib.hid hrdb
  have htl : (l.take k).length = k := by simp; omega
  have hdl : (l.drop k).length = l.length - k := by simp
  clear hrd hR hk hrdb
  go_enter Tryd.func3, Tryd.ntmps3
  go_wp2_with fail
  refine (Fresh_any _ _ l M HB.out (by omega)).mono ?_
  rintro e w1 ⟨f, cf, rfl, hf, hrow, k1⟩
  have K1 := Lib.hid k1
  have R1 := Lib.hid (HR.out.keeps k1 (by simp) (by simp))
  have B1 := Lib.hid (HB.out.keeps k1 (by simp))
  have C1 := Lib.hid (HBK.out.keeps k1 (by simp))
  have F1 := Lib.hid hrow
  have lf := hrow.lt
  have z1 := k1.size
  clear k1 hrow
  go_wp2_with fail
  refine (Among_pos _ _ _ (by omega) (by omega) (by omega) (by omega)).mono ?_
  rintro e w' ⟨rfl, rfl⟩
  rw [HK.out]
  obtain ⟨s1, hs1⟩ : ∃ s1, sumOf kk h0 l = s1 := ⟨_, rfl⟩
  obtain ⟨l2, hl2⟩ : ∃ l2, l.take k = l2 := ⟨_, rfl⟩
  obtain ⟨s2, hs2⟩ : ∃ s2, sumOf kk h0 l2 = s2 := ⟨_, rfl⟩
  have hls1 : s1.length = 32 := by rw [← hs1]; exact sumOf_length _ _ _
  have hls2 : s2.length = 32 := by rw [← hs2]; exact sumOf_length _ _ _
  rw [hl2] at C1 HBK hcutb htl
  rw [htl] at C1 hcutb
  have HO1 := Lib.hid (fun U (hU : Keeps [] w1 U) => R3Of_any U _ l M (B1.out.keeps hU (by simp)) (by omega))
  have HO2 := Lib.hid (fun U (hU : Keeps [] w1 U) => R3Of_any U _ l2 M (C1.out.keeps hU (by simp)) (by omega))
  rw [hs1] at HO1
  rw [hs2] at HO2
  have HS1 := Lib.hid hs1
  have HS2 := Lib.hid hs2
  have HL2 := Lib.hid hl2
  clear hs1 hs2 hl2
  go_upto_region 5 with (fail)
  go_cut [7, 8] from 22 (fun v7 v8 wc => ∃ x y : Nat, v7 = .pointer (some ⟨x, 0, none⟩) ∧ v8 = .pointer (some ⟨y, 0, none⟩) ∧ w1.heap.size ≤ x ∧ w1.heap.size ≤ y ∧ x ≠ y ∧ Hid (Whole wc x 27 (s1.map bv)) ∧ Hid (Whole wc y 27 (s2.map bv)) ∧ Hid (Keeps [] w1 wc))
  case first =>
    have KW := Lib.hid (Keeps.drew [] w1)
    refine wp_region_any (by kernel_rfl) ?_
    change wpAny _ _ _ _ _ _ _ (World.drew _)
    generalize w1.drew = w10 at *
    refine wpAny_take (i := 0) (v := ?_) rfl (by kernel_rfl) (by kernel_rfl) (by kernel_rfl) (fun _ _ _ h => h) (Or.inl ⟨by rfl, by intro w; go_simp; with_reducible rfl⟩) ?_
    refine wpAny_take (i := 2) (v := ?_) rfl (by kernel_rfl) (by kernel_rfl) (by kernel_rfl) (fun _ _ _ h => h) (Or.inl ⟨by rfl, by intro w; go_simp; with_reducible rfl⟩) ?_
    refine wpAny_take (i := 3) (v := ?_) rfl (by kernel_rfl) (by kernel_rfl) (by kernel_rfl) (fun _ _ _ h => h) (Or.inl ⟨by rfl, by intro w; go_simp; with_reducible rfl⟩) ?_
    refine wpAny_take (i := 4) (v := ?_) rfl (by kernel_rfl) (by kernel_rfl) (by kernel_rfl) (fun _ _ _ h => h) (Or.inl ⟨by rfl, by intro w; go_simp; with_reducible rfl⟩) ?_
    try simp only [Act.put, List.getElem_toArray, List.getElem_cons_succ, List.getElem_cons_zero, List.setIfInBounds_toArray, List.set_cons_succ, List.set_cons_zero]
    refine wpAny_ready (rs := [1, 6, 7]) (by kernel_rfl) (by simp) (AllReady.cons (o := { dst := some 23, op := Op.call { callee := Callee.value (Operand.func 7), args := #[Operand.tmp 22], argTypes := #[22] }, type := 27, pos := "law.go:32", after := #[{ on := 0, ground := Ground.data }], guard := none }) rfl (fun K hK => ?_) (AllReady.cons (o := { dst := some 7, op := Op.alloc 27, type := 0, pos := "law.go:32", after := #[], guard := none }) rfl (fun K hK => ?_) (AllReady.cons (o := { dst := some 8, op := Op.alloc 27, type := 0, pos := "law.go:32", after := #[], guard := none }) rfl (fun K hK => ?_) AllReady.nil)))
    · go_simp
      refine (HO1.out _ KW.out).mono ?_
      rintro e w11 ⟨rfl, kA⟩
      replace KW := Lib.hid (KW.out.trans kA)
      clear kA
      refine hK _ _ ?_
      clear hK K
      try simp only [Act.put, List.getElem_toArray, List.getElem_cons_succ, List.getElem_cons_zero, List.setIfInBounds_toArray, List.set_cons_succ, List.set_cons_zero]
      refine wpAny_ready (rs := [5, 6, 7]) (by kernel_rfl) (by simp) (AllReady.cons (o := { dst := some 27, op := Op.call { callee := Callee.value (Operand.func 7), args := #[Operand.tmp 26], argTypes := #[22] }, type := 27, pos := "law.go:32", after := #[{ on := 4, ground := Ground.data }, { on := 1, ground := Ground.chain }], guard := none }) rfl (fun K hK => ?_) (AllReady.cons (o := { dst := some 7, op := Op.alloc 27, type := 0, pos := "law.go:32", after := #[], guard := none }) rfl (fun K hK => ?_) (AllReady.cons (o := { dst := some 8, op := Op.alloc 27, type := 0, pos := "law.go:32", after := #[], guard := none }) rfl (fun K hK => ?_) AllReady.nil)))
      · go_simp
        refine (HO2.out _ KW.out).mono ?_
        rintro e w12 ⟨rfl, kA⟩
        replace KW := Lib.hid (KW.out.trans kA)
        clear kA
        refine hK _ _ ?_
        clear hK K
        try simp only [Act.put, List.getElem_toArray, List.getElem_cons_succ, List.getElem_cons_zero, List.setIfInBounds_toArray, List.set_cons_succ, List.set_cons_zero]
        refine wpAny_ready (rs := [6, 7]) (by kernel_rfl) (by simp) (AllReady.cons (o := { dst := some 7, op := Op.alloc 27, type := 0, pos := "law.go:32", after := #[], guard := none }) rfl (fun K hK => ?_) (AllReady.cons (o := { dst := some 8, op := Op.alloc 27, type := 0, pos := "law.go:32", after := #[], guard := none }) rfl (fun K hK => ?_) AllReady.nil))
        · go_simp
          refine hK _ _ ?_
          clear hK K
          have kA := Keeps.alloc [] w12 (.cells ((List.replicate 32 (0 : UInt8)).map bv).toArray 27)
          have zA := Whole.new w12 27 ((List.replicate 32 (0 : UInt8)).map bv)
          have hx7 := KW.out.size
          replace KW := Lib.hid (KW.out.trans kA)
          have Z7 := Lib.hid zA
          clear kA zA
          change wpAny _ _ _ _ _ _ _ (w12.alloc (.cells ((List.replicate 32 (0 : UInt8)).map bv).toArray 27))
          generalize w12.alloc (.cells ((List.replicate 32 (0 : UInt8)).map bv).toArray 27) = w13 at *
          generalize w12.heap.size = x7 at *
          try simp only [Act.put, List.getElem_toArray, List.getElem_cons_succ, List.getElem_cons_zero, List.setIfInBounds_toArray, List.set_cons_succ, List.set_cons_zero]
          refine wpAny_ready (rs := [7]) (by kernel_rfl) (by simp) (AllReady.cons (o := { dst := some 8, op := Op.alloc 27, type := 0, pos := "law.go:32", after := #[], guard := none }) rfl (fun K hK => ?_) AllReady.nil)
          go_simp
          refine hK _ _ ?_
          clear hK K
          have kA := Keeps.alloc [] w13 (.cells ((List.replicate 32 (0 : UInt8)).map bv).toArray 27)
          have zA := Whole.new w13 27 ((List.replicate 32 (0 : UInt8)).map bv)
          have hx8 := KW.out.size
          have hxx := Z7.out.lt
          replace Z7 := Lib.hid (Z7.out.keeps kA (by simp))
          replace KW := Lib.hid (KW.out.trans kA)
          have Z8 := Lib.hid zA
          clear kA zA
          change wpAny _ _ _ _ _ _ _ (w13.alloc (.cells ((List.replicate 32 (0 : UInt8)).map bv).toArray 27))
          generalize w13.alloc (.cells ((List.replicate 32 (0 : UInt8)).map bv).toArray 27) = w14 at *
          generalize w13.heap.size = x8 at *
          have hxx : x7 ≠ x8 := by omega
          try simp only [Act.put, List.getElem_toArray, List.getElem_cons_succ, List.getElem_cons_zero, List.setIfInBounds_toArray, List.set_cons_succ, List.set_cons_zero]
          refine wpAny_ready (rs := [8]) (by kernel_rfl) (by simp) (AllReady.cons (o := { dst := none, op := Op.store 27 (Operand.tmp 7) (Operand.tmp 23), type := 0, pos := "law.go:32", after := #[{ on := 6, ground := Ground.data }, { on := 1, ground := Ground.data }, { on := 5, ground := Ground.chain }, { on := 0, ground := Ground.phase }, { on := 1, ground := Ground.phase }, { on := 2, ground := Ground.textOnly Departure.lateStores }, { on := 3, ground := Ground.textOnly Departure.lateStores }, { on := 4, ground := Ground.textOnly Departure.lateStoresUnsure }, { on := 5, ground := Ground.textOnly Departure.lateStoresUnsure }, { on := 6, ground := Ground.phase }, { on := 7, ground := Ground.phase }], guard := none }) rfl (fun K hK => ?_) AllReady.nil)
          refine step_store_all rfl 27 (.tmp 7) (.tmp 23) rfl x7 _ (s1.map bv) rfl rfl Z7.out (by simp [hls1]) (by rw [szBytes32]; simp [hls1]) (bytes_one s1) ?_
          intro w15 zA kA
          have Z8 := Lib.hid (Z8.out.keeps kA (by simp; omega))
          have Z7 := Lib.hid zA
          have KW := Lib.hid (KW.out.then kA (fun q hq => .inr (by simp at hq; omega)))
          clear kA zA
          refine hK _ _ ?_
          clear hK K
          try simp only [Act.put, List.getElem_toArray, List.getElem_cons_succ, List.getElem_cons_zero, List.setIfInBounds_toArray, List.set_cons_succ, List.set_cons_zero]
          refine wpAny_ready (rs := [9]) (by kernel_rfl) (by simp) (AllReady.cons (o := { dst := none, op := Op.store 27 (Operand.tmp 8) (Operand.tmp 27), type := 0, pos := "law.go:32", after := #[{ on := 7, ground := Ground.data }, { on := 5, ground := Ground.data }, { on := 8, ground := Ground.chain }, { on := 0, ground := Ground.phase }, { on := 1, ground := Ground.phase }, { on := 2, ground := Ground.phase }, { on := 3, ground := Ground.phase }, { on := 4, ground := Ground.phase }, { on := 5, ground := Ground.phase }, { on := 6, ground := Ground.phase }, { on := 7, ground := Ground.phase }, { on := 8, ground := Ground.phase }], guard := none }) rfl (fun K hK => ?_) AllReady.nil)
          refine step_store_all rfl 27 (.tmp 8) (.tmp 27) rfl x8 _ (s2.map bv) rfl rfl Z8.out (by simp [hls2]) (by rw [szBytes32]; simp [hls2]) (bytes_one s2) ?_
          intro w16 zA kA
          have Z7 := Lib.hid (Z7.out.keeps kA (by simp; omega))
          have Z8 := Lib.hid zA
          have KW := Lib.hid (KW.out.then kA (fun q hq => .inr (by simp at hq; omega)))
          clear kA zA
          refine hK _ _ ?_
          clear hK K
          try simp only [Act.put, List.getElem_toArray, List.getElem_cons_succ, List.getElem_cons_zero, List.setIfInBounds_toArray, List.set_cons_succ, List.set_cons_zero]
          refine wpAny_done (by kernel_rfl) ?_ _
          go_wp2_with fail
          go_meet
          exact ⟨x7, x8, rfl, rfl, hx7, hx8, hxx, Z7, Z8, KW⟩
        · go_simp
          refine hK _ _ ?_
          clear hK K
          have kA := Keeps.alloc [] w12 (.cells ((List.replicate 32 (0 : UInt8)).map bv).toArray 27)
          have zA := Whole.new w12 27 ((List.replicate 32 (0 : UInt8)).map bv)
          have hx8 := KW.out.size
          replace KW := Lib.hid (KW.out.trans kA)
          have Z8 := Lib.hid zA
          clear kA zA
          change wpAny _ _ _ _ _ _ _ (w12.alloc (.cells ((List.replicate 32 (0 : UInt8)).map bv).toArray 27))
          generalize w12.alloc (.cells ((List.replicate 32 (0 : UInt8)).map bv).toArray 27) = w13 at *
          generalize w12.heap.size = x8 at *
          try simp only [Act.put, List.getElem_toArray, List.getElem_cons_succ, List.getElem_cons_zero, List.setIfInBounds_toArray, List.set_cons_succ, List.set_cons_zero]
          refine wpAny_ready (rs := [6]) (by kernel_rfl) (by simp) (AllReady.cons (o := { dst := some 7, op := Op.alloc 27, type := 0, pos := "law.go:32", after := #[], guard := none }) rfl (fun K hK => ?_) AllReady.nil)
          go_simp
          refine hK _ _ ?_
          clear hK K
          have kA := Keeps.alloc [] w13 (.cells ((List.replicate 32 (0 : UInt8)).map bv).toArray 27)
          have zA := Whole.new w13 27 ((List.replicate 32 (0 : UInt8)).map bv)
          have hx7 := KW.out.size
          have hxx := Z8.out.lt
          replace Z8 := Lib.hid (Z8.out.keeps kA (by simp))
          replace KW := Lib.hid (KW.out.trans kA)
          have Z7 := Lib.hid zA
          clear kA zA
          change wpAny _ _ _ _ _ _ _ (w13.alloc (.cells ((List.replicate 32 (0 : UInt8)).map bv).toArray 27))
          generalize w13.alloc (.cells ((List.replicate 32 (0 : UInt8)).map bv).toArray 27) = w14 at *
          generalize w13.heap.size = x7 at *
          have hxx : x7 ≠ x8 := by omega
          try simp only [Act.put, List.getElem_toArray, List.getElem_cons_succ, List.getElem_cons_zero, List.setIfInBounds_toArray, List.set_cons_succ, List.set_cons_zero]
          refine wpAny_ready (rs := [8]) (by kernel_rfl) (by simp) (AllReady.cons (o := { dst := none, op := Op.store 27 (Operand.tmp 7) (Operand.tmp 23), type := 0, pos := "law.go:32", after := #[{ on := 6, ground := Ground.data }, { on := 1, ground := Ground.data }, { on := 5, ground := Ground.chain }, { on := 0, ground := Ground.phase }, { on := 1, ground := Ground.phase }, { on := 2, ground := Ground.textOnly Departure.lateStores }, { on := 3, ground := Ground.textOnly Departure.lateStores }, { on := 4, ground := Ground.textOnly Departure.lateStoresUnsure }, { on := 5, ground := Ground.textOnly Departure.lateStoresUnsure }, { on := 6, ground := Ground.phase }, { on := 7, ground := Ground.phase }], guard := none }) rfl (fun K hK => ?_) AllReady.nil)
          refine step_store_all rfl 27 (.tmp 7) (.tmp 23) rfl x7 _ (s1.map bv) rfl rfl Z7.out (by simp [hls1]) (by rw [szBytes32]; simp [hls1]) (bytes_one s1) ?_
          intro w15 zA kA
          have Z8 := Lib.hid (Z8.out.keeps kA (by simp; omega))
          have Z7 := Lib.hid zA
          have KW := Lib.hid (KW.out.then kA (fun q hq => .inr (by simp at hq; omega)))
          clear kA zA
          refine hK _ _ ?_
          clear hK K
          try simp only [Act.put, List.getElem_toArray, List.getElem_cons_succ, List.getElem_cons_zero, List.setIfInBounds_toArray, List.set_cons_succ, List.set_cons_zero]
          refine wpAny_ready (rs := [9]) (by kernel_rfl) (by simp) (AllReady.cons (o := { dst := none, op := Op.store 27 (Operand.tmp 8) (Operand.tmp 27), type := 0, pos := "law.go:32", after := #[{ on := 7, ground := Ground.data }, { on := 5, ground := Ground.data }, { on := 8, ground := Ground.chain }, { on := 0, ground := Ground.phase }, { on := 1, ground := Ground.phase }, { on := 2, ground := Ground.phase }, { on := 3, ground := Ground.phase }, { on := 4, ground := Ground.phase }, { on := 5, ground := Ground.phase }, { on := 6, ground := Ground.phase }, { on := 7, ground := Ground.phase }, { on := 8, ground := Ground.phase }], guard := none }) rfl (fun K hK => ?_) AllReady.nil)
          refine step_store_all rfl 27 (.tmp 8) (.tmp 27) rfl x8 _ (s2.map bv) rfl rfl Z8.out (by simp [hls2]) (by rw [szBytes32]; simp [hls2]) (bytes_one s2) ?_
          intro w16 zA kA
          have Z7 := Lib.hid (Z7.out.keeps kA (by simp; omega))
          have Z8 := Lib.hid zA
          have KW := Lib.hid (KW.out.then kA (fun q hq => .inr (by simp at hq; omega)))
          clear kA zA
          refine hK _ _ ?_
          clear hK K
          try simp only [Act.put, List.getElem_toArray, List.getElem_cons_succ, List.getElem_cons_zero, List.setIfInBounds_toArray, List.set_cons_succ, List.set_cons_zero]
          refine wpAny_done (by kernel_rfl) ?_ _
          go_wp2_with fail
          go_meet
          exact ⟨x7, x8, rfl, rfl, hx7, hx8, hxx, Z7, Z8, KW⟩
      · go_simp
        refine hK _ _ ?_
        clear hK K
        have kA := Keeps.alloc [] w11 (.cells ((List.replicate 32 (0 : UInt8)).map bv).toArray 27)
        have zA := Whole.new w11 27 ((List.replicate 32 (0 : UInt8)).map bv)
        have hx7 := KW.out.size
        replace KW := Lib.hid (KW.out.trans kA)
        have Z7 := Lib.hid zA
        clear kA zA
        change wpAny _ _ _ _ _ _ _ (w11.alloc (.cells ((List.replicate 32 (0 : UInt8)).map bv).toArray 27))
        generalize w11.alloc (.cells ((List.replicate 32 (0 : UInt8)).map bv).toArray 27) = w12 at *
        generalize w11.heap.size = x7 at *
        try simp only [Act.put, List.getElem_toArray, List.getElem_cons_succ, List.getElem_cons_zero, List.setIfInBounds_toArray, List.set_cons_succ, List.set_cons_zero]
        refine wpAny_ready (rs := [5, 7]) (by kernel_rfl) (by simp) (AllReady.cons (o := { dst := some 27, op := Op.call { callee := Callee.value (Operand.func 7), args := #[Operand.tmp 26], argTypes := #[22] }, type := 27, pos := "law.go:32", after := #[{ on := 4, ground := Ground.data }, { on := 1, ground := Ground.chain }], guard := none }) rfl (fun K hK => ?_) (AllReady.cons (o := { dst := some 8, op := Op.alloc 27, type := 0, pos := "law.go:32", after := #[], guard := none }) rfl (fun K hK => ?_) AllReady.nil))
        · go_simp
          refine (HO2.out _ KW.out).mono ?_
          rintro e w13 ⟨rfl, kA⟩
          replace Z7 := Lib.hid (Z7.out.keeps kA (by simp))
          replace KW := Lib.hid (KW.out.trans kA)
          clear kA
          refine hK _ _ ?_
          clear hK K
          try simp only [Act.put, List.getElem_toArray, List.getElem_cons_succ, List.getElem_cons_zero, List.setIfInBounds_toArray, List.set_cons_succ, List.set_cons_zero]
          refine wpAny_ready (rs := [7]) (by kernel_rfl) (by simp) (AllReady.cons (o := { dst := some 8, op := Op.alloc 27, type := 0, pos := "law.go:32", after := #[], guard := none }) rfl (fun K hK => ?_) AllReady.nil)
          go_simp
          refine hK _ _ ?_
          clear hK K
          have kA := Keeps.alloc [] w13 (.cells ((List.replicate 32 (0 : UInt8)).map bv).toArray 27)
          have zA := Whole.new w13 27 ((List.replicate 32 (0 : UInt8)).map bv)
          have hx8 := KW.out.size
          have hxx := Z7.out.lt
          replace Z7 := Lib.hid (Z7.out.keeps kA (by simp))
          replace KW := Lib.hid (KW.out.trans kA)
          have Z8 := Lib.hid zA
          clear kA zA
          change wpAny _ _ _ _ _ _ _ (w13.alloc (.cells ((List.replicate 32 (0 : UInt8)).map bv).toArray 27))
          generalize w13.alloc (.cells ((List.replicate 32 (0 : UInt8)).map bv).toArray 27) = w14 at *
          generalize w13.heap.size = x8 at *
          have hxx : x7 ≠ x8 := by omega
          try simp only [Act.put, List.getElem_toArray, List.getElem_cons_succ, List.getElem_cons_zero, List.setIfInBounds_toArray, List.set_cons_succ, List.set_cons_zero]
          refine wpAny_ready (rs := [8]) (by kernel_rfl) (by simp) (AllReady.cons (o := { dst := none, op := Op.store 27 (Operand.tmp 7) (Operand.tmp 23), type := 0, pos := "law.go:32", after := #[{ on := 6, ground := Ground.data }, { on := 1, ground := Ground.data }, { on := 5, ground := Ground.chain }, { on := 0, ground := Ground.phase }, { on := 1, ground := Ground.phase }, { on := 2, ground := Ground.textOnly Departure.lateStores }, { on := 3, ground := Ground.textOnly Departure.lateStores }, { on := 4, ground := Ground.textOnly Departure.lateStoresUnsure }, { on := 5, ground := Ground.textOnly Departure.lateStoresUnsure }, { on := 6, ground := Ground.phase }, { on := 7, ground := Ground.phase }], guard := none }) rfl (fun K hK => ?_) AllReady.nil)
          refine step_store_all rfl 27 (.tmp 7) (.tmp 23) rfl x7 _ (s1.map bv) rfl rfl Z7.out (by simp [hls1]) (by rw [szBytes32]; simp [hls1]) (bytes_one s1) ?_
          intro w15 zA kA
          have Z8 := Lib.hid (Z8.out.keeps kA (by simp; omega))
          have Z7 := Lib.hid zA
          have KW := Lib.hid (KW.out.then kA (fun q hq => .inr (by simp at hq; omega)))
          clear kA zA
          refine hK _ _ ?_
          clear hK K
          try simp only [Act.put, List.getElem_toArray, List.getElem_cons_succ, List.getElem_cons_zero, List.setIfInBounds_toArray, List.set_cons_succ, List.set_cons_zero]
          refine wpAny_ready (rs := [9]) (by kernel_rfl) (by simp) (AllReady.cons (o := { dst := none, op := Op.store 27 (Operand.tmp 8) (Operand.tmp 27), type := 0, pos := "law.go:32", after := #[{ on := 7, ground := Ground.data }, { on := 5, ground := Ground.data }, { on := 8, ground := Ground.chain }, { on := 0, ground := Ground.phase }, { on := 1, ground := Ground.phase }, { on := 2, ground := Ground.phase }, { on := 3, ground := Ground.phase }, { on := 4, ground := Ground.phase }, { on := 5, ground := Ground.phase }, { on := 6, ground := Ground.phase }, { on := 7, ground := Ground.phase }, { on := 8, ground := Ground.phase }], guard := none }) rfl (fun K hK => ?_) AllReady.nil)
          refine step_store_all rfl 27 (.tmp 8) (.tmp 27) rfl x8 _ (s2.map bv) rfl rfl Z8.out (by simp [hls2]) (by rw [szBytes32]; simp [hls2]) (bytes_one s2) ?_
          intro w16 zA kA
          have Z7 := Lib.hid (Z7.out.keeps kA (by simp; omega))
          have Z8 := Lib.hid zA
          have KW := Lib.hid (KW.out.then kA (fun q hq => .inr (by simp at hq; omega)))
          clear kA zA
          refine hK _ _ ?_
          clear hK K
          try simp only [Act.put, List.getElem_toArray, List.getElem_cons_succ, List.getElem_cons_zero, List.setIfInBounds_toArray, List.set_cons_succ, List.set_cons_zero]
          refine wpAny_done (by kernel_rfl) ?_ _
          go_wp2_with fail
          go_meet
          exact ⟨x7, x8, rfl, rfl, hx7, hx8, hxx, Z7, Z8, KW⟩
        · go_simp
          refine hK _ _ ?_
          clear hK K
          have kA := Keeps.alloc [] w12 (.cells ((List.replicate 32 (0 : UInt8)).map bv).toArray 27)
          have zA := Whole.new w12 27 ((List.replicate 32 (0 : UInt8)).map bv)
          have hx8 := KW.out.size
          have hxx := Z7.out.lt
          replace Z7 := Lib.hid (Z7.out.keeps kA (by simp))
          replace KW := Lib.hid (KW.out.trans kA)
          have Z8 := Lib.hid zA
          clear kA zA
          change wpAny _ _ _ _ _ _ _ (w12.alloc (.cells ((List.replicate 32 (0 : UInt8)).map bv).toArray 27))
          generalize w12.alloc (.cells ((List.replicate 32 (0 : UInt8)).map bv).toArray 27) = w13 at *
          generalize w12.heap.size = x8 at *
          have hxx : x7 ≠ x8 := by omega
          try simp only [Act.put, List.getElem_toArray, List.getElem_cons_succ, List.getElem_cons_zero, List.setIfInBounds_toArray, List.set_cons_succ, List.set_cons_zero]
          refine wpAny_ready (rs := [5]) (by kernel_rfl) (by simp) (AllReady.cons (o := { dst := some 27, op := Op.call { callee := Callee.value (Operand.func 7), args := #[Operand.tmp 26], argTypes := #[22] }, type := 27, pos := "law.go:32", after := #[{ on := 4, ground := Ground.data }, { on := 1, ground := Ground.chain }], guard := none }) rfl (fun K hK => ?_) AllReady.nil)
          go_simp
          refine (HO2.out _ KW.out).mono ?_
          rintro e w14 ⟨rfl, kA⟩
          replace Z7 := Lib.hid (Z7.out.keeps kA (by simp))
          replace Z8 := Lib.hid (Z8.out.keeps kA (by simp))
          replace KW := Lib.hid (KW.out.trans kA)
          clear kA
          refine hK _ _ ?_
          clear hK K
          try simp only [Act.put, List.getElem_toArray, List.getElem_cons_succ, List.getElem_cons_zero, List.setIfInBounds_toArray, List.set_cons_succ, List.set_cons_zero]
          refine wpAny_ready (rs := [8]) (by kernel_rfl) (by simp) (AllReady.cons (o := { dst := none, op := Op.store 27 (Operand.tmp 7) (Operand.tmp 23), type := 0, pos := "law.go:32", after := #[{ on := 6, ground := Ground.data }, { on := 1, ground := Ground.data }, { on := 5, ground := Ground.chain }, { on := 0, ground := Ground.phase }, { on := 1, ground := Ground.phase }, { on := 2, ground := Ground.textOnly Departure.lateStores }, { on := 3, ground := Ground.textOnly Departure.lateStores }, { on := 4, ground := Ground.textOnly Departure.lateStoresUnsure }, { on := 5, ground := Ground.textOnly Departure.lateStoresUnsure }, { on := 6, ground := Ground.phase }, { on := 7, ground := Ground.phase }], guard := none }) rfl (fun K hK => ?_) AllReady.nil)
          refine step_store_all rfl 27 (.tmp 7) (.tmp 23) rfl x7 _ (s1.map bv) rfl rfl Z7.out (by simp [hls1]) (by rw [szBytes32]; simp [hls1]) (bytes_one s1) ?_
          intro w15 zA kA
          have Z8 := Lib.hid (Z8.out.keeps kA (by simp; omega))
          have Z7 := Lib.hid zA
          have KW := Lib.hid (KW.out.then kA (fun q hq => .inr (by simp at hq; omega)))
          clear kA zA
          refine hK _ _ ?_
          clear hK K
          try simp only [Act.put, List.getElem_toArray, List.getElem_cons_succ, List.getElem_cons_zero, List.setIfInBounds_toArray, List.set_cons_succ, List.set_cons_zero]
          refine wpAny_ready (rs := [9]) (by kernel_rfl) (by simp) (AllReady.cons (o := { dst := none, op := Op.store 27 (Operand.tmp 8) (Operand.tmp 27), type := 0, pos := "law.go:32", after := #[{ on := 7, ground := Ground.data }, { on := 5, ground := Ground.data }, { on := 8, ground := Ground.chain }, { on := 0, ground := Ground.phase }, { on := 1, ground := Ground.phase }, { on := 2, ground := Ground.phase }, { on := 3, ground := Ground.phase }, { on := 4, ground := Ground.phase }, { on := 5, ground := Ground.phase }, { on := 6, ground := Ground.phase }, { on := 7, ground := Ground.phase }, { on := 8, ground := Ground.phase }], guard := none }) rfl (fun K hK => ?_) AllReady.nil)
          refine step_store_all rfl 27 (.tmp 8) (.tmp 27) rfl x8 _ (s2.map bv) rfl rfl Z8.out (by simp [hls2]) (by rw [szBytes32]; simp [hls2]) (bytes_one s2) ?_
          intro w16 zA kA
          have Z7 := Lib.hid (Z7.out.keeps kA (by simp; omega))
          have Z8 := Lib.hid zA
          have KW := Lib.hid (KW.out.then kA (fun q hq => .inr (by simp at hq; omega)))
          clear kA zA
          refine hK _ _ ?_
          clear hK K
          try simp only [Act.put, List.getElem_toArray, List.getElem_cons_succ, List.getElem_cons_zero, List.setIfInBounds_toArray, List.set_cons_succ, List.set_cons_zero]
          refine wpAny_done (by kernel_rfl) ?_ _
          go_wp2_with fail
          go_meet
          exact ⟨x7, x8, rfl, rfl, hx7, hx8, hxx, Z7, Z8, KW⟩
      · go_simp
        refine hK _ _ ?_
        clear hK K
        have kA := Keeps.alloc [] w11 (.cells ((List.replicate 32 (0 : UInt8)).map bv).toArray 27)
        have zA := Whole.new w11 27 ((List.replicate 32 (0 : UInt8)).map bv)
        have hx8 := KW.out.size
        replace KW := Lib.hid (KW.out.trans kA)
        have Z8 := Lib.hid zA
        clear kA zA
        change wpAny _ _ _ _ _ _ _ (w11.alloc (.cells ((List.replicate 32 (0 : UInt8)).map bv).toArray 27))
        generalize w11.alloc (.cells ((List.replicate 32 (0 : UInt8)).map bv).toArray 27) = w12 at *
        generalize w11.heap.size = x8 at *
        try simp only [Act.put, List.getElem_toArray, List.getElem_cons_succ, List.getElem_cons_zero, List.setIfInBounds_toArray, List.set_cons_succ, List.set_cons_zero]
        refine wpAny_ready (rs := [5, 6]) (by kernel_rfl) (by simp) (AllReady.cons (o := { dst := some 27, op := Op.call { callee := Callee.value (Operand.func 7), args := #[Operand.tmp 26], argTypes := #[22] }, type := 27, pos := "law.go:32", after := #[{ on := 4, ground := Ground.data }, { on := 1, ground := Ground.chain }], guard := none }) rfl (fun K hK => ?_) (AllReady.cons (o := { dst := some 7, op := Op.alloc 27, type := 0, pos := "law.go:32", after := #[], guard := none }) rfl (fun K hK => ?_) AllReady.nil))
        · go_simp
          refine (HO2.out _ KW.out).mono ?_
          rintro e w13 ⟨rfl, kA⟩
          replace Z8 := Lib.hid (Z8.out.keeps kA (by simp))
          replace KW := Lib.hid (KW.out.trans kA)
          clear kA
          refine hK _ _ ?_
          clear hK K
          try simp only [Act.put, List.getElem_toArray, List.getElem_cons_succ, List.getElem_cons_zero, List.setIfInBounds_toArray, List.set_cons_succ, List.set_cons_zero]
          refine wpAny_ready (rs := [6]) (by kernel_rfl) (by simp) (AllReady.cons (o := { dst := some 7, op := Op.alloc 27, type := 0, pos := "law.go:32", after := #[], guard := none }) rfl (fun K hK => ?_) AllReady.nil)
          go_simp
          refine hK _ _ ?_
          clear hK K
          have kA := Keeps.alloc [] w13 (.cells ((List.replicate 32 (0 : UInt8)).map bv).toArray 27)
          have zA := Whole.new w13 27 ((List.replicate 32 (0 : UInt8)).map bv)
          have hx7 := KW.out.size
          have hxx := Z8.out.lt
          replace Z8 := Lib.hid (Z8.out.keeps kA (by simp))
          replace KW := Lib.hid (KW.out.trans kA)
          have Z7 := Lib.hid zA
          clear kA zA
          change wpAny _ _ _ _ _ _ _ (w13.alloc (.cells ((List.replicate 32 (0 : UInt8)).map bv).toArray 27))
          generalize w13.alloc (.cells ((List.replicate 32 (0 : UInt8)).map bv).toArray 27) = w14 at *
          generalize w13.heap.size = x7 at *
          have hxx : x7 ≠ x8 := by omega
          try simp only [Act.put, List.getElem_toArray, List.getElem_cons_succ, List.getElem_cons_zero, List.setIfInBounds_toArray, List.set_cons_succ, List.set_cons_zero]
          refine wpAny_ready (rs := [8]) (by kernel_rfl) (by simp) (AllReady.cons (o := { dst := none, op := Op.store 27 (Operand.tmp 7) (Operand.tmp 23), type := 0, pos := "law.go:32", after := #[{ on := 6, ground := Ground.data }, { on := 1, ground := Ground.data }, { on := 5, ground := Ground.chain }, { on := 0, ground := Ground.phase }, { on := 1, ground := Ground.phase }, { on := 2, ground := Ground.textOnly Departure.lateStores }, { on := 3, ground := Ground.textOnly Departure.lateStores }, { on := 4, ground := Ground.textOnly Departure.lateStoresUnsure }, { on := 5, ground := Ground.textOnly Departure.lateStoresUnsure }, { on := 6, ground := Ground.phase }, { on := 7, ground := Ground.phase }], guard := none }) rfl (fun K hK => ?_) AllReady.nil)
          refine step_store_all rfl 27 (.tmp 7) (.tmp 23) rfl x7 _ (s1.map bv) rfl rfl Z7.out (by simp [hls1]) (by rw [szBytes32]; simp [hls1]) (bytes_one s1) ?_
          intro w15 zA kA
          have Z8 := Lib.hid (Z8.out.keeps kA (by simp; omega))
          have Z7 := Lib.hid zA
          have KW := Lib.hid (KW.out.then kA (fun q hq => .inr (by simp at hq; omega)))
          clear kA zA
          refine hK _ _ ?_
          clear hK K
          try simp only [Act.put, List.getElem_toArray, List.getElem_cons_succ, List.getElem_cons_zero, List.setIfInBounds_toArray, List.set_cons_succ, List.set_cons_zero]
          refine wpAny_ready (rs := [9]) (by kernel_rfl) (by simp) (AllReady.cons (o := { dst := none, op := Op.store 27 (Operand.tmp 8) (Operand.tmp 27), type := 0, pos := "law.go:32", after := #[{ on := 7, ground := Ground.data }, { on := 5, ground := Ground.data }, { on := 8, ground := Ground.chain }, { on := 0, ground := Ground.phase }, { on := 1, ground := Ground.phase }, { on := 2, ground := Ground.phase }, { on := 3, ground := Ground.phase }, { on := 4, ground := Ground.phase }, { on := 5, ground := Ground.phase }, { on := 6, ground := Ground.phase }, { on := 7, ground := Ground.phase }, { on := 8, ground := Ground.phase }], guard := none }) rfl (fun K hK => ?_) AllReady.nil)
          refine step_store_all rfl 27 (.tmp 8) (.tmp 27) rfl x8 _ (s2.map bv) rfl rfl Z8.out (by simp [hls2]) (by rw [szBytes32]; simp [hls2]) (bytes_one s2) ?_
          intro w16 zA kA
          have Z7 := Lib.hid (Z7.out.keeps kA (by simp; omega))
          have Z8 := Lib.hid zA
          have KW := Lib.hid (KW.out.then kA (fun q hq => .inr (by simp at hq; omega)))
          clear kA zA
          refine hK _ _ ?_
          clear hK K
          try simp only [Act.put, List.getElem_toArray, List.getElem_cons_succ, List.getElem_cons_zero, List.setIfInBounds_toArray, List.set_cons_succ, List.set_cons_zero]
          refine wpAny_done (by kernel_rfl) ?_ _
          go_wp2_with fail
          go_meet
          exact ⟨x7, x8, rfl, rfl, hx7, hx8, hxx, Z7, Z8, KW⟩
        · go_simp
          refine hK _ _ ?_
          clear hK K
          have kA := Keeps.alloc [] w12 (.cells ((List.replicate 32 (0 : UInt8)).map bv).toArray 27)
          have zA := Whole.new w12 27 ((List.replicate 32 (0 : UInt8)).map bv)
          have hx7 := KW.out.size
          have hxx := Z8.out.lt
          replace Z8 := Lib.hid (Z8.out.keeps kA (by simp))
          replace KW := Lib.hid (KW.out.trans kA)
          have Z7 := Lib.hid zA
          clear kA zA
          change wpAny _ _ _ _ _ _ _ (w12.alloc (.cells ((List.replicate 32 (0 : UInt8)).map bv).toArray 27))
          generalize w12.alloc (.cells ((List.replicate 32 (0 : UInt8)).map bv).toArray 27) = w13 at *
          generalize w12.heap.size = x7 at *
          have hxx : x7 ≠ x8 := by omega
          try simp only [Act.put, List.getElem_toArray, List.getElem_cons_succ, List.getElem_cons_zero, List.setIfInBounds_toArray, List.set_cons_succ, List.set_cons_zero]
          refine wpAny_ready (rs := [5]) (by kernel_rfl) (by simp) (AllReady.cons (o := { dst := some 27, op := Op.call { callee := Callee.value (Operand.func 7), args := #[Operand.tmp 26], argTypes := #[22] }, type := 27, pos := "law.go:32", after := #[{ on := 4, ground := Ground.data }, { on := 1, ground := Ground.chain }], guard := none }) rfl (fun K hK => ?_) AllReady.nil)
          go_simp
          refine (HO2.out _ KW.out).mono ?_
          rintro e w14 ⟨rfl, kA⟩
          replace Z7 := Lib.hid (Z7.out.keeps kA (by simp))
          replace Z8 := Lib.hid (Z8.out.keeps kA (by simp))
          replace KW := Lib.hid (KW.out.trans kA)
          clear kA
          refine hK _ _ ?_
          clear hK K
          try simp only [Act.put, List.getElem_toArray, List.getElem_cons_succ, List.getElem_cons_zero, List.setIfInBounds_toArray, List.set_cons_succ, List.set_cons_zero]
          refine wpAny_ready (rs := [8]) (by kernel_rfl) (by simp) (AllReady.cons (o := { dst := none, op := Op.store 27 (Operand.tmp 7) (Operand.tmp 23), type := 0, pos := "law.go:32", after := #[{ on := 6, ground := Ground.data }, { on := 1, ground := Ground.data }, { on := 5, ground := Ground.chain }, { on := 0, ground := Ground.phase }, { on := 1, ground := Ground.phase }, { on := 2, ground := Ground.textOnly Departure.lateStores }, { on := 3, ground := Ground.textOnly Departure.lateStores }, { on := 4, ground := Ground.textOnly Departure.lateStoresUnsure }, { on := 5, ground := Ground.textOnly Departure.lateStoresUnsure }, { on := 6, ground := Ground.phase }, { on := 7, ground := Ground.phase }], guard := none }) rfl (fun K hK => ?_) AllReady.nil)
          refine step_store_all rfl 27 (.tmp 7) (.tmp 23) rfl x7 _ (s1.map bv) rfl rfl Z7.out (by simp [hls1]) (by rw [szBytes32]; simp [hls1]) (bytes_one s1) ?_
          intro w15 zA kA
          have Z8 := Lib.hid (Z8.out.keeps kA (by simp; omega))
          have Z7 := Lib.hid zA
          have KW := Lib.hid (KW.out.then kA (fun q hq => .inr (by simp at hq; omega)))
          clear kA zA
          refine hK _ _ ?_
          clear hK K
          try simp only [Act.put, List.getElem_toArray, List.getElem_cons_succ, List.getElem_cons_zero, List.setIfInBounds_toArray, List.set_cons_succ, List.set_cons_zero]
          refine wpAny_ready (rs := [9]) (by kernel_rfl) (by simp) (AllReady.cons (o := { dst := none, op := Op.store 27 (Operand.tmp 8) (Operand.tmp 27), type := 0, pos := "law.go:32", after := #[{ on := 7, ground := Ground.data }, { on := 5, ground := Ground.data }, { on := 8, ground := Ground.chain }, { on := 0, ground := Ground.phase }, { on := 1, ground := Ground.phase }, { on := 2, ground := Ground.phase }, { on := 3, ground := Ground.phase }, { on := 4, ground := Ground.phase }, { on := 5, ground := Ground.phase }, { on := 6, ground := Ground.phase }, { on := 7, ground := Ground.phase }, { on := 8, ground := Ground.phase }], guard := none }) rfl (fun K hK => ?_) AllReady.nil)
          refine step_store_all rfl 27 (.tmp 8) (.tmp 27) rfl x8 _ (s2.map bv) rfl rfl Z8.out (by simp [hls2]) (by rw [szBytes32]; simp [hls2]) (bytes_one s2) ?_
          intro w16 zA kA
          have Z7 := Lib.hid (Z7.out.keeps kA (by simp; omega))
          have Z8 := Lib.hid zA
          have KW := Lib.hid (KW.out.then kA (fun q hq => .inr (by simp at hq; omega)))
          clear kA zA
          refine hK _ _ ?_
          clear hK K
          try simp only [Act.put, List.getElem_toArray, List.getElem_cons_succ, List.getElem_cons_zero, List.setIfInBounds_toArray, List.set_cons_succ, List.set_cons_zero]
          refine wpAny_done (by kernel_rfl) ?_ _
          go_wp2_with fail
          go_meet
          exact ⟨x7, x8, rfl, rfl, hx7, hx8, hxx, Z7, Z8, KW⟩
    · go_simp
      refine hK _ _ ?_
      clear hK K
      have kA := Keeps.alloc [] w10 (.cells ((List.replicate 32 (0 : UInt8)).map bv).toArray 27)
      have zA := Whole.new w10 27 ((List.replicate 32 (0 : UInt8)).map bv)
      have hx7 := KW.out.size
      replace KW := Lib.hid (KW.out.trans kA)
      have Z7 := Lib.hid zA
      clear kA zA
      change wpAny _ _ _ _ _ _ _ (w10.alloc (.cells ((List.replicate 32 (0 : UInt8)).map bv).toArray 27))
      generalize w10.alloc (.cells ((List.replicate 32 (0 : UInt8)).map bv).toArray 27) = w11 at *
      generalize w10.heap.size = x7 at *
      try simp only [Act.put, List.getElem_toArray, List.getElem_cons_succ, List.getElem_cons_zero, List.setIfInBounds_toArray, List.set_cons_succ, List.set_cons_zero]
      refine wpAny_ready (rs := [1, 7]) (by kernel_rfl) (by simp) (AllReady.cons (o := { dst := some 23, op := Op.call { callee := Callee.value (Operand.func 7), args := #[Operand.tmp 22], argTypes := #[22] }, type := 27, pos := "law.go:32", after := #[{ on := 0, ground := Ground.data }], guard := none }) rfl (fun K hK => ?_) (AllReady.cons (o := { dst := some 8, op := Op.alloc 27, type := 0, pos := "law.go:32", after := #[], guard := none }) rfl (fun K hK => ?_) AllReady.nil))
      · go_simp
        refine (HO1.out _ KW.out).mono ?_
        rintro e w12 ⟨rfl, kA⟩
        replace Z7 := Lib.hid (Z7.out.keeps kA (by simp))
        replace KW := Lib.hid (KW.out.trans kA)
        clear kA
        refine hK _ _ ?_
        clear hK K
        try simp only [Act.put, List.getElem_toArray, List.getElem_cons_succ, List.getElem_cons_zero, List.setIfInBounds_toArray, List.set_cons_succ, List.set_cons_zero]
        refine wpAny_ready (rs := [5, 7]) (by kernel_rfl) (by simp) (AllReady.cons (o := { dst := some 27, op := Op.call { callee := Callee.value (Operand.func 7), args := #[Operand.tmp 26], argTypes := #[22] }, type := 27, pos := "law.go:32", after := #[{ on := 4, ground := Ground.data }, { on := 1, ground := Ground.chain }], guard := none }) rfl (fun K hK => ?_) (AllReady.cons (o := { dst := some 8, op := Op.alloc 27, type := 0, pos := "law.go:32", after := #[], guard := none }) rfl (fun K hK => ?_) AllReady.nil))
        · go_simp
          refine (HO2.out _ KW.out).mono ?_
          rintro e w13 ⟨rfl, kA⟩
          replace Z7 := Lib.hid (Z7.out.keeps kA (by simp))
          replace KW := Lib.hid (KW.out.trans kA)
          clear kA
          refine hK _ _ ?_
          clear hK K
          try simp only [Act.put, List.getElem_toArray, List.getElem_cons_succ, List.getElem_cons_zero, List.setIfInBounds_toArray, List.set_cons_succ, List.set_cons_zero]
          refine wpAny_ready (rs := [7]) (by kernel_rfl) (by simp) (AllReady.cons (o := { dst := some 8, op := Op.alloc 27, type := 0, pos := "law.go:32", after := #[], guard := none }) rfl (fun K hK => ?_) AllReady.nil)
          go_simp
          refine hK _ _ ?_
          clear hK K
          have kA := Keeps.alloc [] w13 (.cells ((List.replicate 32 (0 : UInt8)).map bv).toArray 27)
          have zA := Whole.new w13 27 ((List.replicate 32 (0 : UInt8)).map bv)
          have hx8 := KW.out.size
          have hxx := Z7.out.lt
          replace Z7 := Lib.hid (Z7.out.keeps kA (by simp))
          replace KW := Lib.hid (KW.out.trans kA)
          have Z8 := Lib.hid zA
          clear kA zA
          change wpAny _ _ _ _ _ _ _ (w13.alloc (.cells ((List.replicate 32 (0 : UInt8)).map bv).toArray 27))
          generalize w13.alloc (.cells ((List.replicate 32 (0 : UInt8)).map bv).toArray 27) = w14 at *
          generalize w13.heap.size = x8 at *
          have hxx : x7 ≠ x8 := by omega
          try simp only [Act.put, List.getElem_toArray, List.getElem_cons_succ, List.getElem_cons_zero, List.setIfInBounds_toArray, List.set_cons_succ, List.set_cons_zero]
          refine wpAny_ready (rs := [8]) (by kernel_rfl) (by simp) (AllReady.cons (o := { dst := none, op := Op.store 27 (Operand.tmp 7) (Operand.tmp 23), type := 0, pos := "law.go:32", after := #[{ on := 6, ground := Ground.data }, { on := 1, ground := Ground.data }, { on := 5, ground := Ground.chain }, { on := 0, ground := Ground.phase }, { on := 1, ground := Ground.phase }, { on := 2, ground := Ground.textOnly Departure.lateStores }, { on := 3, ground := Ground.textOnly Departure.lateStores }, { on := 4, ground := Ground.textOnly Departure.lateStoresUnsure }, { on := 5, ground := Ground.textOnly Departure.lateStoresUnsure }, { on := 6, ground := Ground.phase }, { on := 7, ground := Ground.phase }], guard := none }) rfl (fun K hK => ?_) AllReady.nil)
          refine step_store_all rfl 27 (.tmp 7) (.tmp 23) rfl x7 _ (s1.map bv) rfl rfl Z7.out (by simp [hls1]) (by rw [szBytes32]; simp [hls1]) (bytes_one s1) ?_
          intro w15 zA kA
          have Z8 := Lib.hid (Z8.out.keeps kA (by simp; omega))
          have Z7 := Lib.hid zA
          have KW := Lib.hid (KW.out.then kA (fun q hq => .inr (by simp at hq; omega)))
          clear kA zA
          refine hK _ _ ?_
          clear hK K
          try simp only [Act.put, List.getElem_toArray, List.getElem_cons_succ, List.getElem_cons_zero, List.setIfInBounds_toArray, List.set_cons_succ, List.set_cons_zero]
          refine wpAny_ready (rs := [9]) (by kernel_rfl) (by simp) (AllReady.cons (o := { dst := none, op := Op.store 27 (Operand.tmp 8) (Operand.tmp 27), type := 0, pos := "law.go:32", after := #[{ on := 7, ground := Ground.data }, { on := 5, ground := Ground.data }, { on := 8, ground := Ground.chain }, { on := 0, ground := Ground.phase }, { on := 1, ground := Ground.phase }, { on := 2, ground := Ground.phase }, { on := 3, ground := Ground.phase }, { on := 4, ground := Ground.phase }, { on := 5, ground := Ground.phase }, { on := 6, ground := Ground.phase }, { on := 7, ground := Ground.phase }, { on := 8, ground := Ground.phase }], guard := none }) rfl (fun K hK => ?_) AllReady.nil)
          refine step_store_all rfl 27 (.tmp 8) (.tmp 27) rfl x8 _ (s2.map bv) rfl rfl Z8.out (by simp [hls2]) (by rw [szBytes32]; simp [hls2]) (bytes_one s2) ?_
          intro w16 zA kA
          have Z7 := Lib.hid (Z7.out.keeps kA (by simp; omega))
          have Z8 := Lib.hid zA
          have KW := Lib.hid (KW.out.then kA (fun q hq => .inr (by simp at hq; omega)))
          clear kA zA
          refine hK _ _ ?_
          clear hK K
          try simp only [Act.put, List.getElem_toArray, List.getElem_cons_succ, List.getElem_cons_zero, List.setIfInBounds_toArray, List.set_cons_succ, List.set_cons_zero]
          refine wpAny_done (by kernel_rfl) ?_ _
          go_wp2_with fail
          go_meet
          exact ⟨x7, x8, rfl, rfl, hx7, hx8, hxx, Z7, Z8, KW⟩
        · go_simp
          refine hK _ _ ?_
          clear hK K
          have kA := Keeps.alloc [] w12 (.cells ((List.replicate 32 (0 : UInt8)).map bv).toArray 27)
          have zA := Whole.new w12 27 ((List.replicate 32 (0 : UInt8)).map bv)
          have hx8 := KW.out.size
          have hxx := Z7.out.lt
          replace Z7 := Lib.hid (Z7.out.keeps kA (by simp))
          replace KW := Lib.hid (KW.out.trans kA)
          have Z8 := Lib.hid zA
          clear kA zA
          change wpAny _ _ _ _ _ _ _ (w12.alloc (.cells ((List.replicate 32 (0 : UInt8)).map bv).toArray 27))
          generalize w12.alloc (.cells ((List.replicate 32 (0 : UInt8)).map bv).toArray 27) = w13 at *
          generalize w12.heap.size = x8 at *
          have hxx : x7 ≠ x8 := by omega
          try simp only [Act.put, List.getElem_toArray, List.getElem_cons_succ, List.getElem_cons_zero, List.setIfInBounds_toArray, List.set_cons_succ, List.set_cons_zero]
          refine wpAny_ready (rs := [5]) (by kernel_rfl) (by simp) (AllReady.cons (o := { dst := some 27, op := Op.call { callee := Callee.value (Operand.func 7), args := #[Operand.tmp 26], argTypes := #[22] }, type := 27, pos := "law.go:32", after := #[{ on := 4, ground := Ground.data }, { on := 1, ground := Ground.chain }], guard := none }) rfl (fun K hK => ?_) AllReady.nil)
          go_simp
          refine (HO2.out _ KW.out).mono ?_
          rintro e w14 ⟨rfl, kA⟩
          replace Z7 := Lib.hid (Z7.out.keeps kA (by simp))
          replace Z8 := Lib.hid (Z8.out.keeps kA (by simp))
          replace KW := Lib.hid (KW.out.trans kA)
          clear kA
          refine hK _ _ ?_
          clear hK K
          try simp only [Act.put, List.getElem_toArray, List.getElem_cons_succ, List.getElem_cons_zero, List.setIfInBounds_toArray, List.set_cons_succ, List.set_cons_zero]
          refine wpAny_ready (rs := [8]) (by kernel_rfl) (by simp) (AllReady.cons (o := { dst := none, op := Op.store 27 (Operand.tmp 7) (Operand.tmp 23), type := 0, pos := "law.go:32", after := #[{ on := 6, ground := Ground.data }, { on := 1, ground := Ground.data }, { on := 5, ground := Ground.chain }, { on := 0, ground := Ground.phase }, { on := 1, ground := Ground.phase }, { on := 2, ground := Ground.textOnly Departure.lateStores }, { on := 3, ground := Ground.textOnly Departure.lateStores }, { on := 4, ground := Ground.textOnly Departure.lateStoresUnsure }, { on := 5, ground := Ground.textOnly Departure.lateStoresUnsure }, { on := 6, ground := Ground.phase }, { on := 7, ground := Ground.phase }], guard := none }) rfl (fun K hK => ?_) AllReady.nil)
          refine step_store_all rfl 27 (.tmp 7) (.tmp 23) rfl x7 _ (s1.map bv) rfl rfl Z7.out (by simp [hls1]) (by rw [szBytes32]; simp [hls1]) (bytes_one s1) ?_
          intro w15 zA kA
          have Z8 := Lib.hid (Z8.out.keeps kA (by simp; omega))
          have Z7 := Lib.hid zA
          have KW := Lib.hid (KW.out.then kA (fun q hq => .inr (by simp at hq; omega)))
          clear kA zA
          refine hK _ _ ?_
          clear hK K
          try simp only [Act.put, List.getElem_toArray, List.getElem_cons_succ, List.getElem_cons_zero, List.setIfInBounds_toArray, List.set_cons_succ, List.set_cons_zero]
          refine wpAny_ready (rs := [9]) (by kernel_rfl) (by simp) (AllReady.cons (o := { dst := none, op := Op.store 27 (Operand.tmp 8) (Operand.tmp 27), type := 0, pos := "law.go:32", after := #[{ on := 7, ground := Ground.data }, { on := 5, ground := Ground.data }, { on := 8, ground := Ground.chain }, { on := 0, ground := Ground.phase }, { on := 1, ground := Ground.phase }, { on := 2, ground := Ground.phase }, { on := 3, ground := Ground.phase }, { on := 4, ground := Ground.phase }, { on := 5, ground := Ground.phase }, { on := 6, ground := Ground.phase }, { on := 7, ground := Ground.phase }, { on := 8, ground := Ground.phase }], guard := none }) rfl (fun K hK => ?_) AllReady.nil)
          refine step_store_all rfl 27 (.tmp 8) (.tmp 27) rfl x8 _ (s2.map bv) rfl rfl Z8.out (by simp [hls2]) (by rw [szBytes32]; simp [hls2]) (bytes_one s2) ?_
          intro w16 zA kA
          have Z7 := Lib.hid (Z7.out.keeps kA (by simp; omega))
          have Z8 := Lib.hid zA
          have KW := Lib.hid (KW.out.then kA (fun q hq => .inr (by simp at hq; omega)))
          clear kA zA
          refine hK _ _ ?_
          clear hK K
          try simp only [Act.put, List.getElem_toArray, List.getElem_cons_succ, List.getElem_cons_zero, List.setIfInBounds_toArray, List.set_cons_succ, List.set_cons_zero]
          refine wpAny_done (by kernel_rfl) ?_ _
          go_wp2_with fail
          go_meet
          exact ⟨x7, x8, rfl, rfl, hx7, hx8, hxx, Z7, Z8, KW⟩
      · go_simp
        refine hK _ _ ?_
        clear hK K
        have kA := Keeps.alloc [] w11 (.cells ((List.replicate 32 (0 : UInt8)).map bv).toArray 27)
        have zA := Whole.new w11 27 ((List.replicate 32 (0 : UInt8)).map bv)
        have hx8 := KW.out.size
        have hxx := Z7.out.lt
        replace Z7 := Lib.hid (Z7.out.keeps kA (by simp))
        replace KW := Lib.hid (KW.out.trans kA)
        have Z8 := Lib.hid zA
        clear kA zA
        change wpAny _ _ _ _ _ _ _ (w11.alloc (.cells ((List.replicate 32 (0 : UInt8)).map bv).toArray 27))
        generalize w11.alloc (.cells ((List.replicate 32 (0 : UInt8)).map bv).toArray 27) = w12 at *
        generalize w11.heap.size = x8 at *
        have hxx : x7 ≠ x8 := by omega
        try simp only [Act.put, List.getElem_toArray, List.getElem_cons_succ, List.getElem_cons_zero, List.setIfInBounds_toArray, List.set_cons_succ, List.set_cons_zero]
        refine wpAny_ready (rs := [1]) (by kernel_rfl) (by simp) (AllReady.cons (o := { dst := some 23, op := Op.call { callee := Callee.value (Operand.func 7), args := #[Operand.tmp 22], argTypes := #[22] }, type := 27, pos := "law.go:32", after := #[{ on := 0, ground := Ground.data }], guard := none }) rfl (fun K hK => ?_) AllReady.nil)
        go_simp
        refine (HO1.out _ KW.out).mono ?_
        rintro e w13 ⟨rfl, kA⟩
        replace Z7 := Lib.hid (Z7.out.keeps kA (by simp))
        replace Z8 := Lib.hid (Z8.out.keeps kA (by simp))
        replace KW := Lib.hid (KW.out.trans kA)
        clear kA
        refine hK _ _ ?_
        clear hK K
        try simp only [Act.put, List.getElem_toArray, List.getElem_cons_succ, List.getElem_cons_zero, List.setIfInBounds_toArray, List.set_cons_succ, List.set_cons_zero]
        refine wpAny_ready (rs := [5]) (by kernel_rfl) (by simp) (AllReady.cons (o := { dst := some 27, op := Op.call { callee := Callee.value (Operand.func 7), args := #[Operand.tmp 26], argTypes := #[22] }, type := 27, pos := "law.go:32", after := #[{ on := 4, ground := Ground.data }, { on := 1, ground := Ground.chain }], guard := none }) rfl (fun K hK => ?_) AllReady.nil)
        go_simp
        refine (HO2.out _ KW.out).mono ?_
        rintro e w14 ⟨rfl, kA⟩
        replace Z7 := Lib.hid (Z7.out.keeps kA (by simp))
        replace Z8 := Lib.hid (Z8.out.keeps kA (by simp))
        replace KW := Lib.hid (KW.out.trans kA)
        clear kA
        refine hK _ _ ?_
        clear hK K
        try simp only [Act.put, List.getElem_toArray, List.getElem_cons_succ, List.getElem_cons_zero, List.setIfInBounds_toArray, List.set_cons_succ, List.set_cons_zero]
        refine wpAny_ready (rs := [8]) (by kernel_rfl) (by simp) (AllReady.cons (o := { dst := none, op := Op.store 27 (Operand.tmp 7) (Operand.tmp 23), type := 0, pos := "law.go:32", after := #[{ on := 6, ground := Ground.data }, { on := 1, ground := Ground.data }, { on := 5, ground := Ground.chain }, { on := 0, ground := Ground.phase }, { on := 1, ground := Ground.phase }, { on := 2, ground := Ground.textOnly Departure.lateStores }, { on := 3, ground := Ground.textOnly Departure.lateStores }, { on := 4, ground := Ground.textOnly Departure.lateStoresUnsure }, { on := 5, ground := Ground.textOnly Departure.lateStoresUnsure }, { on := 6, ground := Ground.phase }, { on := 7, ground := Ground.phase }], guard := none }) rfl (fun K hK => ?_) AllReady.nil)
        refine step_store_all rfl 27 (.tmp 7) (.tmp 23) rfl x7 _ (s1.map bv) rfl rfl Z7.out (by simp [hls1]) (by rw [szBytes32]; simp [hls1]) (bytes_one s1) ?_
        intro w15 zA kA
        have Z8 := Lib.hid (Z8.out.keeps kA (by simp; omega))
        have Z7 := Lib.hid zA
        have KW := Lib.hid (KW.out.then kA (fun q hq => .inr (by simp at hq; omega)))
        clear kA zA
        refine hK _ _ ?_
        clear hK K
        try simp only [Act.put, List.getElem_toArray, List.getElem_cons_succ, List.getElem_cons_zero, List.setIfInBounds_toArray, List.set_cons_succ, List.set_cons_zero]
        refine wpAny_ready (rs := [9]) (by kernel_rfl) (by simp) (AllReady.cons (o := { dst := none, op := Op.store 27 (Operand.tmp 8) (Operand.tmp 27), type := 0, pos := "law.go:32", after := #[{ on := 7, ground := Ground.data }, { on := 5, ground := Ground.data }, { on := 8, ground := Ground.chain }, { on := 0, ground := Ground.phase }, { on := 1, ground := Ground.phase }, { on := 2, ground := Ground.phase }, { on := 3, ground := Ground.phase }, { on := 4, ground := Ground.phase }, { on := 5, ground := Ground.phase }, { on := 6, ground := Ground.phase }, { on := 7, ground := Ground.phase }, { on := 8, ground := Ground.phase }], guard := none }) rfl (fun K hK => ?_) AllReady.nil)
        refine step_store_all rfl 27 (.tmp 8) (.tmp 27) rfl x8 _ (s2.map bv) rfl rfl Z8.out (by simp [hls2]) (by rw [szBytes32]; simp [hls2]) (bytes_one s2) ?_
        intro w16 zA kA
        have Z7 := Lib.hid (Z7.out.keeps kA (by simp; omega))
        have Z8 := Lib.hid zA
        have KW := Lib.hid (KW.out.then kA (fun q hq => .inr (by simp at hq; omega)))
        clear kA zA
        refine hK _ _ ?_
        clear hK K
        try simp only [Act.put, List.getElem_toArray, List.getElem_cons_succ, List.getElem_cons_zero, List.setIfInBounds_toArray, List.set_cons_succ, List.set_cons_zero]
        refine wpAny_done (by kernel_rfl) ?_ _
        go_wp2_with fail
        go_meet
        exact ⟨x7, x8, rfl, rfl, hx7, hx8, hxx, Z7, Z8, KW⟩
    · go_simp
      refine hK _ _ ?_
      clear hK K
      have kA := Keeps.alloc [] w10 (.cells ((List.replicate 32 (0 : UInt8)).map bv).toArray 27)
      have zA := Whole.new w10 27 ((List.replicate 32 (0 : UInt8)).map bv)
      have hx8 := KW.out.size
      replace KW := Lib.hid (KW.out.trans kA)
      have Z8 := Lib.hid zA
      clear kA zA
      change wpAny _ _ _ _ _ _ _ (w10.alloc (.cells ((List.replicate 32 (0 : UInt8)).map bv).toArray 27))
      generalize w10.alloc (.cells ((List.replicate 32 (0 : UInt8)).map bv).toArray 27) = w11 at *
      generalize w10.heap.size = x8 at *
      try simp only [Act.put, List.getElem_toArray, List.getElem_cons_succ, List.getElem_cons_zero, List.setIfInBounds_toArray, List.set_cons_succ, List.set_cons_zero]
      refine wpAny_ready (rs := [1, 6]) (by kernel_rfl) (by simp) (AllReady.cons (o := { dst := some 23, op := Op.call { callee := Callee.value (Operand.func 7), args := #[Operand.tmp 22], argTypes := #[22] }, type := 27, pos := "law.go:32", after := #[{ on := 0, ground := Ground.data }], guard := none }) rfl (fun K hK => ?_) (AllReady.cons (o := { dst := some 7, op := Op.alloc 27, type := 0, pos := "law.go:32", after := #[], guard := none }) rfl (fun K hK => ?_) AllReady.nil))
      · go_simp
        refine (HO1.out _ KW.out).mono ?_
        rintro e w12 ⟨rfl, kA⟩
        replace Z8 := Lib.hid (Z8.out.keeps kA (by simp))
        replace KW := Lib.hid (KW.out.trans kA)
        clear kA
        refine hK _ _ ?_
        clear hK K
        try simp only [Act.put, List.getElem_toArray, List.getElem_cons_succ, List.getElem_cons_zero, List.setIfInBounds_toArray, List.set_cons_succ, List.set_cons_zero]
        refine wpAny_ready (rs := [5, 6]) (by kernel_rfl) (by simp) (AllReady.cons (o := { dst := some 27, op := Op.call { callee := Callee.value (Operand.func 7), args := #[Operand.tmp 26], argTypes := #[22] }, type := 27, pos := "law.go:32", after := #[{ on := 4, ground := Ground.data }, { on := 1, ground := Ground.chain }], guard := none }) rfl (fun K hK => ?_) (AllReady.cons (o := { dst := some 7, op := Op.alloc 27, type := 0, pos := "law.go:32", after := #[], guard := none }) rfl (fun K hK => ?_) AllReady.nil))
        · go_simp
          refine (HO2.out _ KW.out).mono ?_
          rintro e w13 ⟨rfl, kA⟩
          replace Z8 := Lib.hid (Z8.out.keeps kA (by simp))
          replace KW := Lib.hid (KW.out.trans kA)
          clear kA
          refine hK _ _ ?_
          clear hK K
          try simp only [Act.put, List.getElem_toArray, List.getElem_cons_succ, List.getElem_cons_zero, List.setIfInBounds_toArray, List.set_cons_succ, List.set_cons_zero]
          refine wpAny_ready (rs := [6]) (by kernel_rfl) (by simp) (AllReady.cons (o := { dst := some 7, op := Op.alloc 27, type := 0, pos := "law.go:32", after := #[], guard := none }) rfl (fun K hK => ?_) AllReady.nil)
          go_simp
          refine hK _ _ ?_
          clear hK K
          have kA := Keeps.alloc [] w13 (.cells ((List.replicate 32 (0 : UInt8)).map bv).toArray 27)
          have zA := Whole.new w13 27 ((List.replicate 32 (0 : UInt8)).map bv)
          have hx7 := KW.out.size
          have hxx := Z8.out.lt
          replace Z8 := Lib.hid (Z8.out.keeps kA (by simp))
          replace KW := Lib.hid (KW.out.trans kA)
          have Z7 := Lib.hid zA
          clear kA zA
          change wpAny _ _ _ _ _ _ _ (w13.alloc (.cells ((List.replicate 32 (0 : UInt8)).map bv).toArray 27))
          generalize w13.alloc (.cells ((List.replicate 32 (0 : UInt8)).map bv).toArray 27) = w14 at *
          generalize w13.heap.size = x7 at *
          have hxx : x7 ≠ x8 := by omega
          try simp only [Act.put, List.getElem_toArray, List.getElem_cons_succ, List.getElem_cons_zero, List.setIfInBounds_toArray, List.set_cons_succ, List.set_cons_zero]
          refine wpAny_ready (rs := [8]) (by kernel_rfl) (by simp) (AllReady.cons (o := { dst := none, op := Op.store 27 (Operand.tmp 7) (Operand.tmp 23), type := 0, pos := "law.go:32", after := #[{ on := 6, ground := Ground.data }, { on := 1, ground := Ground.data }, { on := 5, ground := Ground.chain }, { on := 0, ground := Ground.phase }, { on := 1, ground := Ground.phase }, { on := 2, ground := Ground.textOnly Departure.lateStores }, { on := 3, ground := Ground.textOnly Departure.lateStores }, { on := 4, ground := Ground.textOnly Departure.lateStoresUnsure }, { on := 5, ground := Ground.textOnly Departure.lateStoresUnsure }, { on := 6, ground := Ground.phase }, { on := 7, ground := Ground.phase }], guard := none }) rfl (fun K hK => ?_) AllReady.nil)
          refine step_store_all rfl 27 (.tmp 7) (.tmp 23) rfl x7 _ (s1.map bv) rfl rfl Z7.out (by simp [hls1]) (by rw [szBytes32]; simp [hls1]) (bytes_one s1) ?_
          intro w15 zA kA
          have Z8 := Lib.hid (Z8.out.keeps kA (by simp; omega))
          have Z7 := Lib.hid zA
          have KW := Lib.hid (KW.out.then kA (fun q hq => .inr (by simp at hq; omega)))
          clear kA zA
          refine hK _ _ ?_
          clear hK K
          try simp only [Act.put, List.getElem_toArray, List.getElem_cons_succ, List.getElem_cons_zero, List.setIfInBounds_toArray, List.set_cons_succ, List.set_cons_zero]
          refine wpAny_ready (rs := [9]) (by kernel_rfl) (by simp) (AllReady.cons (o := { dst := none, op := Op.store 27 (Operand.tmp 8) (Operand.tmp 27), type := 0, pos := "law.go:32", after := #[{ on := 7, ground := Ground.data }, { on := 5, ground := Ground.data }, { on := 8, ground := Ground.chain }, { on := 0, ground := Ground.phase }, { on := 1, ground := Ground.phase }, { on := 2, ground := Ground.phase }, { on := 3, ground := Ground.phase }, { on := 4, ground := Ground.phase }, { on := 5, ground := Ground.phase }, { on := 6, ground := Ground.phase }, { on := 7, ground := Ground.phase }, { on := 8, ground := Ground.phase }], guard := none }) rfl (fun K hK => ?_) AllReady.nil)
          refine step_store_all rfl 27 (.tmp 8) (.tmp 27) rfl x8 _ (s2.map bv) rfl rfl Z8.out (by simp [hls2]) (by rw [szBytes32]; simp [hls2]) (bytes_one s2) ?_
          intro w16 zA kA
          have Z7 := Lib.hid (Z7.out.keeps kA (by simp; omega))
          have Z8 := Lib.hid zA
          have KW := Lib.hid (KW.out.then kA (fun q hq => .inr (by simp at hq; omega)))
          clear kA zA
          refine hK _ _ ?_
          clear hK K
          try simp only [Act.put, List.getElem_toArray, List.getElem_cons_succ, List.getElem_cons_zero, List.setIfInBounds_toArray, List.set_cons_succ, List.set_cons_zero]
          refine wpAny_done (by kernel_rfl) ?_ _
          go_wp2_with fail
          go_meet
          exact ⟨x7, x8, rfl, rfl, hx7, hx8, hxx, Z7, Z8, KW⟩
        · go_simp
          refine hK _ _ ?_
          clear hK K
          have kA := Keeps.alloc [] w12 (.cells ((List.replicate 32 (0 : UInt8)).map bv).toArray 27)
          have zA := Whole.new w12 27 ((List.replicate 32 (0 : UInt8)).map bv)
          have hx7 := KW.out.size
          have hxx := Z8.out.lt
          replace Z8 := Lib.hid (Z8.out.keeps kA (by simp))
          replace KW := Lib.hid (KW.out.trans kA)
          have Z7 := Lib.hid zA
          clear kA zA
          change wpAny _ _ _ _ _ _ _ (w12.alloc (.cells ((List.replicate 32 (0 : UInt8)).map bv).toArray 27))
          generalize w12.alloc (.cells ((List.replicate 32 (0 : UInt8)).map bv).toArray 27) = w13 at *
          generalize w12.heap.size = x7 at *
          have hxx : x7 ≠ x8 := by omega
          try simp only [Act.put, List.getElem_toArray, List.getElem_cons_succ, List.getElem_cons_zero, List.setIfInBounds_toArray, List.set_cons_succ, List.set_cons_zero]
          refine wpAny_ready (rs := [5]) (by kernel_rfl) (by simp) (AllReady.cons (o := { dst := some 27, op := Op.call { callee := Callee.value (Operand.func 7), args := #[Operand.tmp 26], argTypes := #[22] }, type := 27, pos := "law.go:32", after := #[{ on := 4, ground := Ground.data }, { on := 1, ground := Ground.chain }], guard := none }) rfl (fun K hK => ?_) AllReady.nil)
          go_simp
          refine (HO2.out _ KW.out).mono ?_
          rintro e w14 ⟨rfl, kA⟩
          replace Z7 := Lib.hid (Z7.out.keeps kA (by simp))
          replace Z8 := Lib.hid (Z8.out.keeps kA (by simp))
          replace KW := Lib.hid (KW.out.trans kA)
          clear kA
          refine hK _ _ ?_
          clear hK K
          try simp only [Act.put, List.getElem_toArray, List.getElem_cons_succ, List.getElem_cons_zero, List.setIfInBounds_toArray, List.set_cons_succ, List.set_cons_zero]
          refine wpAny_ready (rs := [8]) (by kernel_rfl) (by simp) (AllReady.cons (o := { dst := none, op := Op.store 27 (Operand.tmp 7) (Operand.tmp 23), type := 0, pos := "law.go:32", after := #[{ on := 6, ground := Ground.data }, { on := 1, ground := Ground.data }, { on := 5, ground := Ground.chain }, { on := 0, ground := Ground.phase }, { on := 1, ground := Ground.phase }, { on := 2, ground := Ground.textOnly Departure.lateStores }, { on := 3, ground := Ground.textOnly Departure.lateStores }, { on := 4, ground := Ground.textOnly Departure.lateStoresUnsure }, { on := 5, ground := Ground.textOnly Departure.lateStoresUnsure }, { on := 6, ground := Ground.phase }, { on := 7, ground := Ground.phase }], guard := none }) rfl (fun K hK => ?_) AllReady.nil)
          refine step_store_all rfl 27 (.tmp 7) (.tmp 23) rfl x7 _ (s1.map bv) rfl rfl Z7.out (by simp [hls1]) (by rw [szBytes32]; simp [hls1]) (bytes_one s1) ?_
          intro w15 zA kA
          have Z8 := Lib.hid (Z8.out.keeps kA (by simp; omega))
          have Z7 := Lib.hid zA
          have KW := Lib.hid (KW.out.then kA (fun q hq => .inr (by simp at hq; omega)))
          clear kA zA
          refine hK _ _ ?_
          clear hK K
          try simp only [Act.put, List.getElem_toArray, List.getElem_cons_succ, List.getElem_cons_zero, List.setIfInBounds_toArray, List.set_cons_succ, List.set_cons_zero]
          refine wpAny_ready (rs := [9]) (by kernel_rfl) (by simp) (AllReady.cons (o := { dst := none, op := Op.store 27 (Operand.tmp 8) (Operand.tmp 27), type := 0, pos := "law.go:32", after := #[{ on := 7, ground := Ground.data }, { on := 5, ground := Ground.data }, { on := 8, ground := Ground.chain }, { on := 0, ground := Ground.phase }, { on := 1, ground := Ground.phase }, { on := 2, ground := Ground.phase }, { on := 3, ground := Ground.phase }, { on := 4, ground := Ground.phase }, { on := 5, ground := Ground.phase }, { on := 6, ground := Ground.phase }, { on := 7, ground := Ground.phase }, { on := 8, ground := Ground.phase }], guard := none }) rfl (fun K hK => ?_) AllReady.nil)
          refine step_store_all rfl 27 (.tmp 8) (.tmp 27) rfl x8 _ (s2.map bv) rfl rfl Z8.out (by simp [hls2]) (by rw [szBytes32]; simp [hls2]) (bytes_one s2) ?_
          intro w16 zA kA
          have Z7 := Lib.hid (Z7.out.keeps kA (by simp; omega))
          have Z8 := Lib.hid zA
          have KW := Lib.hid (KW.out.then kA (fun q hq => .inr (by simp at hq; omega)))
          clear kA zA
          refine hK _ _ ?_
          clear hK K
          try simp only [Act.put, List.getElem_toArray, List.getElem_cons_succ, List.getElem_cons_zero, List.setIfInBounds_toArray, List.set_cons_succ, List.set_cons_zero]
          refine wpAny_done (by kernel_rfl) ?_ _
          go_wp2_with fail
          go_meet
          exact ⟨x7, x8, rfl, rfl, hx7, hx8, hxx, Z7, Z8, KW⟩
      · go_simp
        refine hK _ _ ?_
        clear hK K
        have kA := Keeps.alloc [] w11 (.cells ((List.replicate 32 (0 : UInt8)).map bv).toArray 27)
        have zA := Whole.new w11 27 ((List.replicate 32 (0 : UInt8)).map bv)
        have hx7 := KW.out.size
        have hxx := Z8.out.lt
        replace Z8 := Lib.hid (Z8.out.keeps kA (by simp))
        replace KW := Lib.hid (KW.out.trans kA)
        have Z7 := Lib.hid zA
        clear kA zA
        change wpAny _ _ _ _ _ _ _ (w11.alloc (.cells ((List.replicate 32 (0 : UInt8)).map bv).toArray 27))
        generalize w11.alloc (.cells ((List.replicate 32 (0 : UInt8)).map bv).toArray 27) = w12 at *
        generalize w11.heap.size = x7 at *
        have hxx : x7 ≠ x8 := by omega
        try simp only [Act.put, List.getElem_toArray, List.getElem_cons_succ, List.getElem_cons_zero, List.setIfInBounds_toArray, List.set_cons_succ, List.set_cons_zero]
        refine wpAny_ready (rs := [1]) (by kernel_rfl) (by simp) (AllReady.cons (o := { dst := some 23, op := Op.call { callee := Callee.value (Operand.func 7), args := #[Operand.tmp 22], argTypes := #[22] }, type := 27, pos := "law.go:32", after := #[{ on := 0, ground := Ground.data }], guard := none }) rfl (fun K hK => ?_) AllReady.nil)
        go_simp
        refine (HO1.out _ KW.out).mono ?_
        rintro e w13 ⟨rfl, kA⟩
        replace Z7 := Lib.hid (Z7.out.keeps kA (by simp))
        replace Z8 := Lib.hid (Z8.out.keeps kA (by simp))
        replace KW := Lib.hid (KW.out.trans kA)
        clear kA
        refine hK _ _ ?_
        clear hK K
        try simp only [Act.put, List.getElem_toArray, List.getElem_cons_succ, List.getElem_cons_zero, List.setIfInBounds_toArray, List.set_cons_succ, List.set_cons_zero]
        refine wpAny_ready (rs := [5]) (by kernel_rfl) (by simp) (AllReady.cons (o := { dst := some 27, op := Op.call { callee := Callee.value (Operand.func 7), args := #[Operand.tmp 26], argTypes := #[22] }, type := 27, pos := "law.go:32", after := #[{ on := 4, ground := Ground.data }, { on := 1, ground := Ground.chain }], guard := none }) rfl (fun K hK => ?_) AllReady.nil)
        go_simp
        refine (HO2.out _ KW.out).mono ?_
        rintro e w14 ⟨rfl, kA⟩
        replace Z7 := Lib.hid (Z7.out.keeps kA (by simp))
        replace Z8 := Lib.hid (Z8.out.keeps kA (by simp))
        replace KW := Lib.hid (KW.out.trans kA)
        clear kA
        refine hK _ _ ?_
        clear hK K
        try simp only [Act.put, List.getElem_toArray, List.getElem_cons_succ, List.getElem_cons_zero, List.setIfInBounds_toArray, List.set_cons_succ, List.set_cons_zero]
        refine wpAny_ready (rs := [8]) (by kernel_rfl) (by simp) (AllReady.cons (o := { dst := none, op := Op.store 27 (Operand.tmp 7) (Operand.tmp 23), type := 0, pos := "law.go:32", after := #[{ on := 6, ground := Ground.data }, { on := 1, ground := Ground.data }, { on := 5, ground := Ground.chain }, { on := 0, ground := Ground.phase }, { on := 1, ground := Ground.phase }, { on := 2, ground := Ground.textOnly Departure.lateStores }, { on := 3, ground := Ground.textOnly Departure.lateStores }, { on := 4, ground := Ground.textOnly Departure.lateStoresUnsure }, { on := 5, ground := Ground.textOnly Departure.lateStoresUnsure }, { on := 6, ground := Ground.phase }, { on := 7, ground := Ground.phase }], guard := none }) rfl (fun K hK => ?_) AllReady.nil)
        refine step_store_all rfl 27 (.tmp 7) (.tmp 23) rfl x7 _ (s1.map bv) rfl rfl Z7.out (by simp [hls1]) (by rw [szBytes32]; simp [hls1]) (bytes_one s1) ?_
        intro w15 zA kA
        have Z8 := Lib.hid (Z8.out.keeps kA (by simp; omega))
        have Z7 := Lib.hid zA
        have KW := Lib.hid (KW.out.then kA (fun q hq => .inr (by simp at hq; omega)))
        clear kA zA
        refine hK _ _ ?_
        clear hK K
        try simp only [Act.put, List.getElem_toArray, List.getElem_cons_succ, List.getElem_cons_zero, List.setIfInBounds_toArray, List.set_cons_succ, List.set_cons_zero]
        refine wpAny_ready (rs := [9]) (by kernel_rfl) (by simp) (AllReady.cons (o := { dst := none, op := Op.store 27 (Operand.tmp 8) (Operand.tmp 27), type := 0, pos := "law.go:32", after := #[{ on := 7, ground := Ground.data }, { on := 5, ground := Ground.data }, { on := 8, ground := Ground.chain }, { on := 0, ground := Ground.phase }, { on := 1, ground := Ground.phase }, { on := 2, ground := Ground.phase }, { on := 3, ground := Ground.phase }, { on := 4, ground := Ground.phase }, { on := 5, ground := Ground.phase }, { on := 6, ground := Ground.phase }, { on := 7, ground := Ground.phase }, { on := 8, ground := Ground.phase }], guard := none }) rfl (fun K hK => ?_) AllReady.nil)
        refine step_store_all rfl 27 (.tmp 8) (.tmp 27) rfl x8 _ (s2.map bv) rfl rfl Z8.out (by simp [hls2]) (by rw [szBytes32]; simp [hls2]) (bytes_one s2) ?_
        intro w16 zA kA
        have Z7 := Lib.hid (Z7.out.keeps kA (by simp; omega))
        have Z8 := Lib.hid zA
        have KW := Lib.hid (KW.out.then kA (fun q hq => .inr (by simp at hq; omega)))
        clear kA zA
        refine hK _ _ ?_
        clear hK K
        try simp only [Act.put, List.getElem_toArray, List.getElem_cons_succ, List.getElem_cons_zero, List.setIfInBounds_toArray, List.set_cons_succ, List.set_cons_zero]
        refine wpAny_done (by kernel_rfl) ?_ _
        go_wp2_with fail
        go_meet
        exact ⟨x7, x8, rfl, rfl, hx7, hx8, hxx, Z7, Z8, KW⟩
  case rest =>
    obtain ⟨x, y, rfl, rfl, hx, hy, hxy, WX, WY, KC⟩ := hcut
    have KWC := Lib.hid (K1.out.trans KC.out)
    have RC := Lib.hid (HR.out.keeps KWC.out (by simp) (by simp))
    have FC := Lib.hid (F1.out.keeps KC.out (by simp))
    have BC := Lib.hid (HB.out.keeps KWC.out (by simp))
    have hMf : M < w1.heap.size := by omega
    have lx := WX.out.lt
    have ly := WY.out.lt
    have hzc := KC.out.size
    clear HO1 HO2 B1 C1 R1 HBK F1
    go_wp2_with fail
    refine (New_any _ RC.out).mono ?_
    rintro e w5 ⟨h, rfl, hh, hash, k5⟩
    have K5 := Lib.hid (KWC.out.trans k5)
    have R5 := Lib.hid (RC.out.keeps k5 (by simp) (by simp))
    have F5 := Lib.hid (FC.out.keeps k5 (by simp))
    have B5 := Lib.hid (BC.out.keeps k5 (by simp))
    have X5 := Lib.hid (WX.out.keeps k5 (by simp))
    have Y5 := Lib.hid (WY.out.keeps k5 (by simp))
    have H5 := Lib.hid hash
    clear k5 hash KWC RC FC BC WX WY KC
    have KD := Lib.hid (Keeps.drew [] w5)
    obtain ⟨ph, ch, hcuth, _⟩ := (F5.out.reads).head k hkl
    obtain ⟨pt, ct, hcutt, _⟩ := (F5.out.reads).tail k hkl
    have RDH := Lib.hid (fun U (hF : Row U f 5 (l.map bv) cf) => show Reads U (.slice ph (l.take k).length ch) (l.take k) f from by
      obtain ⟨p', c', e', r'⟩ := (hF.reads).head k hkl
      have := (hcuth U).symm.trans (e' U)
      simp only [Result.ok.injEq, Value.slice.injEq, and_true, true_and] at this
      obtain ⟨rfl, rfl⟩ := this
      exact r')
    have RDT := Lib.hid (fun U (hF : Row U f 5 (l.map bv) cf) => show Reads U (.slice pt (l.drop k).length ct) (l.drop k) f from by
      obtain ⟨p', c', e', r'⟩ := (hF.reads).tail k hkl
      have := (hcutt U).symm.trans (e' U)
      simp only [Result.ok.injEq, Value.slice.injEq, and_true, true_and] at this
      obtain ⟨rfl, rfl⟩ := this
      exact r')
    rw [HL2.out] at RDH hcuth
    rw [htl] at RDH hcuth
    rw [hdl] at RDT hcutt
    have hneq1 := fun w => run_neq_same w s1 hls1
    have hneq2 := fun w => run_neq_same w s2 hls2
    have heq1 := fun w => run_eql_same w s1 hls1
    have u32 := Tryd.underlying27
    have n32a : (Tryd.prog.info? 27).map (·.size) = some (s1.map bv).length := by rw [szBytes32]; simp [hls1]
    have n32b : (Tryd.prog.info? 27).map (·.size) = some (s2.map bv).length := by rw [szBytes32]; simp [hls2]
    have hfh : f ≠ h := by omega
    have hsq : 0 ≠ h := by omega
    have hcu : 1 ≠ h := by omega
    have HLL := Lib.hid (show l2 ++ l.drop k = l by rw [← HL2.out]; exact List.take_append_drop k l)
    have XR := Lib.hid (fun U (hX : Whole U x 27 (s1.map bv)) => show U.rangeAt x 0 (s1.map bv) from Whole.range (pre := []) (post := []) (by simpa using hX) 0 rfl)
    have YR := Lib.hid (fun U (hY : Whole U y 27 (s2.map bv)) => show U.rangeAt y 0 (s2.map bv) from Whole.range (pre := []) (post := []) (by simpa using hY) 0 rfl)
    have hkn : (l.drop k).length = l.length - k := hdl
    generalize hdd : l.drop k = l3 at *
    have HDD := Lib.hid hdd
    clear hdd
    have H5D := Lib.hid (H5.out.keeps KD.out (by simp))
    have F5D := Lib.hid (F5.out.keeps KD.out (by simp))
    have R5D := Lib.hid (R5.out.keeps KD.out (by simp) (by simp))
    have X5D := Lib.hid (X5.out.keeps KD.out (by simp))
    have Y5D := Lib.hid (Y5.out.keeps KD.out (by simp))
    have HW1 := Lib.hid (Write_any w5.drew h f [] l2 (.slice ph k ch) H5D.out (RDH.out _ F5D.out) hfh R5D.out hsq hcu (by simp; omega))
    have HLEN := Lib.hid (fun (U : World) (t : List UInt8) (m : Nat) (ht : HashAt U h t) (hm : t.length = m) => show Calls Tryd.prog 10 #[.pointer (some ⟨h, 0, none⟩)] U fun e w' => e = .returned (.int .i64 m) ∧ U = w' from by
      have := Len_any U h t ht
      rw [hm] at this; exact this)
    have HSUM := Lib.hid (fun (U : World) (t s : List UInt8) (ht : HashAt U h t) (hRU : Roots U) (hs : sumOf kk h0 t = s) (hm : t.length ≤ 400) => show Calls Tryd.prog 11 #[.pointer (some ⟨h, 0, none⟩)] U fun e w' => e = .returned (.agg (s.map bv).toArray) ∧ Keeps [] U w' from by
      have := Sum_any U h t ht hRU (by omega)
      rw [hs] at this; exact this)
    have hk400 : l2.length ≤ 400 := by omega
    go_upto_region 7 with (fail)
    have hS5 : w5.drew.rangeAt x 0 (s1.map bv) ∧ w5.drew.rangeAt y 0 (s2.map bv) := ⟨XR.out _ X5D.out, YR.out _ Y5D.out⟩
    refine wp_region_held_drew (S := fun w' => w'.rangeAt x 0 (s1.map bv) ∧ w'.rangeAt y 0 (s2.map bv)) (by kernel_rfl) hS5 (fun hS5' => ?_)
    refine wpAnyH_take (i := 0) (v := ?_) rfl (by kernel_rfl) (by kernel_rfl) (by kernel_rfl) (fun _ _ _ h => h) (Or.inl ⟨by rfl, by intro w hSw; clear hSw; go_simp; with_reducible rfl⟩) (by assumption) ?_
    try simp only [Act.put, List.getElem_toArray, List.getElem_cons_succ, List.getElem_cons_zero, List.setIfInBounds_toArray, List.set_cons_succ, List.set_cons_zero]
    refine wpAnyH_take (i := 1) (v := ?_) rfl (by kernel_rfl) (by kernel_rfl) (by kernel_rfl) (fun _ _ _ h => h) (Or.inl ⟨by rfl, by intro w hSw; clear hSw; go_simp; with_reducible rfl⟩) (by assumption) ?_
    try simp only [Act.put, List.getElem_toArray, List.getElem_cons_succ, List.getElem_cons_zero, List.setIfInBounds_toArray, List.set_cons_succ, List.set_cons_zero]
    refine wpAnyH_take (i := 2) (v := ?_) rfl (by kernel_rfl) (by kernel_rfl) (by kernel_rfl) (fun _ _ _ h => h) (Or.inl ⟨by rfl, by intro w hSw; clear hSw; go_simp; with_reducible rfl⟩) (by assumption) ?_
    try simp only [Act.put, List.getElem_toArray, List.getElem_cons_succ, List.getElem_cons_zero, List.setIfInBounds_toArray, List.set_cons_succ, List.set_cons_zero]
    refine wpAnyH_take (i := 3) (v := ?_) rfl (by kernel_rfl) (by kernel_rfl) (by kernel_rfl) (fun _ _ _ h => h) (Or.inl ⟨by rfl, by intro w hSw; clear hSw; go_simp; with_reducible rfl⟩) (by assumption) ?_
    try simp only [Act.put, List.getElem_toArray, List.getElem_cons_succ, List.getElem_cons_zero, List.setIfInBounds_toArray, List.set_cons_succ, List.set_cons_zero]
    try simp only [Act.put, List.getElem_toArray, List.getElem_cons_succ, List.getElem_cons_zero, List.setIfInBounds_toArray, List.set_cons_succ, List.set_cons_zero]
    refine wpAnyH_ready (rs := [4]) (by kernel_rfl) (by simp) (AllReadyH.cons (o := { dst := some 33, op := Op.call { callee := Callee.value (Operand.func 9), args := #[Operand.tmp 29, Operand.tmp 32], argTypes := #[29, 22] }, type := 31, pos := "law.go:34", after := #[{ on := 0, ground := Ground.data }, { on := 3, ground := Ground.data }], guard := none }) rfl (fun K hK => ?_) AllReadyH.nil)
    go_simp
    refine HW1.out.mono ?_
    rintro e w6 ⟨rfl, h6, k6⟩
    have H6 := Lib.hid h6
    have F6 := Lib.hid (F5D.out.keeps k6 (notMem1 hfh))
    have R6 := Lib.hid (R5D.out.keeps k6 (notMem1 hsq) (notMem1 hcu))
    have X6 := Lib.hid (X5D.out.keeps k6 (notMem1 (by omega)))
    have Y6 := Lib.hid (Y5D.out.keeps k6 (notMem1 (by omega)))
    have K6 := Lib.hid ((KD.out.mono (T := [h]) (by simp)).trans k6)
    have hS6 : w6.rangeAt x 0 (s1.map bv) ∧ w6.rangeAt y 0 (s2.map bv) := ⟨XR.out _ X6.out, YR.out _ Y6.out⟩
    clear h6 k6
    refine hK.out _ _ hS6 (fun _ => ?_)
    clear hK K
    try simp only [Act.put, List.getElem_toArray, List.getElem_cons_succ, List.getElem_cons_zero, List.setIfInBounds_toArray, List.set_cons_succ, List.set_cons_zero]
    refine wpAnyH_take (i := 5) (v := ?_) rfl (by kernel_rfl) (by kernel_rfl) (by kernel_rfl) (fun _ _ _ h => h) (Or.inl ⟨by rfl, by intro w hSw; clear hSw; go_simp; with_reducible rfl⟩) (by assumption) ?_
    try simp only [Act.put, List.getElem_toArray, List.getElem_cons_succ, List.getElem_cons_zero, List.setIfInBounds_toArray, List.set_cons_succ, List.set_cons_zero]
    refine wpAnyH_take (i := 6) (v := ?_) rfl (by kernel_rfl) (by kernel_rfl) (by kernel_rfl) (fun _ _ _ h => h) (Or.inl ⟨by rfl, by intro w hSw; clear hSw; go_simp; with_reducible rfl⟩) (by assumption) ?_
    try simp only [Act.put, List.getElem_toArray, List.getElem_cons_succ, List.getElem_cons_zero, List.setIfInBounds_toArray, List.set_cons_succ, List.set_cons_zero]
    refine wpAnyH_take (i := 7) (v := ?_) rfl (by kernel_rfl) (by kernel_rfl) (by kernel_rfl) (fun _ _ _ h => h) (Or.inl ⟨by rfl, by intro w hSw; clear hSw; go_simp; with_reducible rfl⟩) (by assumption) ?_
    try simp only [Act.put, List.getElem_toArray, List.getElem_cons_succ, List.getElem_cons_zero, List.setIfInBounds_toArray, List.set_cons_succ, List.set_cons_zero]
    refine wpAnyH_take (i := 9) (v := ?_) rfl (by kernel_rfl) (by kernel_rfl) (by kernel_rfl) (fun _ _ _ h => h) (Or.inl ⟨by rfl, by intro w hSw; clear hSw; go_simp; with_reducible rfl⟩) (by assumption) ?_
    try simp only [Act.put, List.getElem_toArray, List.getElem_cons_succ, List.getElem_cons_zero, List.setIfInBounds_toArray, List.set_cons_succ, List.set_cons_zero]
    try simp only [Act.put, List.getElem_toArray, List.getElem_cons_succ, List.getElem_cons_zero, List.setIfInBounds_toArray, List.set_cons_succ, List.set_cons_zero]
    refine wpAnyH_ready (rs := [8]) (by kernel_rfl) (by simp) (AllReadyH.cons (o := { dst := some 37, op := Op.call { callee := Callee.value (Operand.func 10), args := #[Operand.tmp 36], argTypes := #[29] }, type := 3, pos := "law.go:34", after := #[{ on := 7, ground := Ground.data }, { on := 6, ground := Ground.chain }, { on := 6, ground := Ground.guard }], guard := some (6, false) }) rfl (fun K hK => ?_) AllReadyH.nil)
    go_simp
    refine (HLEN.out w6 l2 k (by simpa using H6.out) htl).mono ?_
    rintro e w' ⟨rfl, rfl⟩
    refine hK.out _ _ hS6 (fun _ => ?_)
    clear hK K
    try simp only [Act.put, List.getElem_toArray, List.getElem_cons_succ, List.getElem_cons_zero, List.setIfInBounds_toArray, List.set_cons_succ, List.set_cons_zero]
    refine wpAnyH_take (i := 10) (v := ?_) rfl (by kernel_rfl) (by kernel_rfl) (by kernel_rfl) (fun _ _ _ h => h) (Or.inl ⟨by rfl, by intro w hSw; clear hSw; go_simp; with_reducible rfl⟩) (by assumption) ?_
    try simp only [Act.put, List.getElem_toArray, List.getElem_cons_succ, List.getElem_cons_zero, List.setIfInBounds_toArray, List.set_cons_succ, List.set_cons_zero]
    refine wpAnyH_take (i := 11) (v := ?_) rfl (by kernel_rfl) (by kernel_rfl) (by kernel_rfl) (fun _ _ _ h => h) (Or.inl ⟨by rfl, by intro w hSw; clear hSw; go_simp; with_reducible rfl⟩) (by assumption) ?_
    try simp only [Act.put, List.getElem_toArray, List.getElem_cons_succ, List.getElem_cons_zero, List.setIfInBounds_toArray, List.set_cons_succ, List.set_cons_zero]
    refine wpAnyH_take (i := 12) (v := ?_) rfl (by kernel_rfl) (by kernel_rfl) (by kernel_rfl) (fun _ _ _ h => h) (Or.inl ⟨by rfl, by intro w hSw; clear hSw; go_simp; with_reducible rfl⟩) (by assumption) ?_
    try simp only [Act.put, List.getElem_toArray, List.getElem_cons_succ, List.getElem_cons_zero, List.setIfInBounds_toArray, List.set_cons_succ, List.set_cons_zero]
    refine wpAnyH_take (i := 13) (v := ?_) rfl (by kernel_rfl) (by kernel_rfl) (by kernel_rfl) (fun _ _ _ h => h) (Or.inl ⟨by rfl, by intro w hSw; clear hSw; go_simp; with_reducible rfl⟩) (by assumption) ?_
    try simp only [Act.put, List.getElem_toArray, List.getElem_cons_succ, List.getElem_cons_zero, List.setIfInBounds_toArray, List.set_cons_succ, List.set_cons_zero]
    try simp only [Act.put, List.getElem_toArray, List.getElem_cons_succ, List.getElem_cons_zero, List.setIfInBounds_toArray, List.set_cons_succ, List.set_cons_zero]
    refine wpAnyH_take (i := 15) (v := .agg (s2.map bv).toArray) rfl (by kernel_rfl) (by kernel_rfl) (by kernel_rfl) (fun _ _ _ h => h) (yieldsIf_load_mid (by rfl) 27 (.tmp 8) rfl y 0 rfl (s2.map bv) _ (fun w h => h.2) u32 rfl n32b) (by assumption) ?_
    try simp only [Act.put, List.getElem_toArray, List.getElem_cons_succ, List.getElem_cons_zero, List.setIfInBounds_toArray, List.set_cons_succ, List.set_cons_zero]
    try simp only [Act.put, List.getElem_toArray, List.getElem_cons_succ, List.getElem_cons_zero, List.setIfInBounds_toArray, List.set_cons_succ, List.set_cons_zero]
    refine wpAnyH_ready (rs := [14]) (by kernel_rfl) (by simp) (AllReadyH.cons (o := { dst := some 43, op := Op.call { callee := Callee.value (Operand.func 11), args := #[Operand.tmp 42], argTypes := #[29] }, type := 27, pos := "law.go:34", after := #[{ on := 13, ground := Ground.data }, { on := 12, ground := Ground.chain }, { on := 12, ground := Ground.guard }], guard := some (12, false) }) rfl (fun K hK => ?_) AllReadyH.nil)
    go_simp
    refine (HSUM.out w6 l2 s2 (by simpa using H6.out) R6.out HS2.out hk400).mono ?_
    rintro e w7 ⟨rfl, k7⟩
    have H7 := Lib.hid (H6.out.keeps k7 (by simp))
    have F7 := Lib.hid (F6.out.keeps k7 (by simp))
    have R7 := Lib.hid (R6.out.keeps k7 (by simp) (by simp))
    have X7 := Lib.hid (X6.out.keeps k7 (by simp))
    have Y7 := Lib.hid (Y6.out.keeps k7 (by simp))
    have K7 := Lib.hid (K6.out.trans (k7.mono (by simp)))
    have hS7 : w7.rangeAt x 0 (s1.map bv) ∧ w7.rangeAt y 0 (s2.map bv) := ⟨XR.out _ X7.out, YR.out _ Y7.out⟩
    clear k7
    refine hK.out _ _ hS7 (fun _ => ?_)
    clear hK K
    try simp only [Act.put, List.getElem_toArray, List.getElem_cons_succ, List.getElem_cons_zero, List.setIfInBounds_toArray, List.set_cons_succ, List.set_cons_zero]
    refine wpAnyH_take (i := 16) (v := ?_) rfl (by kernel_rfl) (by kernel_rfl) (by kernel_rfl) (fun _ _ _ h => h) (Or.inl ⟨by rfl, by intro w hSw; clear hSw; go_simp; with_reducible rfl⟩) (by assumption) ?_
    try simp only [Act.put, List.getElem_toArray, List.getElem_cons_succ, List.getElem_cons_zero, List.setIfInBounds_toArray, List.set_cons_succ, List.set_cons_zero]
    refine wpAnyH_take (i := 17) (v := ?_) rfl (by kernel_rfl) (by kernel_rfl) (by kernel_rfl) (fun _ _ _ h => h) (Or.inl ⟨by rfl, by intro w hSw; clear hSw; go_simp; with_reducible rfl⟩) (by assumption) ?_
    try simp only [Act.put, List.getElem_toArray, List.getElem_cons_succ, List.getElem_cons_zero, List.setIfInBounds_toArray, List.set_cons_succ, List.set_cons_zero]
    refine wpAnyH_take (i := 18) (v := ?_) rfl (by kernel_rfl) (by kernel_rfl) (by kernel_rfl) (fun _ _ _ h => h) (Or.inl ⟨by rfl, by intro w hSw; clear hSw; go_simp; with_reducible rfl⟩) (by assumption) ?_
    try simp only [Act.put, List.getElem_toArray, List.getElem_cons_succ, List.getElem_cons_zero, List.setIfInBounds_toArray, List.set_cons_succ, List.set_cons_zero]
    refine wpAnyH_take (i := 19) (v := ?_) rfl (by kernel_rfl) (by kernel_rfl) (by kernel_rfl) (fun _ _ _ h => h) (Or.inl ⟨by rfl, by intro w hSw; clear hSw; go_simp; with_reducible rfl⟩) (by assumption) ?_
    try simp only [Act.put, List.getElem_toArray, List.getElem_cons_succ, List.getElem_cons_zero, List.setIfInBounds_toArray, List.set_cons_succ, List.set_cons_zero]
    refine wpAnyH_take (i := 20) (v := ?_) rfl (by kernel_rfl) (by kernel_rfl) (by kernel_rfl) (fun _ _ _ h => h) (Or.inl ⟨by rfl, by intro w hSw; clear hSw; go_simp; with_reducible rfl⟩) (by assumption) ?_
    try simp only [Act.put, List.getElem_toArray, List.getElem_cons_succ, List.getElem_cons_zero, List.setIfInBounds_toArray, List.set_cons_succ, List.set_cons_zero]
    refine wpAnyH_take (i := 21) (v := ?_) rfl (by kernel_rfl) (by kernel_rfl) (by kernel_rfl) (fun _ _ _ h => h) (Or.inl ⟨by rfl, by intro w hSw; clear hSw; go_simp; with_reducible rfl⟩) (by assumption) ?_
    try simp only [Act.put, List.getElem_toArray, List.getElem_cons_succ, List.getElem_cons_zero, List.setIfInBounds_toArray, List.set_cons_succ, List.set_cons_zero]
    refine wpAnyH_take (i := 22) (v := ?_) rfl (by kernel_rfl) (by kernel_rfl) (by kernel_rfl) (fun _ _ _ h => h) (Or.inl ⟨by rfl, by intro w hSw; clear hSw; go_simp; with_reducible rfl⟩) (by assumption) ?_
    try simp only [Act.put, List.getElem_toArray, List.getElem_cons_succ, List.getElem_cons_zero, List.setIfInBounds_toArray, List.set_cons_succ, List.set_cons_zero]
    try simp only [Act.put, List.getElem_toArray, List.getElem_cons_succ, List.getElem_cons_zero, List.setIfInBounds_toArray, List.set_cons_succ, List.set_cons_zero]
    refine wpAnyH_ready (rs := [23]) (by kernel_rfl) (by simp) (AllReadyH.cons (o := { dst := some 52, op := Op.call { callee := Callee.value (Operand.func 9), args := #[Operand.tmp 48, Operand.tmp 51], argTypes := #[29, 22] }, type := 31, pos := "law.go:34", after := #[{ on := 19, ground := Ground.data }, { on := 22, ground := Ground.data }, { on := 18, ground := Ground.chain }, { on := 18, ground := Ground.guard }], guard := some (18, false) }) rfl (fun K hK => ?_) AllReadyH.nil)
    go_simp
    refine (Write_any w7 h f ([] ++ l2) l3 (.slice pt (l.length - k) ct) H7.out (RDT.out _ F7.out) hfh R7.out hsq hcu (by simp; omega)).mono ?_
    rintro e w8 ⟨rfl, h8, k8⟩
    have H8 := Lib.hid (show HashAt w8 h l by rw [List.nil_append, HLL.out] at h8; exact h8)
    have F8 := Lib.hid (F7.out.keeps k8 (notMem1 hfh))
    have R8 := Lib.hid (R7.out.keeps k8 (notMem1 hsq) (notMem1 hcu))
    have X8 := Lib.hid (X7.out.keeps k8 (notMem1 (by omega)))
    have Y8 := Lib.hid (Y7.out.keeps k8 (notMem1 (by omega)))
    have K8 := Lib.hid (K7.out.trans k8)
    have hS8 : w8.rangeAt x 0 (s1.map bv) ∧ w8.rangeAt y 0 (s2.map bv) := ⟨XR.out _ X8.out, YR.out _ Y8.out⟩
    clear h8 k8
    refine hK.out _ _ hS8 (fun _ => ?_)
    clear hK K
    try simp only [Act.put, List.getElem_toArray, List.getElem_cons_succ, List.getElem_cons_zero, List.setIfInBounds_toArray, List.set_cons_succ, List.set_cons_zero]
    refine wpAnyH_take (i := 24) (v := ?_) rfl (by kernel_rfl) (by kernel_rfl) (by kernel_rfl) (fun _ _ _ h => h) (Or.inl ⟨by rfl, by intro w hSw; clear hSw; go_simp; with_reducible rfl⟩) (by assumption) ?_
    try simp only [Act.put, List.getElem_toArray, List.getElem_cons_succ, List.getElem_cons_zero, List.setIfInBounds_toArray, List.set_cons_succ, List.set_cons_zero]
    refine wpAnyH_take (i := 25) (v := ?_) rfl (by kernel_rfl) (by kernel_rfl) (by kernel_rfl) (fun _ _ _ h => h) (Or.inl ⟨by rfl, by intro w hSw; clear hSw; go_simp; with_reducible rfl⟩) (by assumption) ?_
    try simp only [Act.put, List.getElem_toArray, List.getElem_cons_succ, List.getElem_cons_zero, List.setIfInBounds_toArray, List.set_cons_succ, List.set_cons_zero]
    refine wpAnyH_take (i := 26) (v := ?_) rfl (by kernel_rfl) (by kernel_rfl) (by kernel_rfl) (fun _ _ _ h => h) (Or.inl ⟨by rfl, by intro w hSw; clear hSw; go_simp; with_reducible rfl⟩) (by assumption) ?_
    try simp only [Act.put, List.getElem_toArray, List.getElem_cons_succ, List.getElem_cons_zero, List.setIfInBounds_toArray, List.set_cons_succ, List.set_cons_zero]
    refine wpAnyH_take (i := 27) (v := ?_) rfl (by kernel_rfl) (by kernel_rfl) (by kernel_rfl) (fun _ _ _ h => h) (Or.inl ⟨by rfl, by intro w hSw; clear hSw; go_simp; with_reducible rfl⟩) (by assumption) ?_
    try simp only [Act.put, List.getElem_toArray, List.getElem_cons_succ, List.getElem_cons_zero, List.setIfInBounds_toArray, List.set_cons_succ, List.set_cons_zero]
    refine wpAnyH_take (i := 29) (v := ?_) rfl (by kernel_rfl) (by kernel_rfl) (by kernel_rfl) (fun _ _ _ h => h) (Or.inl ⟨by rfl, by intro w hSw; clear hSw; go_simp; with_reducible rfl⟩) (by assumption) ?_
    try simp only [Act.put, List.getElem_toArray, List.getElem_cons_succ, List.getElem_cons_zero, List.setIfInBounds_toArray, List.set_cons_succ, List.set_cons_zero]
    refine wpAnyH_take (i := 30) (v := ?_) rfl (by kernel_rfl) (by kernel_rfl) (by kernel_rfl) (fun _ _ _ h => h) (Or.inl ⟨by rfl, by intro w hSw; clear hSw; go_simp; with_reducible rfl⟩) (by assumption) ?_
    try simp only [Act.put, List.getElem_toArray, List.getElem_cons_succ, List.getElem_cons_zero, List.setIfInBounds_toArray, List.set_cons_succ, List.set_cons_zero]
    try simp only [Act.put, List.getElem_toArray, List.getElem_cons_succ, List.getElem_cons_zero, List.setIfInBounds_toArray, List.set_cons_succ, List.set_cons_zero]
    refine wpAnyH_ready (rs := [28]) (by kernel_rfl) (by simp) (AllReadyH.cons (o := { dst := some 57, op := Op.call { callee := Callee.value (Operand.func 10), args := #[Operand.tmp 56], argTypes := #[29] }, type := 3, pos := "law.go:34", after := #[{ on := 27, ground := Ground.data }, { on := 26, ground := Ground.chain }, { on := 26, ground := Ground.guard }], guard := some (26, false) }) rfl (fun K hK => ?_) AllReadyH.nil)
    go_simp
    refine (HLEN.out w8 l l.length H8.out rfl).mono ?_
    rintro e w' ⟨rfl, rfl⟩
    refine hK.out _ _ hS8 (fun _ => ?_)
    clear hK K
    try simp only [Act.put, List.getElem_toArray, List.getElem_cons_succ, List.getElem_cons_zero, List.setIfInBounds_toArray, List.set_cons_succ, List.set_cons_zero]
    refine wpAnyH_take (i := 31) (v := ?_) rfl (by kernel_rfl) (by kernel_rfl) (by kernel_rfl) (fun _ _ _ h => h) (Or.inl ⟨by rfl, by intro w hSw; clear hSw; go_simp; with_reducible rfl⟩) (by assumption) ?_
    try simp only [Act.put, List.getElem_toArray, List.getElem_cons_succ, List.getElem_cons_zero, List.setIfInBounds_toArray, List.set_cons_succ, List.set_cons_zero]
    refine wpAnyH_take (i := 32) (v := ?_) rfl (by kernel_rfl) (by kernel_rfl) (by kernel_rfl) (fun _ _ _ h => h) (Or.inl ⟨by rfl, by intro w hSw; clear hSw; go_simp; with_reducible rfl⟩) (by assumption) ?_
    try simp only [Act.put, List.getElem_toArray, List.getElem_cons_succ, List.getElem_cons_zero, List.setIfInBounds_toArray, List.set_cons_succ, List.set_cons_zero]
    refine wpAnyH_take (i := 33) (v := ?_) rfl (by kernel_rfl) (by kernel_rfl) (by kernel_rfl) (fun _ _ _ h => h) (Or.inl ⟨by rfl, by intro w hSw; clear hSw; go_simp; with_reducible rfl⟩) (by assumption) ?_
    try simp only [Act.put, List.getElem_toArray, List.getElem_cons_succ, List.getElem_cons_zero, List.setIfInBounds_toArray, List.set_cons_succ, List.set_cons_zero]
    refine wpAnyH_take (i := 34) (v := ?_) rfl (by kernel_rfl) (by kernel_rfl) (by kernel_rfl) (fun _ _ _ h => h) (Or.inl ⟨by rfl, by intro w hSw; clear hSw; go_simp; with_reducible rfl⟩) (by assumption) ?_
    try simp only [Act.put, List.getElem_toArray, List.getElem_cons_succ, List.getElem_cons_zero, List.setIfInBounds_toArray, List.set_cons_succ, List.set_cons_zero]
    try simp only [Act.put, List.getElem_toArray, List.getElem_cons_succ, List.getElem_cons_zero, List.setIfInBounds_toArray, List.set_cons_succ, List.set_cons_zero]
    refine wpAnyH_take (i := 36) (v := .agg (s1.map bv).toArray) rfl (by kernel_rfl) (by kernel_rfl) (by kernel_rfl) (fun _ _ _ h => h) (yieldsIf_load_mid (by rfl) 27 (.tmp 7) rfl x 0 rfl (s1.map bv) _ (fun w h => h.1) u32 rfl n32a) (by assumption) ?_
    try simp only [Act.put, List.getElem_toArray, List.getElem_cons_succ, List.getElem_cons_zero, List.setIfInBounds_toArray, List.set_cons_succ, List.set_cons_zero]
    try simp only [Act.put, List.getElem_toArray, List.getElem_cons_succ, List.getElem_cons_zero, List.setIfInBounds_toArray, List.set_cons_succ, List.set_cons_zero]
    refine wpAnyH_ready (rs := [35]) (by kernel_rfl) (by simp) (AllReadyH.cons (o := { dst := some 64, op := Op.call { callee := Callee.value (Operand.func 11), args := #[Operand.tmp 63], argTypes := #[29] }, type := 27, pos := "law.go:34", after := #[{ on := 34, ground := Ground.data }, { on := 33, ground := Ground.chain }, { on := 33, ground := Ground.guard }], guard := some (33, false) }) rfl (fun K hK => ?_) AllReadyH.nil)
    go_simp
    refine (HSUM.out w8 l s1 H8.out R8.out HS1.out hn).mono ?_
    rintro e w9 ⟨rfl, k9⟩
    have F9 := Lib.hid (F8.out.keeps k9 (by simp))
    have R9 := Lib.hid (R8.out.keeps k9 (by simp) (by simp))
    have X9 := Lib.hid (X8.out.keeps k9 (by simp))
    have Y9 := Lib.hid (Y8.out.keeps k9 (by simp))
    have K9 := Lib.hid (K8.out.trans (k9.mono (by simp)))
    have hS9 : w9.rangeAt x 0 (s1.map bv) ∧ w9.rangeAt y 0 (s2.map bv) := ⟨XR.out _ X9.out, YR.out _ Y9.out⟩
    clear k9
    refine hK.out _ _ hS9 (fun _ => ?_)
    clear hK K
    try simp only [Act.put, List.getElem_toArray, List.getElem_cons_succ, List.getElem_cons_zero, List.setIfInBounds_toArray, List.set_cons_succ, List.set_cons_zero]
    refine wpAnyH_take (i := 37) (v := ?_) rfl (by kernel_rfl) (by kernel_rfl) (by kernel_rfl) (fun _ _ _ h => h) (Or.inl ⟨by rfl, by intro w hSw; clear hSw; go_simp; with_reducible rfl⟩) (by assumption) ?_
    try simp only [Act.put, List.getElem_toArray, List.getElem_cons_succ, List.getElem_cons_zero, List.setIfInBounds_toArray, List.set_cons_succ, List.set_cons_zero]
    refine wpAnyH_take (i := 38) (v := ?_) rfl (by kernel_rfl) (by kernel_rfl) (by kernel_rfl) (fun _ _ _ h => h) (Or.inl ⟨by rfl, by intro w hSw; clear hSw; go_simp; with_reducible rfl⟩) (by assumption) ?_
    try simp only [Act.put, List.getElem_toArray, List.getElem_cons_succ, List.getElem_cons_zero, List.setIfInBounds_toArray, List.set_cons_succ, List.set_cons_zero]
    refine wpAnyH_done (by kernel_rfl) ?_ _
    have KD9 := Lib.hid (Keeps.drew [] w9)
    have F9D := Lib.hid (F9.out.keeps KD9.out (by simp))
    have R9D := Lib.hid (R9.out.keeps KD9.out (by simp) (by simp))
    have X9D := Lib.hid (X9.out.keeps KD9.out (by simp))
    have K9W := Lib.hid ((K5.out.then K9.out (T := [h]) (S := []) (fun q hq => .inr (by simp at hq; omega))).trans KD9.out)
    have HOF := Lib.hid (Of_any w9.drew (.slice (some ⟨f, 0, none⟩) l.length cf) l f F9D.out.reads F9D.out.lt R9D.out (by omega))
    rw [HS1.out] at HOF
    go_upto_region 9 with (fail)
    go_region_held3 (fun w' => w'.rangeAt x 0 (s1.map bv))
      (first
        | exact XR.out _ X9D.out
        | exact XR.out _ X10.out
        | exact XR.out _ X11.out)
      (first
        | ((with_reducible refine HOF.out.mono ?_); rintro e w10 ⟨rfl, k10⟩; have F10 := Lib.hid (F9D.out.keeps k10 (by simp)); have R10 := Lib.hid (R9D.out.keeps k10 (by simp) (by simp)); have X10 := Lib.hid (X9D.out.keeps k10 (by simp)); have K10 := Lib.hid (K9W.out.trans k10); have HIS := Lib.hid (Is_any w10 (.slice (some ⟨f, 0, none⟩) l.length cf) (.slice p l.length c) l l f M F10.out.reads (HB.out.keeps K10.out (by simp))); rw [beq_self_eq_true] at HIS; clear k10)
        | ((with_reducible refine HIS.out.mono ?_); rintro e w' ⟨rfl, rfl⟩)
        | ((with_reducible refine (awake3_any w10 R10.out).mono ?_); rintro e w11 ⟨rfl, k11⟩; have K11 := Lib.hid (K10.out.trans k11); have X11 := Lib.hid (X10.out.keeps k11 (by simp)); clear k11))
    go_wp2_with fail
    go_ret
    exact ⟨rfl, K11.out⟩

theorem ShaTells_any (w : World) (v : Value) (l : List UInt8) (M : Nat) (cut : Int) (hr : Reads w v l M) (hl : l.length ≤ maxLen) (hM : l ≠ [] → M < w.heap.size) (hc : 0 ≤ cut ∧ cut ≤ 65535) (hR : Roots w) :
    Calls Tryd.prog 3 #[v, .int .u16 cut] w fun e w' => e = .returned (.bool true) ∧ Keeps [] w w' := by
  obtain ⟨p, c, rfl, _⟩ := hr.shape
  by_cases h : 400 < l.length
  · exact ShaTells_big w p l.length c cut hR h hl
  · have hlt := hR.lt
    obtain ⟨M', hr', hM'⟩ : ∃ M', Reads w (.slice p l.length c) l M' ∧ M' < w.heap.size := by
      by_cases hn : l = []
      · subst hn; exact ⟨0, hr.anyBlock 0, by omega⟩
      · exact ⟨M, hr, hM hn⟩
    exact ShaTells_small w p c l M' cut hr' hM' hR (by omega) hc.1 hc.2
end Go.Proofs.YtlnmbfddhdjioaaDoor
