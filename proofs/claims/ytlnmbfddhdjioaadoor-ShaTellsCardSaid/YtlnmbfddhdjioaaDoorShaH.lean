/-
  Contracts of sha: rounds, after.
-/
import Derived.Test.YtlnmbfddhdjioaaDoorShaD
import Derived.Test.YtlnmbfddhdjioaaDoorShaG
import Derived.Deep.RegionWith
import Derived.Deep.RegionHeld3
import Derived.OwnWalk
namespace Go.Proofs.YtlnmbfddhdjioaaDoor
open Go.RowKit
attribute [local go_sem] Oper.semAt_some

set_option maxHeartbeats 400000 in
theorem rounds_any (w : World) (v : Array Value) :
    Calls Tryd.prog 29 #[.agg v] w fun e w' => e = .returned (.func (.func 32) #[] #[.pointer (some ⟨w.heap.size, 0, none⟩)]) ∧ w.alloc (.cells v 46) = w' := by
  go_enter Tryd.func29, Tryd.ntmps29
  go_wp2
  go_ret
  exact ⟨rfl, rfl⟩

theorem circ_zero (s : W8) : circ 0 s = tab 8 s.get ++ [.int .i64 0] := by
  unfold circ
  rw [tab_congr (g := s.get) (fun i hi => by rw [Nat.add_zero, Nat.mod_eq_of_lt hi])]
  rfl

theorem built_circle (f : Nat → BitVec 32) : Tryd.prog.built 62 [(0, .agg (tab 8 f).toArray)] = some (tab 8 f ++ [Value.int .i64 0]).toArray := by kernel_rfl

theorem wpList_build_one {P : Program} {ops : Array Oper} {rest : List Oper} {o : Oper} {a : Act} {w : World} {Q : Exit → Act → World → Prop} (hg : o.guard = none) (t : TypeId) (x : Operand) (ho : o.op = .build t #[(0, x)])
    (v : Value) (hx : a.eval x = v) (cs : Array Value) (hc : P.built t [(0, v)] = some cs) (h : wpList P ops Q rest (a.put o.dst (.agg cs)) w) : wpList P ops Q (o :: rest) a w :=
  wpList_build_at hg t _ ho cs (by simp only [List.map_toArray, List.map_cons, List.map_nil, hx]; exact hc) h

theorem Keeps.below_then {S : List Nat} {U A B : World} (h : Keeps S U A) (hb : Below U.heap.size A B) : Keeps S U B :=
  ⟨hb.os.trans h.os, hb.tape.trans h.tape, hb.output.trans h.output, Nat.le_trans h.size hb.size, fun k hk hs => (hb.block k hk).trans (h.block k hk hs)⟩

theorem szCircle : (Tryd.prog.info? 62).map (·.size) = some 9 := by kernel_rfl

theorem circ_length (t : Nat) (s : W8) : (circ t s).length = 9 := by simp [circ, tab_length]
theorem circ_one (t : Nat) (s : W8) : (circ t s).toArray.all (·.oneCell') = true := by
  rw [List.all_toArray, List.all_eq_true]
  intro u hu
  unfold circ at hu
  rcases List.mem_append.1 hu with h | h
  · exact tab_ones _ _ u h
  · simp at h; subst h; rfl

set_option maxRecDepth 100000 in
set_option maxHeartbeats 400000 in
theorem after_any (w : World) (s : W8) (xs : List UInt8) (hl : xs.length = 64) (hR : Roots w) :
    Calls Tryd.prog 26 #[.agg (tab 8 s.get).toArray, .agg (xs.map bv).toArray] w fun e w' => e = .returned (.agg (tab 8 (blk kk s (wordOf xs)).get).toArray) ∧ Keeps [] w w' := by
  have HL := Lib.hid hl
  have HR := Lib.hid hR
  clear hl hR
  refine (callsIn_wide (n := 3)).1 ?_
  refine callsIn_of_wp_marks Tryd.func26 rfl trivial ?_ rfl
  simp only [Tryd.ntmps26, List.size_toArray, List.length_cons, List.length_nil, Nat.reduceAdd, Nat.reduceSub, Array.replicate_succ, Array.replicate_zero, List.push_toArray, List.append_toArray, List.nil_append, List.cons_append]
  refine wpIn_wide.2 ?_
  go_upto_region 1 with (fail)
  generalize hV : World.alloc (World.alloc (World.alloc w _) _) _ = V
  have W0 : Whole V w.heap.size 45 (tab 8 s.get) := by
    rw [← hV]; exact ((Whole.new w 45 (tab 8 s.get)).keeps (Keeps.alloc [] _ _) (by simp)).keeps (Keeps.alloc [] _ _) (by simp)
  have W1 : Whole V (w.heap.size + 1) 46 (xs.map bv) := by
    rw [← hV]; exact (Whole.new_at (w.alloc _) 46 (xs.map bv) _ (by simp)).keeps (Keeps.alloc [] _ _) (by simp)
  have W2 : Whole V (w.heap.size + 1 + 1) 45 (tab 8 (fun _ => 0#32)) := by
    rw [← hV]; exact Whole.new_at ((w.alloc _).alloc _) _ (tab 8 (fun _ => 0#32)) _ (by simp)
  have KV : Keeps [] w V := by
    rw [← hV]; exact ((Keeps.alloc [] _ _).trans (Keeps.alloc [] _ _)).trans (Keeps.alloc [] _ _)
  have sV : w.heap.size + 1 + 1 < V.heap.size := W2.lt
  have H0 := Lib.hid W0
  have H1 := Lib.hid W1
  have H2 := Lib.hid W2
  have HK := Lib.hid KV
  clear hV W0 W1 W2 KV
  go_upto_region 2 with (first | (refine wpList_load_row rfl 45 _ rfl w.heap.size rfl 45 (tab 8 s.get).toArray (0, 0) _ H0.out Tryd.underlying45 rfl (by rw [szArr8]; simp [tab_length]) ?_) | (refine wpList_build_one rfl 62 _ rfl (.agg (tab 8 s.get).toArray) rfl (tab 8 s.get ++ [Value.int .i64 0]).toArray (built_circle s.get) ?_) | (refine wpList_store_row rfl 62 _ _ rfl V.heap.size (tab 8 s.get ++ [Value.int .i64 0]).toArray rfl rfl 62 (tab 8 (fun _ => 0#32) ++ [Value.int .i64 0]).toArray (Whole.new V _ (tab 8 (fun _ => 0#32) ++ [Value.int .i64 0])) (by rw [szCircle]; simp [tab_length]) (by simp [tab_length]) (by rw [← circ_zero]; exact circ_one _ _) ?_))
  generalize hV : World.setRow (World.alloc V _) _ _ = V2
  have C0 : Whole V2 V.heap.size 62 (circ 0 s) := by
    rw [← hV, circ_zero]; exact (Whole.new V _ (tab 8 (fun _ => 0#32) ++ [Value.int .i64 0])).setRow _
  have KV2 : Keeps [] V V2 := by
    rw [← hV]; exact (Keeps.alloc [] _ _).then (Keeps.setRow (S := [V.heap.size]) _ (by simp) _) (fun x hx => .inr (by simp at hx; omega))
  have HC := Lib.hid C0
  have H0' := Lib.hid (H0.out.keeps KV2 (by simp))
  have H1' := Lib.hid (H1.out.keeps KV2 (by simp))
  have H2' := Lib.hid (H2.out.keeps KV2 (by simp))
  have HK' := Lib.hid (HK.out.trans KV2)
  have sV2 : V.heap.size < V2.heap.size := C0.lt
  have HRV := Lib.hid (HR.out.keeps HK'.out (by simp) (by simp))
  clear hV C0 KV2 H0 H1 H2 HK
  go_wp2_with (first | (refine wpList_load_row rfl 46 _ rfl (w.heap.size + 1) rfl 46 (xs.map bv).toArray (0, 0) _ H1'.out Tryd.underlying46 rfl (by rw [szArr64b]; simp [HL.out]) ?_) | (go_at_call 29; refine (rounds_any _ _).mono ?_; rintro e w' ⟨rfl, rfl⟩))
  generalize hU : World.alloc V2 _ = U
  have BX : Whole U V2.heap.size 46 (xs.map bv) := by rw [← hU]; exact Whole.new V2 _ (xs.map bv)
  have KU : Keeps [] V2 U := by rw [← hU]; exact Keeps.alloc [] _ _
  have HBX := Lib.hid BX
  have HC' := Lib.hid (HC.out.keeps KU (by simp))
  have G0 := Lib.hid (H0'.out.keeps KU (by simp))
  have G2 := Lib.hid (H2'.out.keeps KU (by simp))
  have GK := Lib.hid (HK'.out.trans KU)
  have GR := Lib.hid (HRV.out.keeps KU (by simp) (by simp))
  have sU : V2.heap.size < U.heap.size := BX.lt
  clear hU BX KU HC H0' H1' H2' HK' HRV
  generalize V2.heap.size = bx at *
  generalize V.heap.size = bc at *
  refine (wpIn_wide (n := 3)).1 ?_
  refine wpIn_range_known (n := 3) (gf := 32) (lb := #[.pointer (some ⟨bx, 0, none⟩)]) rfl (enters_of Tryd.func32 (by kernel_rfl) rfl) (roundsFn_yields 2 U xs bx bc HL.out GR.out HBX.out (by omega)) (Keeps.refl _ _)
    (fun h k => h.trans k) (fun W l o o' _ h hc => CellsBut.put W l o o' h hc) (fun _ => rfl)
    (fun k W => Whole W bc 62 (circ k (rds kk (sch (wordOf xs)) s k)) ∧ Keeps [bc] U W) (fun _ _ => False)
    (fun k A B hb h => ⟨(hb.block _ (by omega)).trans h.1, h.2.below_then hb⟩) (fun _ _ _ _ h => h.elim) ⟨HC'.out, Keeps.refl _ _⟩
    (fun t => { tmps := #[.agg (tab 8 s.get).toArray, .agg (xs.map bv).toArray, .pointer (some ⟨w.heap.size, 0, none⟩), .pointer (some ⟨w.heap.size + 1, 0, none⟩), .pointer (some ⟨w.heap.size + 1 + 1, 0, none⟩), .pointer (some ⟨bc, 0, none⟩), uv (kk t), uv (sch (wordOf xs) t), undef, .agg (tab 8 s.get).toArray, .agg (tab 8 s.get ++ [Value.int .i64 0]).toArray, .agg (xs.map bv).toArray, .func (.func 32) #[] #[.pointer (some ⟨bx, 0, none⟩)], uv (kk t), uv (sch (wordOf xs) t), undef, undef, undef, undef, undef, undef, undef, undef, undef, undef, undef, undef, undef, undef, undef, undef, undef], defers := [] }) ?assign ?body ?done ?stop
  case assign =>
    intro l x W K hK
    simp only [enc3]
    gi_wp2
    exact hK
  case body =>
    rintro l k x W hx ⟨hc, hk⟩ hlt
    obtain ⟨hk64, rfl⟩ : k < 64 ∧ k = x := by
      have := List.getElem?_eq_some_iff.1 hx
      simpa using this
    have hCR := circRound_any W bc k (rds kk (sch (wordOf xs)) s k) (kk k) (sch (wordOf xs) k) hc
    have HCR := Lib.hid hCR
    have HK := Lib.hid hk
    clear hCR hc hx hk
    gi_wp2_with (refine ⟨trivial, ?_⟩; gi_at_call 30; refine (CallsIn.inRound l (callsIn_wide.2 HCR.out)).mono ?_; rintro e w3 ⟨⟨v, rfl⟩, h3, k3⟩)
    exact ⟨⟨k3.size, fun i o hi ho _ => k3.obj ho (by simp; omega)⟩, ⟨k3.size, fun i o hi ho _ => k3.obj ho (by simpa using hi)⟩, h3, HK.out.trans k3⟩
  case done =>
    rintro D W hD ⟨hc, hk⟩ hdef
    simp only [List.length_range] at hc
    have hD0 : W.heap[D]? = some (.deferred (some [])) := hdef
    have HB := Lib.hid (show blk kk s (wordOf xs) = s.add (rds kk (sch (wordOf xs)) s 64) from rfl)
    generalize rds kk (sch (wordOf xs)) s 64 = v at *
    have I0 := Lib.hid (G0.out.keeps hk (by simp; omega))
    have I2 := Lib.hid (G2.out.keeps hk (by simp; omega))
    have IC := Lib.hid hc
    have ID := Lib.hid hdef
    have IK := Lib.hid (GK.out.then hk (fun x hx => .inr (by simp at hx; omega)))
    clear hc hk hdef hD0
    go_wp2
    go_loopw [18] (fun i wr => ∃ k : Nat, k ≤ 8 ∧ i = .int .i64 k ∧ Whole wr w.heap.size 45 (tab 8 (fun j => if j < k then s.get j + v.get j else s.get j)) ∧ Whole wr bc 62 (circ 64 v) ∧ Whole wr (w.heap.size + 1 + 1) 45 (tab 8 (fun _ => 0#32)) ∧ wr.heap[D]? = some (.deferred (some [])) ∧ Keeps [] w wr) (fun i _ => 8 - (intOf i).toNat)
    case atStart =>
      exact ⟨0, Nat.zero_le _, rfl, by rw [tab_congr (g := s.get) (fun i hi => by simp)]; exact I0.out, IC.out, I2.out, ID.out, IK.out⟩
    case round =>
      obtain ⟨k, hk, rfl, w0, wc, w2, wd, kp⟩ := hrel
      by_cases hlt : k < 8
      · have hlt' : (k : Int) < 8 := by omega
        have c0 := (w0.cell k).trans (tab_get 8 _ k hlt)
        rw [if_neg (Nat.lt_irrefl _)] at c0
        have f0 := w0.frozen k
        have cc : wr.cell? ⟨bc, k, none⟩ = some (uv (v.get k)) := by
          have := (wc.cell _).trans (circ_get 64 k v hlt)
          rwa [show (7 * 64 % 8 + k) % 8 = k by omega] at this
        have hCA := fun w3 => circAt_any w3 bc (7 * 64 % 8) k k (by decide) hlt (by omega)
        have c8 := (wc.cell 8).trans (circ_first 64 v)
        have a1 := add32m (s.get k) (v.get k)
        have a2 := add32 (s.get k) (v.get k)
        have hset := tab_set (n := 8) (f := fun j => if j < k then s.get j + v.get j else s.get j) (g := fun j => if j < k + 1 then s.get j + v.get j else s.get j) k (s.get k + v.get k) (fun i hi => by
          by_cases e : i = k
          · subst e; rw [if_pos (by omega), if_pos rfl]
          · rw [if_neg e]
            by_cases l : i < k
            · rw [if_pos l, if_pos (by omega)]
            · rw [if_neg l, if_neg (by omega)])
        have HS := Lib.hid (fun m : Nat => hset ▸ (w0.keeps (Keeps.drewN [] wr m) (by simp)).set k (uv (s.get k + v.get k)))
        have W0 := Lib.hid w0
        have WC := Lib.hid wc
        have W2 := Lib.hid w2
        have WD := Lib.hid wd
        have KP := Lib.hid kp
        have HCA := Lib.hid hCA
        clear w0 wc w2 wd kp hset hCA
        generalize s.get k + v.get k = nv at *
        generalize s.get k = ov at *
        generalize v.get k = cv at *
        go_wp2
        refine wp_only ?_
        go_region_with (go_at_call 31; refine (HCA.out _ (by go_simp)).mono ?_; rintro e w' ⟨rfl, nn, rfl⟩)
        all_goals
          dsimp only [onlyNormal]
          go_wp2
        all_goals
          go_roundw
          case rel =>
            have kw := fun m => (Keeps.drewN [w.heap.size] wr m).trans (Keeps.setCell (S := [w.heap.size]) (wr.drewN m) (p := ⟨w.heap.size, k, none⟩) (by simp) (uv nv))
            exact ⟨k + 1, by omega, by go_num, HS.out _, WC.out.keeps (kw _) (notMem1 (by omega)), W2.out.keeps (kw _) (notMem1 (by omega)), (kw _).obj WD.out (notMem1 (by omega)), KP.out.then (kw _) (fun x hx => .inr (by simp at hx; omega))⟩
          case measure => simp [intOf]; omega
      · have hkn : k = 8 := by omega
        subst hkn
        rw [tab_congr (g := (blk kk s (wordOf xs)).get) (fun i hi => by rw [if_pos hi, HB.out, W8.add_get])] at w0
        have W0 := Lib.hid w0
        have W2 := Lib.hid w2
        have WD := Lib.hid wd
        have KP := Lib.hid kp
        clear w0 wc w2 wd kp
        go_wp2_with (first | (refine wpList_load_row rfl 45 _ rfl w.heap.size rfl 45 (tab 8 (blk kk s (wordOf xs)).get).toArray (0, 0) _ W0.out Tryd.underlying45 rfl (by rw [szArr8]; simp [tab_length]) ?_) | (refine wpList_store_row rfl 45 _ _ rfl (w.heap.size + 1 + 1) (tab 8 (blk kk s (wordOf xs)).get).toArray rfl rfl 45 (tab 8 (fun _ => 0#32)).toArray W2.out (by rw [szArr8]; simp [tab_length]) (by simp [tab_length]) (tab_one _ _) ?_))
        have hD2 : (World.setRow wr (w.heap.size + 1 + 1) (tab 8 (blk kk s (wordOf xs)).get).toArray).heap[D]? = some (.deferred (some [])) := (Keeps.setRow (S := [w.heap.size + 1 + 1]) wr (by simp) _).obj WD.out (notMem1 (by omega))
        refine ⟨by simp, .inl ⟨_, _, rfl, run_takeDeferred hD2, ?_⟩⟩
        have hWr : Whole ((World.setRow wr (w.heap.size + 1 + 1) (tab 8 (blk kk s (wordOf xs)).get).toArray).putObj D (.deferred none)) (w.heap.size + 1 + 1) 45 (tab 8 (blk kk s (wordOf xs)).get) :=
          (World.putObj_heap_other (by omega)).trans (W2.out.setRow (tab 8 (blk kk s (wordOf xs)).get))
        refine ⟨_, results_cell_row Tryd.results26 _ _ (w.heap.size + 1 + 1) 45 (tab 8 (blk kk s (wordOf xs)).get).toArray (0, 0) _ rfl hWr Tryd.underlying45 rfl (by rw [szArr8]; simp [tab_length]), rfl, ?_⟩
        exact (KP.out.then (Keeps.setRow (S := [w.heap.size + 1 + 1]) _ (by simp) _) (fun x hx => .inr (by simp at hx; omega))).below_then (below_put _ _ _ (by omega) hD2)
  case stop =>
    intro D c W _ h
    exact h.elim
end Go.Proofs.YtlnmbfddhdjioaaDoor
