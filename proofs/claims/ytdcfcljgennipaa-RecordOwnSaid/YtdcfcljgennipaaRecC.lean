/-
  Contracts of record: parts, bytesOf, Bytes; of the library: Grow, Concat.
-/
import Derived.Test.YtdcfcljgennipaaRecB
import Derived.Laws.Rows
import Derived.Lib.AppendZeros
namespace Go.Proofs.Ytdcfcljgennipaa
open Go.RowKit

/-- Bytes in memory that is newer than a number of blocks. -/
def New (base : Nat) (w : World) (v : Value) (l : List UInt8) : Prop := ∃ M, Reads w v l M ∧ base ≤ M ∧ M < w.heap.size

theorem New.keeps {S : List Nat} {base : Nat} {w w' : World} {v : Value} {l : List UInt8} (h : New base w v l) (hk : Keeps S w w') (hS : ∀ x ∈ S, x < base ∨ w.heap.size ≤ x) : New base w' v l := by
  obtain ⟨M, hr, hb, hM⟩ := h
  exact ⟨M, hr.keeps hk (fun hm => by rcases hS M hm with h | h <;> omega), hb, by have := hk.size; omega⟩

theorem New.mono {b b' : Nat} {w : World} {v : Value} {l : List UInt8} (h : New b w v l) (hb : b' ≤ b) : New b' w v l := by
  obtain ⟨M, hr, h1, hM⟩ := h
  exact ⟨M, hr, by omega, hM⟩

theorem New.lit (w : World) (l : List UInt8) (cs : Array Value) (T : TypeId) (n : Nat) (hcs : cs = (l.map bv).toArray) (hn : n = l.length) :
    New w.heap.size (w.alloc (.cells cs T)) (.slice (some ⟨w.heap.size, 0, none⟩) n n) l :=
  ⟨_, Reads.lit w l cs T n (0, 0) hcs hn, Nat.le_refl _, by simp⟩

theorem New.owns {base n : Nat} {w : World} {v : Value} {l : List UInt8} (h : w.ownsRow base 5 1 v n (l.map bv)) (hne : l ≠ []) : New base w v l := by
  have h' := h
  obtain ⟨hl, h2⟩ := h
  rw [List.length_map, Nat.mul_one] at hl
  rcases h2 with ⟨rfl, rfl⟩ | ⟨g, cap, cur, rfl, hg0, hg, _⟩
  · obtain rfl : l = [] := List.eq_nil_of_length_eq_zero hl
    exact absurd rfl hne
  · have hr := (Row.ofOwnsAt h').reads
    rw [hl] at hr
    exact ⟨g, hr, hg0, (Array.getElem?_eq_some_iff.1 hg).1⟩

theorem New.shape {base : Nat} {w : World} {v : Value} {l : List UInt8} (h : New base w v l) : ∃ a cap, v = .slice a l.length cap ∧ l.length ≤ cap := by
  obtain ⟨M, hr, _⟩ := h; exact hr.shape

theorem built_parts (a0 a1 a2 : Option Addr) (n0 n1 n2 c0 c1 c2 : Nat) : Try.prog.built 88 [(0, .slice a0 n0 c0), (1, .slice a1 n1 c1), (2, .slice a2 n2 c2)] = some #[.slice a0 n0 c0, .slice a1 n1 c1, .slice a2 n2 c2] := by kernel_rfl

theorem parts_one (a0 a1 a2 : Option Addr) (n0 n1 n2 c0 c1 c2 : Nat) : (#[Value.slice a0 n0 c0, Value.slice a1 n1 c1, Value.slice a2 n2 c2].all fun x => x.oneCell') = true := by kernel_rfl

theorem szParts : (Try.prog.info? 88).map (·.size) = some 3 := by kernel_rfl

set_option maxRecDepth 100000 in
set_option maxHeartbeats 2000000 in
theorem parts_any (w : World) (pv : Value) (p : List UInt8) (Mp : Nat) (rp : Reads w pv p Mp) (hp : p.length ≤ 4080) :
    Calls Try.prog 55 #[pv] w fun e w' => ∃ v0 v1 v2, e = .returned (.agg #[v0, v1, v2]) ∧ New w.heap.size w' v0 (headB p.length) ∧ New w.heap.size w' v1 (bodyB p) ∧ New w.heap.size w' v2 [0, 0, 0, 0] ∧ Keeps [] w w' := by
  obtain ⟨n, hn⟩ : ∃ n, n = p.length := ⟨_, rfl⟩
  obtain ⟨pa, pc, hpv, hpcap⟩ := rp.shape
  rw [← hn] at hpcap
  have RP := Lib.hid rp
  have HN := Lib.hid hn
  rw [← hn]
  rw [← hn] at hpv
  subst hpv
  clear rp hn
  go_enter Try.func55, Try.ntmps55
  go_wp2_with fail
  generalize hV : World.alloc w _ = V
  have kV : Keeps [] w V := by rw [← hV]; exact Keeps.alloc [] _ _
  have w0 : Whole V w.heap.size 88 [.slice none 0 0, .slice none 0 0, .slice none 0 0] := by rw [← hV]; exact Whole.new w _ [_, _, _]
  have KV := Lib.hid kV
  have W0 := Lib.hid w0
  have sV := w0.lt
  have RPV := Lib.hid (RP.out.keeps kV (by simp))
  clear hV w0 kV
  refine (headOf_any _ n).mono ?_
  rintro e w1 ⟨rfl, h1⟩
  have n0 : New V.heap.size w1 (.slice (some ⟨V.heap.size, 0, none⟩) 4 4) (headB n) := by rw [← h1]; exact New.lit _ _ _ _ _ rfl rfl
  have k1 : Keeps [] V w1 := by rw [← h1]; exact Keeps.alloc [] _ _
  have N0 := Lib.hid n0
  have K1 := Lib.hid k1
  have RP1 := Lib.hid (RPV.out.keeps k1 (by simp))
  clear h1 n0 k1
  obtain ⟨M0, hr0, hb0, hM0⟩ := N0.out
  have R0 := Lib.hid hr0
  clear hr0
  go_wp2_with fail
  refine (bodyOf_any _ _ _ (headB n) p M0 Mp R0.out RP1.out (by rw [headB_length]; decide) hp (by omega)).mono ?_
  rintro e w2 ⟨v1, rfl, ho, k2⟩
  have n1 : New w1.heap.size w2 v1 (bodyB p) := New.owns (n := fillN p.length + 4) (by unfold bodyB; rw [← HN.out] at ho ⊢; exact ho) (by intro e; have := congrArg List.length e; rw [bodyB_length] at this; simp at this)
  have N1 := Lib.hid n1
  have N0' := Lib.hid (N0.out.keeps k2 (by simp))
  have KV1 := Lib.hid (KV.out.trans K1.out)
  have KV2 := Lib.hid ((KV.out.trans K1.out).trans k2)
  have W2 := Lib.hid (show ∀ o, Whole (w2.alloc o) w.heap.size 88 [.slice none 0 0, .slice none 0 0, .slice none 0 0] from fun o => ((W0.out.keeps K1.out (by simp)).keeps k2 (by simp)).keeps (Keeps.alloc [] w2 o) (by simp))
  obtain ⟨a1, c1, rfl, _⟩ := n1.shape
  have s1 := K1.out.size
  have s2 := k2.size
  clear ho k2 n1
  go_wp2_with (first | (refine wpList_build_at rfl 88 _ rfl _ (built_parts _ _ _ _ _ _ _ _ _) ?_) | (refine wpList_store_row rfl 88 _ _ rfl w.heap.size #[.slice (some ⟨V.heap.size, 0, none⟩) 4 4, .slice a1 (bodyB p).length c1, .slice (some ⟨w2.heap.size, 0, none⟩) 4 4] rfl rfl 88 #[.slice none 0 0, .slice none 0 0, .slice none 0 0] (W2.out _) (by rw [szParts]; rfl) rfl (parts_one _ _ _ _ _ _ _ _ _) ?_))
  have W3 := (W2.out (.cells #[Value.int .u8 0, Value.int .u8 0, Value.int .u8 0, Value.int .u8 0] 5)).setRow [.slice (some ⟨V.heap.size, 0, none⟩) 4 4, .slice a1 (bodyB p).length c1, .slice (some ⟨w2.heap.size, 0, none⟩) 4 4]
  have n2 := New.lit w2 [0, 0, 0, 0] #[Value.int .u8 0, Value.int .u8 0, Value.int .u8 0, Value.int .u8 0] 5 4 rfl rfl
  have kA : Keeps [] w2 (w2.alloc (.cells #[Value.int .u8 0, Value.int .u8 0, Value.int .u8 0, Value.int .u8 0] 5)) := Keeps.alloc [] _ _
  have kB : Keeps [w.heap.size] (w2.alloc (.cells #[Value.int .u8 0, Value.int .u8 0, Value.int .u8 0, Value.int .u8 0] 5)) ((w2.alloc (.cells #[Value.int .u8 0, Value.int .u8 0, Value.int .u8 0, Value.int .u8 0] 5)).setRow w.heap.size #[.slice (some ⟨V.heap.size, 0, none⟩) 4 4, .slice a1 (bodyB p).length c1, .slice (some ⟨w2.heap.size, 0, none⟩) 4 4]) := Keeps.setRow _ (by simp) _
  refine bodyPost_ret (results_cell_row Try.results55 _ _ w.heap.size 88 #[.slice (some ⟨V.heap.size, 0, none⟩) 4 4, .slice a1 (bodyB p).length c1, .slice (some ⟨w2.heap.size, 0, none⟩) 4 4] (0, 0) _ rfl W3 Try.underlying88 rfl (by rw [szParts]; rfl)) rfl ⟨_, _, _, rfl, ?_, ?_, ?_, ?_⟩
  · exact ((N0'.out.keeps kA (by simp)).keeps kB (by simp; omega)).mono (by omega)
  · exact ((N1.out.keeps kA (by simp)).keeps kB (by simp; omega)).mono (by omega)
  · exact (n2.keeps kB (by simp; omega)).mono (by omega)
  · exact (KV2.out.trans kA).then kB (by simp)

theorem zero_cells (k : Nat) : Builtin.zeroCells #[Value.int IntKind.u8 0] k = (List.replicate k (Value.int .u8 0)).toArray := by
  apply Array.ext
  · simp [Builtin.zeroCells]
  · intro i h1 h2
    simp [Builtin.zeroCells, Nat.mod_one]

set_option maxRecDepth 100000 in
set_option maxHeartbeats 1000000 in
theorem Grow_nil (w : World) (n : Nat) (h0 : 0 < n) (hn : n ≤ 100000) :
    Calls Try.prog 100 #[.slice none 0 0, .int .i64 n] w fun e w' => ∃ c, e = .returned (.slice (some ⟨w.heap.size, 0, none⟩) 0 c) ∧ w'.ownsRow w.heap.size 5 1 (.slice (some ⟨w.heap.size, 0, none⟩) 0 c) 0 [] ∧ Keeps [] w w' := by
  obtain ⟨i0, hi, hz0, hz1, hz2⟩ := info_parts infoByte
  have hG := grownCap_ge w n 0 5
  have hGm := grownCap_le_maxLen w n 0 5 (by unfold maxLen; omega)
  have hr := fun ty => Lib.run_append_nil_zeros (P := Try.prog) w 22 3 ty 5 i0 (.int .u8 0) .i64 .i64 Try.underlying22 Try.underlying3 hi hz0 n h0 (by omega) (by omega) (by rw [hz2]; omega)
  generalize grownCap w n 0 5 = g at *
  have hg63 : g ≤ 9223372036854775807 := by unfold maxLen at hGm; omega
  have hn0 : (0 : Int) < (n : Int) := by omega
  go_enter Try.func100, Try.ntmps100
  go_wp2_with (at_builtin; refine Lib.wpList_append_run _ rfl _ _ _ _ rfl _ _ rfl rfl _ _ (hr _) ?_)
  go_ret
  have hz := zero_cells
  have hw : Whole (w.alloc (.cells (Builtin.zeroCells #[Value.int IntKind.u8 0] n ++ Builtin.zeroCells #[Value.int IntKind.u8 0] (g - n)) 5)).drew w.heap.size 5 ([] ++ List.replicate g (Value.int .u8 0)) := by
    have h := Whole.new w 5 (List.replicate n (Value.int .u8 0) ++ List.replicate (g - n) (Value.int .u8 0))
    rw [List.replicate_append_replicate, show n + (g - n) = g by omega] at h
    rw [hz, hz, List.append_toArray, List.replicate_append_replicate, show n + (g - n) = g by omega]
    exact h.keeps (Keeps.drew [] _) (by simp)
  exact ⟨g, rfl, hw.owns (Nat.le_refl _) rfl (by simp) hGm, (Keeps.alloc [] w _).trans (Keeps.drew _ _)⟩

/-- Slices of bytes that lie one behind the other. -/
structure Laid (w : World) (P : Nat) (vs : List Value) (ls : List (List UInt8)) : Prop where
  len : vs.length = ls.length
  cell : ∀ (i : Nat) (u : Value), vs[i]? = some u → w.cell? ⟨P, i, none⟩ = some u
  reads : ∀ (i : Nat) (u : Value) (l : List UInt8), vs[i]? = some u → ls[i]? = some l → ∃ M, Reads w u l M ∧ M < w.heap.size
  lt : P < w.heap.size

theorem Laid.keeps {S : List Nat} {w w' : World} {P : Nat} {vs : List Value} {ls : List (List UInt8)} (h : Laid w P vs ls) (hk : Keeps S w w') (hS : ∀ x ∈ S, w.heap.size ≤ x) : Laid w' P vs ls := by
  have hn : ∀ M, M < w.heap.size → M ∉ S := fun M hM hm => by have := hS M hm; omega
  refine ⟨h.len, fun i u hu => hk.cell (h.cell i u hu) (hn _ h.lt), fun i u l hu hl => ?_, by have := hk.size; have := h.lt; omega⟩
  obtain ⟨M, hr, hM⟩ := h.reads i u l hu hl
  exact ⟨M, hr.keeps hk (hn _ hM), by have := hk.size; omega⟩

theorem flatten_take (ls : List (List UInt8)) (k : Nat) (l : List UInt8) (h : ls[k]? = some l) : (ls.take (k + 1)).flatten = (ls.take k).flatten ++ l := by
  rw [List.take_add_one, h]; simp

/-- The first k of them, one behind the other; how many bytes these have. -/
def flatL (ls : List (List UInt8)) (k : Nat) : List UInt8 := (ls.take k).flatten
def flatN (ls : List (List UInt8)) (k : Nat) : Nat := (flatL ls k).length

theorem flatL_succ (ls : List (List UInt8)) (k : Nat) (l : List UInt8) (h : ls[k]? = some l) : flatL ls (k + 1) = flatL ls k ++ l := flatten_take ls k l h
theorem flatN_succ (ls : List (List UInt8)) (k : Nat) (l : List UInt8) (h : ls[k]? = some l) : flatN ls (k + 1) = flatN ls k + l.length := by
  unfold flatN; rw [flatL_succ ls k l h, List.length_append]
theorem flatL_all (ls : List (List UInt8)) (k : Nat) (h : ls.length ≤ k) : flatL ls k = ls.flatten := by unfold flatL; rw [List.take_of_length_le h]
theorem flatN_le (ls : List (List UInt8)) (k : Nat) : flatN ls k ≤ ls.flatten.length := by
  have h : ls.flatten = (ls.take k).flatten ++ (ls.drop k).flatten := by rw [← List.flatten_append, List.take_append_drop]
  rw [h, List.length_append]; unfold flatN flatL; omega

set_option maxRecDepth 100000 in
set_option maxHeartbeats 1000000 in
theorem Concat_any (w : World) (P : Nat) (vs : List Value) (ls : List (List UInt8)) (n cap T : Nat) (hn : ls.length = n) (hL : Laid w P vs ls) (hT : ls.flatten.length = T) (h0 : 0 < T) (h1 : T ≤ 100000) (h2 : n ≤ 1000) :
    Calls Try.prog 85 #[.slice (some ⟨P, 0, none⟩) n cap] w fun e w' => ∃ v, e = .returned v ∧ w'.ownsRow w.heap.size 5 1 v T (ls.flatten.map bv) ∧ Keeps [] w w' := by
  have HN := Lib.hid hn
  have HL := Lib.hid hL
  have HT := Lib.hid hT
  have h10 : 0 ≤ (T : Int) := by omega
  clear hn hL hT
  go_enter Try.func85, Try.ntmps85
  go_wp2
  go_loop [3, 11] (fun s i => ∃ k : Nat, k ≤ n ∧ i = .int .i64 k ∧ s = .int .i64 (flatN ls k)) (fun _ i => n - (intOf i).toNat)
  case atStart => exact ⟨0, Nat.zero_le _, rfl, rfl⟩
  case round =>
    obtain ⟨k, hk, rfl, rfl⟩ := hrel
    by_cases hlt : k < n
    · obtain ⟨l, hl⟩ : ∃ l, ls[k]? = some l := ⟨_, List.getElem?_eq_getElem (by rw [HN.out]; exact hlt)⟩
      obtain ⟨u, hu⟩ : ∃ u, vs[k]? = some u := ⟨_, List.getElem?_eq_getElem (by rw [HL.out.len, HN.out]; exact hlt)⟩
      have hc := HL.out.cell k u hu
      obtain ⟨M, hr, hM⟩ := HL.out.reads k u l hu hl
      obtain ⟨a, c, rfl, hlc⟩ := hr.shape
      have hf := flatN_succ ls k l hl
      have hle := flatN_le ls (k + 1)
      have HF := Lib.hid hf
      have hb : flatN ls k + l.length ≤ 100000 := by rw [HT.out] at hle; omega
      clear hf hl hu hr hle
      generalize flatN ls k = s0 at *
      generalize l.length = l0 at *
      go_wp2
      go_round
      case rel => exact ⟨k + 1, by omega, by go_num, by rw [HF.out]; go_num⟩
      case measure => simp [intOf]; omega
    · have hkn : k = n := by omega
      subst hkn
      have hall : flatN ls k = T := by unfold flatN; rw [flatL_all ls k (by rw [HN.out]; omega), HT.out]
      rw [hall]
      clear hall hlt hk
      go_wp2_with (go_at_call 100; refine (Grow_nil _ _ h0 h1).mono ?_; rintro e w1 ⟨c, rfl, ho, k1⟩; have HO := Lib.hid ho; have K1 := Lib.hid k1; clear ho k1)
      go_loopw [6, 27] (fun v i wr => ∃ (k' : Nat) (ao : Option Addr) (cp : Nat), k' ≤ k ∧ i = .int .i64 k' ∧ v = .slice ao (flatN ls k') cp ∧ wr.ownsRow w.heap.size 5 1 (.slice ao (flatN ls k') cp) (flatL ls k').length ((flatL ls k').map bv) ∧ Keeps [] w wr) (fun _ i _ => k - (intOf i).toNat)
      case atStart => exact ⟨0, _, _, Nat.zero_le _, rfl, rfl, HO.out, K1.out⟩
      case round =>
        obtain ⟨k', ao, cp, hk, rfl, rfl, ho, kp⟩ := hrel
        have HO' := Lib.hid ho
        have KP := Lib.hid kp
        clear ho kp
        by_cases hlt : k' < k
        · obtain ⟨l, hl⟩ : ∃ l, ls[k']? = some l := ⟨_, List.getElem?_eq_getElem (by rw [HN.out]; exact hlt)⟩
          obtain ⟨u, hu⟩ : ∃ u, vs[k']? = some u := ⟨_, List.getElem?_eq_getElem (by rw [HL.out.len, HN.out]; exact hlt)⟩
          have HLr := Lib.hid (HL.out.keeps KP.out (by simp))
          have hc := HLr.out.cell k' u hu
          obtain ⟨M, hr, hM⟩ := HLr.out.reads k' u l hu hl
          have hle := flatN_le ls (k' + 1)
          rw [flatN_succ ls k' l hl, HT.out] at hle
          have HF := Lib.hid (flatL_succ ls k' l hl)
          have HFN := Lib.hid (show (flatL ls k' ++ l).length = flatN ls (k' + 1) by unfold flatN; rw [flatL_succ ls k' l hl])
          have HLE := Lib.hid (show (flatL ls k').length + l.length ≤ 1000000 by unfold flatN at hle; omega)
          obtain ⟨a, c, rfl, hlc⟩ := hr.shape
          have HR := Lib.hid hr
          have HSZ := Lib.hid KP.out.size
          clear hl hu hr hle
          go_wp2_with (at_builtin; refine wpList_append_reads rfl _ _ rfl w.heap.size (.slice ao (flatN ls k') cp) (flatL ls k') rfl HO'.out (.slice a l.length c) l M rfl HR.out HLE.out HSZ.out ?_; intro v3 w3 hown3 hk3; have HO3 := Lib.hid hown3; have HG3 := Lib.hid hk3; clear hown3 hk3)
          have KP3 := Lib.hid (KP.out.ownedK HO'.out HG3.out)
          rw [HFN.out] at HO3
          obtain ⟨ao3, cp3, rfl⟩ := owns_shape2 HO3.out
          refine ⟨⟨k' + 1, ao3, cp3, by omega, by go_num, rfl, ?_, KP3.out⟩, by simp [intOf]; omega⟩
          rw [HF.out, HFN.out]
          exact HO3.out
        · have hkn : k' = k := by omega
          subst hkn
          have hall : flatL ls k' = ls.flatten := flatL_all ls k' (by rw [HN.out]; omega)
          rw [hall, HT.out] at HO'
          clear hall hlt hk
          go_wp2
          go_ret
          exact ⟨_, rfl, HO'.out, KP.out⟩

theorem World.ownsRow.mono {w : World} {base base' : Nat} {T : TypeId} {size n : Nat} {v : Value} {xs : List Value} (h : w.ownsRow base T size v n xs) (hb : base' ≤ base) : w.ownsRow base' T size v n xs := by
  obtain ⟨hl, h2⟩ := h
  refine ⟨hl, ?_⟩
  rcases h2 with h2 | ⟨g, cap, cur, rfl, hb', hg, hr⟩
  · exact .inl h2
  · exact .inr ⟨g, cap, cur, rfl, by omega, hg, hr⟩

theorem recB_flatten (p : List UInt8) : [headB p.length, bodyB p, [0, 0, 0, 0]].flatten = recB p := by simp [recB]

theorem Laid.three {w : World} {P : Nat} {T : TypeId} {v0 v1 v2 : Value} {l0 l1 l2 : List UInt8} {b0 b1 b2 : Nat} (hw : Whole w P T [v0, v1, v2]) (h0 : New b0 w v0 l0) (h1 : New b1 w v1 l1) (h2 : New b2 w v2 l2) : Laid w P [v0, v1, v2] [l0, l1, l2] where
  len := rfl
  cell i u hu := by rw [hw.cell]; exact hu
  reads i u l hu hl := by
    match i, hu, hl with
    | 0, hu, hl => simp at hu hl; subst hu hl; obtain ⟨M, hr, _, hM⟩ := h0; exact ⟨M, hr, hM⟩
    | 1, hu, hl => simp at hu hl; subst hu hl; obtain ⟨M, hr, _, hM⟩ := h1; exact ⟨M, hr, hM⟩
    | 2, hu, hl => simp at hu hl; subst hu hl; obtain ⟨M, hr, _, hM⟩ := h2; exact ⟨M, hr, hM⟩
    | i + 3, hu, hl => simp at hu
  lt := hw.lt

set_option maxRecDepth 100000 in
set_option maxHeartbeats 2000000 in
theorem bytesOf_any (w : World) (pv : Value) (p : List UInt8) (Mp : Nat) (rp : Reads w pv p Mp) (hp : p.length ≤ 4080) :
    Calls Try.prog 56 #[pv] w fun e w' => ∃ v, e = .returned v ∧ w'.ownsRow w.heap.size 5 1 v (sizeN p.length) ((recB p).map bv) ∧ Keeps [] w w' := by
  have RP := Lib.hid rp
  clear rp
  go_enter Try.func56, Try.ntmps56
  go_wp2_with fail
  refine (parts_any _ _ p Mp RP.out hp).mono ?_
  rintro e w2 ⟨v0, v1, v2, rfl, n0, n1, n2, k2⟩
  obtain ⟨a0, c0, rfl, _⟩ := n0.shape
  obtain ⟨a1, c1, rfl, _⟩ := n1.shape
  obtain ⟨a2, c2, rfl, _⟩ := n2.shape
  have W2 := Lib.hid (show Whole (w2.alloc (.cells #[.slice none 0 0, .slice none 0 0, .slice none 0 0] 88)) w2.heap.size 88 [.slice none 0 0, .slice none 0 0, .slice none 0 0] from Whole.new w2 _ [_, _, _])
  go_upto_region 2 with (first | (refine wpList_store_row rfl 88 _ _ rfl w2.heap.size #[.slice a0 (headB p.length).length c0, .slice a1 (bodyB p).length c1, .slice a2 [0, 0, 0, (0 : UInt8)].length c2] rfl rfl 88 #[.slice none 0 0, .slice none 0 0, .slice none 0 0] W2.out (by rw [szParts]; rfl) rfl (parts_one _ _ _ _ _ _ _ _ _) ?_))
  generalize hV : World.setRow _ _ _ = V
  have kV : Keeps [] w2 V := by
    rw [← hV]
    exact (Keeps.alloc [] w2 _).then (Keeps.setRow (S := [w2.heap.size]) _ (by simp) _) (fun x hx => .inr (by simp at hx; omega))
  have wV : Whole V w2.heap.size 88 [.slice a0 (headB p.length).length c0, .slice a1 (bodyB p).length c1, .slice a2 [0, 0, 0, (0 : UInt8)].length c2] := by
    rw [← hV]; exact W2.out.setRow [_, _, _]
  have hl := Laid.three wV (n0.keeps kV (by simp)) (n1.keeps kV (by simp)) (n2.keeps kV (by simp))
  have hT : [headB p.length, bodyB p, [0, 0, 0, 0]].flatten.length = sizeN p.length := by rw [recB_flatten, recB_length]
  have hs := fillN_lt p.length
  have hC := Concat_any V w2.heap.size _ _ 3 3 (sizeN p.length) rfl hl hT (by unfold sizeN; omega) (by unfold sizeN; omega) (by omega)
  have HC := Lib.hid hC
  have KV := Lib.hid (k2.trans kV)
  clear hV hC hl hT n0 n1 n2 W2 kV wV k2
  go_wp2_with (go_at_call 85; refine HC.out.mono ?_; rintro e w3 ⟨v, rfl, ho, k3⟩)
  rw [recB_flatten] at ho
  have hs := KV.out.size
  have HO := Lib.hid (World.ownsRow.mono ho hs)
  have K3 := Lib.hid (KV.out.trans k3)
  clear ho k3
  go_wp2
  go_ret
  exact ⟨_, rfl, HO.out, K3.out⟩

set_option maxHeartbeats 1000000 in
theorem Bytes_long (w : World) (a : Option Addr) (n cap : Nat) (hn : 4080 < n) (hn2 : n ≤ 9223372036854775807) :
    Calls Try.prog 23 #[.slice a n cap] w fun e w' => e = .returned (.tuple #[.slice none 0 0, .int .i64 3]) ∧ w = w' := by
  go_enter Try.func23, Try.ntmps23
  go_wp2
  go_ret2
  exact ⟨rfl, rfl⟩

set_option maxHeartbeats 1000000 in
theorem Bytes_ok (w : World) (pv : Value) (p : List UInt8) (Mp : Nat) (rp : Reads w pv p Mp) (hp : p.length ≤ 4080) :
    Calls Try.prog 23 #[pv] w fun e w' => ∃ v, e = .returned (.tuple #[v, .int .i64 0]) ∧ w'.ownsRow w.heap.size 5 1 v (sizeN p.length) ((recB p).map bv) ∧ Keeps [] w w' := by
  have HC := Lib.hid (bytesOf_any w pv p Mp rp hp)
  obtain ⟨a, c, rfl, _⟩ := rp.shape
  clear rp
  generalize p.length = n at *
  go_enter Try.func23, Try.ntmps23
  go_wp2_with (go_at_call 56; refine HC.out.mono ?_; rintro e w3 ⟨v, rfl, ho, k3⟩; have HO := Lib.hid ho; have K3 := Lib.hid k3; clear ho k3)
  go_ret2
  exact ⟨_, rfl, HO.out, K3.out⟩
end Go.Proofs.Ytdcfcljgennipaa
