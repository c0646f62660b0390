/-
  ImageNames, walked.
-/
import Derived.Test.YteaikbchbahdjaaImRows
namespace Go.Proofs.Yteaikbchbahdjaa
open Go.RowKit Go.Deep
set_option linter.unusedVariables false

theorem alike_large_small (a : List UInt8) : alikeB (a.map largeC) (a.map smallC) = true := by
  unfold alikeB
  rw [List.map_map, List.map_map, beq_iff_eq]
  exact List.map_congr_left fun c _ => by rw [Function.comp, Function.comp, small_of_large, small_small]

theorem AlikeK (w : World) (a b : List UInt8) (ha : a.length ≤ maxLen) : Calls Try.prog 13 #[str a, str b] w fun e w' => e = .returned (.bool (alikeB a b)) ∧ Keeps [] w w' :=
  (Alike_any w a b ha).mono fun e w' ⟨he, n, hn⟩ => ⟨he, by rw [hn]; exact Keeps.drewN _ _ _⟩

/-- Bytes appended to a row of one's own: the row stands where it stood, or is new. -/
theorem run_append_bb (w : World) (base : Nat) (ty : TypeId) (v : Value) (l : List UInt8) (hown : w.ownsRow base 5 1 v l.length (l.map bv))
    (u : Value) (m : List UInt8) (M : Nat) (hr : Reads w u m M) (hlen : l.length + m.length ≤ 140737488355328) (hbase : base ≤ w.heap.size) :
    ∃ v' w', (Builtin.append_ #[23, 23] ty #[v, u]).run Try.prog w = .ok v' w' ∧ w'.ownsRow base 5 1 v' (l ++ m).length ((l ++ m).map bv) ∧ Keeps v.ownBlock.toList w w' ∧
      (v'.ownBlock = v.ownBlock ∨ ∀ k, v'.ownBlock = some k → w.heap.size ≤ k) := by
  obtain ⟨i0, hi, hz0, hz1, hz2⟩ := info_parts infoByte
  rcases hr with ⟨rfl, rfl⟩ | ⟨ad, cap, rfl, hcap, hb, hc⟩
  · have := run_append_owned_none (P := Try.prog) (w := w) base 23 ty 5 i0 1 Try.underlying23 hi v l.length (l.map bv) (by rw [← hz1] at hown ⊢; exact hown)
    refine ⟨v, w, this, by rw [List.append_nil]; exact hown, Keeps.refl _ _, .inl rfl⟩
  · have hnews : ∀ j y, (m.map bv)[j]? = some y → w.cell? (ad.add j) = some y := by
      intro j y hy
      rw [List.getElem?_map] at hy
      obtain ⟨c, h1, rfl⟩ := Option.map_eq_some_iff.1 hy
      exact hc j c h1
    have main := fun b hown hbase => run_append_own (P := Try.prog) w b 23 ty 5 i0 (.int .u8 0) 1 1 Try.underlying23 hi hz0 hz1 hz2 rfl (by decide) v l.length (l.map bv) hown ad m.length cap (m.map bv) (by simp) hnews (one_bytes _) (by unfold maxLen; omega) (by omega) hbase
    have hm0 := hown
    obtain ⟨hl, h2⟩ := hm0
    rcases h2 with ⟨rfl, hl0⟩ | ⟨g, cp, cur, rfl, hbg, hg, hnc, hcm, hcs, htk⟩
    · obtain ⟨v', w', hrun, hown', hg, _⟩ := main w.heap.size ⟨hl, .inl ⟨rfl, hl0⟩⟩ (Nat.le_refl _)
      refine ⟨v', w', hrun, ?_, Keeps.grown hg (fun k hk => by cases hk), .inr fun k hk => ?_⟩
      · rw [List.length_append, List.map_append]
        refine ⟨hown'.1, ?_⟩
        rcases hown'.2 with h0 | ⟨g2, c2, cur2, hv2, hb2, r⟩
        · exact .inl h0
        · exact .inr ⟨g2, c2, cur2, hv2, by omega, r⟩
      · exact (hown'.lt k hk).1
    · obtain ⟨v', w', hrun, hown', hgr, _⟩ := main base hown hbase
      refine ⟨v', w', hrun, by rw [List.length_append, List.map_append]; exact hown', Keeps.grown hgr (fun k hk => .inl (by simp [hk])), ?_⟩
      by_cases hroom : l.length + m.length ≤ cp
      · have hfit : l.length * i0.size + (m.map bv).length ≤ cur.size := by rw [hz1, hcs]; simp; omega
        have hr2 := run_append_room (P := Try.prog) w 23 ty 5 i0 Try.underlying23 hi g l.length cp cur hg ad m.length cap (m.map bv) (by rw [hz1]; simp) hnews (one_bytes _) hroom hfit
        rw [hrun] at hr2
        injection hr2 with e1 e2
        exact .inl (by rw [e1]; rfl)
      · have holds : ∀ j u, (l.map bv)[j]? = some u → w.cell? ((⟨g, 0, none⟩ : Addr).add j) = some u := hown.cells (g := g) rfl
        have hr2 := run_append_grow (P := Try.prog) w 23 ty 5 i0 (.int .u8 0) Try.underlying23 hi hz0 ⟨g, 0, none⟩ l.length cp (l.map bv) (by rw [hz1]; simp) holds ad m.length cap (m.map bv) (by rw [hz1]; simp) hnews (by omega) (by omega) (growslice_fits (by omega) (by rw [hz2]; omega))
        rw [hrun] at hr2
        injection hr2 with e1 e2
        exact .inr fun k hk => by rw [e1] at hk; simp [Value.ownBlock] at hk; omega

theorem wpList_append_bb {ops : Array Oper} {rest : List Oper} {o : Oper} {a : Act} {w : World} {Q : Exit → Act → World → Prop} (hgd : o.guard = none) (s x : Operand)
    (ho : o.op = .call { callee := .builtin .append, args := #[s, x], argTypes := #[23, 23] }) (base : Nat) (v : Value) (l : List UInt8) (hs : a.eval s = v) (hown : w.ownsRow base 5 1 v l.length (l.map bv))
    (u : Value) (m : List UInt8) (M : Nat) (hx : a.eval x = u) (hr : Reads w u m M) (hlen : l.length + m.length ≤ 140737488355328) (hbase : base ≤ w.heap.size)
    (h : ∀ v' w', w'.ownsRow base 5 1 v' (l ++ m).length ((l ++ m).map bv) → Keeps v.ownBlock.toList w w' → (v'.ownBlock = v.ownBlock ∨ ∀ k, v'.ownBlock = some k → w.heap.size ≤ k) → wpList Try.prog ops Q rest (a.put o.dst v') w') : wpList Try.prog ops Q (o :: rest) a w := by
  obtain ⟨v', w', hrun, h1, h2, h3⟩ := run_append_bb w base o.type v l hown u m M hr hlen hbase
  refine wpList_plain hgd fun K hK => ?_
  unfold Oper.wp
  simp [execOp, ho, resolve, invoke, builtin, hs, hx, hrun, Result.andThen]
  exact hK _ _ (h v' w' h1 h2 h3)

theorem rows_mid {w wr w4 : World} {vl vs : Value} {P2 : List UInt8} (o1 : Obj) (h2 : wr.ownsRow w.heap.size 5 1 vs P2.length (P2.map bv)) (hd : ∀ x, vl.ownBlock = some x → vs.ownBlock ≠ some x) (hk4 : Keeps vl.ownBlock.toList (wr.alloc o1) w4) :
    w4.ownsRow w.heap.size 5 1 vs P2.length (P2.map bv) :=
  World.ownsRow.keeps (World.ownsRow.keeps h2 (Keeps.alloc [] wr o1) (fun _ _ => List.not_mem_nil)) hk4 (fun g hg hm => hd g (by simpa using hm) hg)

theorem rows_step {w wr w4 w5 : World} {vl vs v4 v5 : Value} {P1 P2 Q1 : List UInt8} (o1 o2 : Obj) (h1 : wr.ownsRow w.heap.size 5 1 vl P1.length (P1.map bv)) (h2 : wr.ownsRow w.heap.size 5 1 vs P2.length (P2.map bv))
    (hd : ∀ x, vl.ownBlock = some x → vs.ownBlock ≠ some x) (hb : Below w.heap.size w wr) (h4 : w4.ownsRow w.heap.size 5 1 v4 Q1.length (Q1.map bv)) (hk4 : Keeps vl.ownBlock.toList (wr.alloc o1) w4)
    (hn4 : v4.ownBlock = vl.ownBlock ∨ ∀ k, v4.ownBlock = some k → (wr.alloc o1).heap.size ≤ k) (hk5 : Keeps vs.ownBlock.toList (w4.alloc o2) w5) (hn5 : v5.ownBlock = vs.ownBlock ∨ ∀ k, v5.ownBlock = some k → (w4.alloc o2).heap.size ≤ k) :
    w5.ownsRow w.heap.size 5 1 v4 Q1.length (Q1.map bv) ∧ (∀ x, v4.ownBlock = some x → v5.ownBlock ≠ some x) ∧ Below w.heap.size w w5 := by
  have hne : ∀ x, v4.ownBlock = some x → vs.ownBlock ≠ some x := by
    intro x hx hs
    rcases hn4 with h | h
    · rw [h] at hx; exact hd x hx hs
    · have := h x hx
      have := (h2.lt x hs).2
      simp at *; omega
  have h2m := rows_mid o1 h2 hd hk4
  refine ⟨World.ownsRow.keeps (World.ownsRow.keeps h4 (Keeps.alloc [] w4 o2) (fun _ _ => List.not_mem_nil)) hk5 (fun g hg hm => hne g hg (by simpa using hm)), ?_, ?_⟩
  · intro x hx h5
    rcases hn5 with h | h
    · rw [h] at h5; exact hne x hx h5
    · have := h x h5
      have := (h4.lt x hx).2
      simp at *; omega
  · have b4 := below_owned (below_keeps hb (Keeps.alloc [] wr o1) (Nat.le_refl _)) (World.ownsRow.keeps h1 (Keeps.alloc [] wr o1) (fun _ _ => List.not_mem_nil)) hk4 (Nat.le_refl _)
    exact below_owned (below_keeps b4 (Keeps.alloc [] w4 o2) (Nat.le_refl _)) (World.ownsRow.keeps h2m (Keeps.alloc [] w4 o2) (fun _ _ => List.not_mem_nil)) hk5 (Nat.le_refl _)

set_option maxRecDepth 100000 in
set_option maxHeartbeats 2000000 in
theorem ImageNames_long (w : World) (a : Option Addr) (n cap : Nat) (s t : ByteArray) (hn : 30 < n) : Calls Try.prog 6 #[.slice a n cap, .string s, .string t] w fun e w' => e = .returned (.bool true) ∧ Keeps [] w w' := by
  have hn' : (30 : Int) < (n : Int) := by omega
  go_enter Try.func6, Try.ntmps6
  go_wp2_with (go_at_call 8; refine (awake10_any _).mono ?_; rintro e w' ⟨rfl, hk⟩)
  go_ret
  exact ⟨rfl, hk⟩

set_option maxRecDepth 100000 in
set_option maxHeartbeats 4000000 in
theorem ImageNames_any (w : World) (P : Nat → Prop) (v : Value) (l : List Wd) (h : WordsIn w P v l) (a b : List UInt8) (ha : a.length ≤ 140737488351232) (hb : b.length ≤ maxLen) :
    Calls Try.prog 6 #[v, str a, str b] w fun e w' => e = .returned (.bool true) ∧ Keeps [] w w' := by
  have ham : a.length ≤ maxLen := by unfold maxLen; omega
  by_cases hlen : 30 < l.length
  · obtain ⟨ao, cap, rfl, _⟩ := h.shape
    exact ImageNames_long w ao l.length cap _ _ hlen
  obtain ⟨at', hat⟩ : ∃ z, z = findI l a := ⟨_, rfl⟩
  have HAT := Lib.hid hat
  have HF := Lib.hid fun (W : World) (hk : Keeps [] w W) (nm : List UInt8) (hnm : alikeB nm a = true) => Find_any W P v l (h.next hk) nm at' (by rw [hat]; exact find_alike hnm l)
  have HAB := Lib.hid fun (W : World) => AlikeK W a b ham
  have HBA := Lib.hid fun (W : World) => AlikeK W b a hb
  have HAA := Lib.hid fun (W : World) => AlikeK W a a ham
  have HSY := Lib.hid (alike_symm a b)
  have HRF := Lib.hid (alike_refl a)
  have HAI := Lib.hid (lastI_is l a l.length)
  have HLT := Lib.hid (lastI_lt l a l.length)
  have HHIT := Lib.hid fun i x hx hi ha => lastI_hit l a l.length i x hx hi ha
  have HW := Lib.hid h
  have HSZ := Lib.hid (str_size a)
  have HIX := Lib.hid fun (w : World) (k : Nat) (c : UInt8) => run_str_at w a k c
  have HALL := Lib.hid (List.take_length (l := a))
  have HFa := Lib.hid fun (W : World) (hk : Keeps [] w W) => HF.out W hk a (alike_refl a)
  have HFb := Lib.hid fun (hq : alikeB a b = true) (W : World) (hk : Keeps [] w W) => HF.out W hk b (by rw [← alike_symm]; exact hq)
  have HFL := Lib.hid fun (W : World) (hk : Keeps [] w W) => HF.out W hk (a.map largeC) (alike_large_map a)
  have HFS := Lib.hid fun (W : World) (hk : Keeps [] w W) => HF.out W hk (a.map smallC) (alike_small_map a)
  have HLS := Lib.hid fun (W : World) => AlikeK W (a.map largeC) (a.map smallC) (by rw [List.length_map]; exact ham)
  rw [alike_large_small a] at HLS
  have HAN := Lib.hid fun (W : World) (x : Wd) (hx : x.name.length ≤ maxLen) => AlikeK W x.name a hx
  rw [← HSY.out] at HBA
  rw [HRF.out] at HAA
  obtain ⟨n, hn⟩ : ∃ n, n = a.length := ⟨_, rfl⟩
  obtain ⟨m, hm⟩ : ∃ m, m = l.length := ⟨_, rfl⟩
  obtain ⟨ao, cap, hv, hcap, _⟩ := h.shape
  rw [← hm] at hv hcap hlen
  rw [← hn] at ha HSZ
  subst hv
  have HNN := Lib.hid hn
  have HMM := Lib.hid hm
  have hlen' : ¬ (30 : Int) < (m : Int) := by omega
  have hsa := HSZ.out
  have hat1 : -1 ≤ at' ∧ at' < (m : Int) := by rw [hat, hm]; exact HLT.out
  unfold str at HF HAB HBA HAA HFa HFb HFL HFS HLS ⊢
  unfold str at HAN
  generalize hA : ByteArray.mk a.toArray = sa at *
  generalize ByteArray.mk b.toArray = sb at *
  have HSA := Lib.hid hA
  clear hA h hat hn hm HF HSY HRF HLT HSZ ham hb
  go_enter Try.func6, Try.ntmps6
  cases hq : alikeB a b with
  | true =>
    have HFB := Lib.hid (HFb.out hq)
    rw [hq] at HAB HBA
    clear hq HFb
    go_upto_region 6 with (first
      | (go_at_call_of 20 (#[Value.slice ao m cap, Value.string sa]); refine (HFa.out _ (Keeps.refl _ _)).mono ?_; rintro e w1 ⟨rfl, hk1⟩; have K1 := Lib.hid hk1; clear hk1)
      | (go_at_call_of 20 (#[Value.slice ao m cap, Value.string sb]); refine (HFB.out _ K5.out).mono ?_; rintro e w6 ⟨rfl, hk6⟩; have K6 := Lib.hid (K5.out.trans hk6); clear hk6)
      | (go_at_call_of 13 (#[Value.string sa, Value.string sa]); refine (HAA.out _).mono ?_; rintro e w4 ⟨rfl, hk4⟩; have K4 := Lib.hid (K3.out.trans hk4); clear hk4)
      | (go_at_call_of 13 (#[Value.string sa, Value.string sb]); refine (HAB.out _).mono ?_; rintro e w2 ⟨rfl, hk2⟩; first | (have K5 := Lib.hid (K4.out.trans hk2); clear hk2) | (have K2 := Lib.hid (K1.out.trans hk2); clear hk2))
      | (go_at_call_of 13 (#[Value.string sb, Value.string sa]); refine (HBA.out _).mono ?_; rintro e w3 ⟨rfl, hk3⟩; have K3 := Lib.hid (K2.out.trans hk3); clear hk3))
    clear HFB HFa HAA
    have K6' := Lib.hid K6.out.below
    clear HAB HBA
    go_wp2
    go_loopw [8, 9, 10, 11, 12, 13, 50] (fun lg sm _ _ _ _ i wr => ∃ (k : Nat) (vl vs : Value), k ≤ n ∧ vl = lg ∧ vs = sm ∧ i = .int .i64 k ∧ wr.ownsRow w.heap.size 5 1 vl ((a.take k).map largeC).length (((a.take k).map largeC).map bv) ∧ wr.ownsRow w.heap.size 5 1 vs ((a.take k).map smallC).length (((a.take k).map smallC).map bv) ∧ (∀ x, vl.ownBlock = some x → vs.ownBlock ≠ some x) ∧ Below w.heap.size w wr) (fun _ _ _ _ _ _ i _ => n - (intOf i).toNat)
    case atStart => exact ⟨0, _, _, Nat.zero_le _, rfl, rfl, rfl, World.ownsRow_nil _ _ _ _, World.ownsRow_nil _ _ _ _, (fun x hx => by cases hx), K6'.out⟩
    case round =>
      obtain ⟨k, vl, vs, hk, rfl, rfl, rfl, ho1, ho2, hd, hb⟩ := hrel
      have HO1 := Lib.hid ho1
      have HO2 := Lib.hid ho2
      have HD := Lib.hid hd
      have HB := Lib.hid hb
      have hws := hb.size
      clear ho1 ho2 hd hb
      by_cases hlt : k < n
      · obtain ⟨c, hc⟩ : ∃ c, a[k]? = some c := ⟨_, List.getElem?_eq_getElem (by have := HNN.out; omega)⟩
        have ix := fun w => HIX.out w k c hc
        have HT1 := Lib.hid (take_map_succ largeC a k c hc)
        have HT2 := Lib.hid (take_map_succ smallC a k c hc)
        have HL1 := Lib.hid (show ((a.take k).map largeC).length = k by rw [List.length_map, List.length_take]; have := HNN.out; omega)
        have HL2 := Lib.hid (show ((a.take k).map smallC).length = k by rw [List.length_map, List.length_take]; have := HNN.out; omega)
        have hlg := large_nat c
        have hsm := small_nat c
        have hc2 := c.toNat_lt
        have u1 : IntKind.u8.wrap ((largeC c).toNat : Int) = ((largeC c).toNat : Int) := IntWalk.u8_in _ (by have := (largeC c).toNat_lt; omega)
        have u2 : ((largeC c).toNat : Int) % 256 = ((largeC c).toNat : Int) := by have := (largeC c).toNat_lt; omega
        have d1 : IntKind.u8.wrap ((smallC c).toNat : Int) = ((smallC c).toNat : Int) := IntWalk.u8_in _ (by have := (smallC c).toNat_lt; omega)
        have d2 : ((smallC c).toNat : Int) % 256 = ((smallC c).toNat : Int) := by have := (smallC c).toNat_lt; omega
        generalize hP1 : (a.take k).map largeC = P1 at *
        generalize hP2 : (a.take k).map smallC = P2 at *
        have HP1 := Lib.hid hP1
        have HP2 := Lib.hid hP2
        clear hc hP1 hP2
        unfold bv at ix
        generalize hC1 : largeC c = c1 at *
        generalize hC2 : smallC c = c2 at *
        have HC1 := Lib.hid hC1
        have HC2 := Lib.hid hC2
        clear hC1 hC2
        generalize c.toNat = x at *
        by_cases g1 : 97 ≤ x ∧ x ≤ 122
        · rw [if_pos g1] at hlg
          rw [if_neg (by omega)] at hsm
          subst hsm
          have t1 : (97 : Int) ≤ (c2.toNat : Int) := by omega
          have t2 : (c2.toNat : Int) ≤ 122 := by omega
          have t3 : (65 : Int) ≤ (c2.toNat : Int) := by omega
          have t4 : ¬ (c2.toNat : Int) ≤ 90 := by omega
          have t5 : (c2.toNat : Int) - 32 = (c1.toNat : Int) := by omega
          clear hlg g1
          go_wp2_with (first
            | (at_builtin; refine wpList_append_bb rfl _ _ rfl w.heap.size vs P2 rfl (World.ownsRow.keeps HS4.out (Keeps.alloc [] _ _) (fun _ _ => List.not_mem_nil)) _ [c2] w4.heap.size rfl (Reads.lit w4 [c2] _ 5 1 (0, 0) rfl rfl) (by rw [HL2.out]; simp; omega) (by have := HZ4.out; simp; omega) ?_; intro v5 w5 ho5 hk5 hn5; have HO5 := Lib.hid ho5; have HK5 := Lib.hid hk5; have HN5 := Lib.hid hn5; clear ho5 hk5 hn5)
            | (at_builtin; refine wpList_append_bb rfl _ _ rfl w.heap.size vl P1 rfl (World.ownsRow.keeps HO1.out (Keeps.alloc [] _ _) (fun _ _ => List.not_mem_nil)) _ [c1] wr.heap.size rfl (Reads.lit wr [c1] _ 5 1 (0, 0) rfl rfl) (by rw [HL1.out]; simp; omega) (by simp; omega) ?_; intro v4 w4 ho4 hk4 hn4; have HO4 := Lib.hid ho4; have HK4 := Lib.hid hk4; have HN4 := Lib.hid hn4; have HS4 := Lib.hid (rows_mid _ HO2.out HD.out hk4); have HZ4 := Lib.hid (show w.heap.size ≤ w4.heap.size from by have := hk4.size; simp at this; omega); clear ho4 hk4 hn4))
          have HST := rows_step _ _ HO1.out HO2.out HD.out HB.out HO4.out HK4.out HN4.out HK5.out HN5.out
          go_roundw
          case rel => exact ⟨k + 1, v4, v5, by omega, rfl, rfl, by go_num, by rw [HT1.out]; exact HST.1, by rw [HT2.out]; exact HO5.out, HST.2.1, HST.2.2⟩
          case measure => simp [intOf]; omega
        by_cases g2 : 65 ≤ x ∧ x ≤ 90
        · rw [if_neg g1] at hlg
          rw [if_pos g2] at hsm
          subst hlg
          have t1 : ¬ (97 : Int) ≤ (c1.toNat : Int) := by omega
          have t3 : (65 : Int) ≤ (c1.toNat : Int) := by omega
          have t4 : (c1.toNat : Int) ≤ 90 := by omega
          have t5 : (c1.toNat : Int) + 32 = (c2.toNat : Int) := by omega
          clear hsm g1 g2
          go_wp2_with (first
            | (at_builtin; refine wpList_append_bb rfl _ _ rfl w.heap.size vs P2 rfl (World.ownsRow.keeps HS4.out (Keeps.alloc [] _ _) (fun _ _ => List.not_mem_nil)) _ [c2] w4.heap.size rfl (Reads.lit w4 [c2] _ 5 1 (0, 0) rfl rfl) (by rw [HL2.out]; simp; omega) (by have := HZ4.out; simp; omega) ?_; intro v5 w5 ho5 hk5 hn5; have HO5 := Lib.hid ho5; have HK5 := Lib.hid hk5; have HN5 := Lib.hid hn5; clear ho5 hk5 hn5)
            | (at_builtin; refine wpList_append_bb rfl _ _ rfl w.heap.size vl P1 rfl (World.ownsRow.keeps HO1.out (Keeps.alloc [] _ _) (fun _ _ => List.not_mem_nil)) _ [c1] wr.heap.size rfl (Reads.lit wr [c1] _ 5 1 (0, 0) rfl rfl) (by rw [HL1.out]; simp; omega) (by simp; omega) ?_; intro v4 w4 ho4 hk4 hn4; have HO4 := Lib.hid ho4; have HK4 := Lib.hid hk4; have HN4 := Lib.hid hn4; have HS4 := Lib.hid (rows_mid _ HO2.out HD.out hk4); have HZ4 := Lib.hid (show w.heap.size ≤ w4.heap.size from by have := hk4.size; simp at this; omega); clear ho4 hk4 hn4))
          have HST := rows_step _ _ HO1.out HO2.out HD.out HB.out HO4.out HK4.out HN4.out HK5.out HN5.out
          go_roundw
          case rel => exact ⟨k + 1, v4, v5, by omega, rfl, rfl, by go_num, by rw [HT1.out]; exact HST.1, by rw [HT2.out]; exact HO5.out, HST.2.1, HST.2.2⟩
          case measure => simp [intOf]; omega
        rw [if_neg g1] at hlg
        rw [if_neg g2] at hsm
        have hcc : c2 = c1 := UInt8.toNat_inj.1 (by omega)
        subst hcc
        subst hlg
        have HG1 := Lib.hid g1
        have HG2 := Lib.hid g2
        clear hsm g1 g2
        by_cases t1 : (97 : Int) ≤ (c2.toNat : Int)
        · have t2 : ¬ (c2.toNat : Int) ≤ 122 := by have := HG1.out; omega
          have t3 : (65 : Int) ≤ (c2.toNat : Int) := by omega
          have t4 : ¬ (c2.toNat : Int) ≤ 90 := by omega
          go_wp2_with (first
            | (at_builtin; refine wpList_append_bb rfl _ _ rfl w.heap.size vs P2 rfl (World.ownsRow.keeps HS4.out (Keeps.alloc [] _ _) (fun _ _ => List.not_mem_nil)) _ [c2] w4.heap.size rfl (Reads.lit w4 [c2] _ 5 1 (0, 0) rfl rfl) (by rw [HL2.out]; simp; omega) (by have := HZ4.out; simp; omega) ?_; intro v5 w5 ho5 hk5 hn5; have HO5 := Lib.hid ho5; have HK5 := Lib.hid hk5; have HN5 := Lib.hid hn5; clear ho5 hk5 hn5)
            | (at_builtin; refine wpList_append_bb rfl _ _ rfl w.heap.size vl P1 rfl (World.ownsRow.keeps HO1.out (Keeps.alloc [] _ _) (fun _ _ => List.not_mem_nil)) _ [c2] wr.heap.size rfl (Reads.lit wr [c2] _ 5 1 (0, 0) rfl rfl) (by rw [HL1.out]; simp; omega) (by simp; omega) ?_; intro v4 w4 ho4 hk4 hn4; have HO4 := Lib.hid ho4; have HK4 := Lib.hid hk4; have HN4 := Lib.hid hn4; have HS4 := Lib.hid (rows_mid _ HO2.out HD.out hk4); have HZ4 := Lib.hid (show w.heap.size ≤ w4.heap.size from by have := hk4.size; simp at this; omega); clear ho4 hk4 hn4))
          have HST := rows_step _ _ HO1.out HO2.out HD.out HB.out HO4.out HK4.out HN4.out HK5.out HN5.out
          go_roundw
          case rel => exact ⟨k + 1, v4, v5, by omega, rfl, rfl, by go_num, by rw [HT1.out]; exact HST.1, by rw [HT2.out]; exact HO5.out, HST.2.1, HST.2.2⟩
          case measure => simp [intOf]; omega
        by_cases t3 : (65 : Int) ≤ (c2.toNat : Int)
        · have t4 : ¬ (c2.toNat : Int) ≤ 90 := by have := HG2.out; omega
          go_wp2_with (first
            | (at_builtin; refine wpList_append_bb rfl _ _ rfl w.heap.size vs P2 rfl (World.ownsRow.keeps HS4.out (Keeps.alloc [] _ _) (fun _ _ => List.not_mem_nil)) _ [c2] w4.heap.size rfl (Reads.lit w4 [c2] _ 5 1 (0, 0) rfl rfl) (by rw [HL2.out]; simp; omega) (by have := HZ4.out; simp; omega) ?_; intro v5 w5 ho5 hk5 hn5; have HO5 := Lib.hid ho5; have HK5 := Lib.hid hk5; have HN5 := Lib.hid hn5; clear ho5 hk5 hn5)
            | (at_builtin; refine wpList_append_bb rfl _ _ rfl w.heap.size vl P1 rfl (World.ownsRow.keeps HO1.out (Keeps.alloc [] _ _) (fun _ _ => List.not_mem_nil)) _ [c2] wr.heap.size rfl (Reads.lit wr [c2] _ 5 1 (0, 0) rfl rfl) (by rw [HL1.out]; simp; omega) (by simp; omega) ?_; intro v4 w4 ho4 hk4 hn4; have HO4 := Lib.hid ho4; have HK4 := Lib.hid hk4; have HN4 := Lib.hid hn4; have HS4 := Lib.hid (rows_mid _ HO2.out HD.out hk4); have HZ4 := Lib.hid (show w.heap.size ≤ w4.heap.size from by have := hk4.size; simp at this; omega); clear ho4 hk4 hn4))
          have HST := rows_step _ _ HO1.out HO2.out HD.out HB.out HO4.out HK4.out HN4.out HK5.out HN5.out
          go_roundw
          case rel => exact ⟨k + 1, v4, v5, by omega, rfl, rfl, by go_num, by rw [HT1.out]; exact HST.1, by rw [HT2.out]; exact HO5.out, HST.2.1, HST.2.2⟩
          case measure => simp [intOf]; omega
        · go_wp2_with (first
            | (at_builtin; refine wpList_append_bb rfl _ _ rfl w.heap.size vs P2 rfl (World.ownsRow.keeps HS4.out (Keeps.alloc [] _ _) (fun _ _ => List.not_mem_nil)) _ [c2] w4.heap.size rfl (Reads.lit w4 [c2] _ 5 1 (0, 0) rfl rfl) (by rw [HL2.out]; simp; omega) (by have := HZ4.out; simp; omega) ?_; intro v5 w5 ho5 hk5 hn5; have HO5 := Lib.hid ho5; have HK5 := Lib.hid hk5; have HN5 := Lib.hid hn5; clear ho5 hk5 hn5)
            | (at_builtin; refine wpList_append_bb rfl _ _ rfl w.heap.size vl P1 rfl (World.ownsRow.keeps HO1.out (Keeps.alloc [] _ _) (fun _ _ => List.not_mem_nil)) _ [c2] wr.heap.size rfl (Reads.lit wr [c2] _ 5 1 (0, 0) rfl rfl) (by rw [HL1.out]; simp; omega) (by simp; omega) ?_; intro v4 w4 ho4 hk4 hn4; have HO4 := Lib.hid ho4; have HK4 := Lib.hid hk4; have HN4 := Lib.hid hn4; have HS4 := Lib.hid (rows_mid _ HO2.out HD.out hk4); have HZ4 := Lib.hid (show w.heap.size ≤ w4.heap.size from by have := hk4.size; simp at this; omega); clear ho4 hk4 hn4))
          have HST := rows_step _ _ HO1.out HO2.out HD.out HB.out HO4.out HK4.out HN4.out HK5.out HN5.out
          go_roundw
          case rel => exact ⟨k + 1, v4, v5, by omega, rfl, rfl, by go_num, by rw [HT1.out]; exact HST.1, by rw [HT2.out]; exact HO5.out, HST.2.1, HST.2.2⟩
          case measure => simp [intOf]; omega
      · have hkn : k = n := by omega
        have et : a.take k = a := by rw [hkn, HNN.out]; exact HALL.out
        subst hkn
        rw [et] at HO1 HO2
        obtain ⟨M1, hr1, _⟩ := owns_reads2 HO1.out
        obtain ⟨M2, hr2, _⟩ := owns_reads2 HO2.out
        have HC1 := Lib.hid fun (W : World) (hk : Keeps [] wr W) => conv_reads (hr1.keeps hk (by simp))
        have HC2 := Lib.hid fun (W : World) (hk : Keeps [] wr W) => conv_reads (hr2.keeps hk (by simp))
        have KR := Lib.hid (show Keeps [] w wr from Keeps.ofBelow HB.out)
        clear et hr1 hr2 HO1 HO2 HD HB
        generalize ByteArray.mk (a.map largeC).toArray = S1 at *
        generalize ByteArray.mk (a.map smallC).toArray = S2 at *
        have cv1 := HC1.out wr (Keeps.refl _ _)
        go_upto_region 20 with (first
          | (go_at_call_of 20 (#[Value.slice ao m cap, Value.string S1]); refine (HFL.out _ KR.out).mono ?_; rintro e w7 ⟨rfl, hk7⟩; have K7 := Lib.hid hk7; have cv2 := HC2.out _ hk7; clear hk7)
          | (go_at_call_of 20 (#[Value.slice ao m cap, Value.string S2]); refine (HFS.out _ (KR.out.trans K7.out)).mono ?_; rintro e w8 ⟨rfl, hk8⟩; have K8 := Lib.hid (K7.out.trans hk8); have cv3 := HC1.out _ K8.out; have cv4 := HC2.out _ K8.out; clear hk8)
          | (go_at_call_of 13 (#[Value.string S1, Value.string S2]); refine (HLS.out _).mono ?_; rintro e w9 ⟨rfl, hk9⟩; have K9 := Lib.hid (KR.out.trans (K8.out.trans hk9)); clear hk9))
        clear HC1 HC2 HFL HFS HLS K7 K8 KR hws hsa cv1 cv2 cv3 cv4
        go_wp2
        go_loopw [14, 15, 107] (fun _ _ i wr => ∃ j : Nat, j ≤ m ∧ i = .int .i64 j ∧ Keeps [] w wr) (fun _ _ i _ => m - (intOf i).toNat)
        case atStart => exact ⟨0, Nat.zero_le _, rfl, K9.out⟩
        case round =>
          obtain ⟨j, hj, rfl, hkw⟩ := hrel
          have KW := Lib.hid hkw
          clear hkw
          by_cases hlt2 : j < m
          · have hnl : l ≠ [] := by intro e; have := HMM.out; rw [e] at this; simp at this; omega
            obtain ⟨B, o, cap', hv', _, _, _, _, hx⟩ := HW.out.at hnl
            injection hv' with e1 e2 e3
            subst e1
            clear e2 e3
            obtain ⟨x, hget⟩ : ∃ x, l[j]? = some x := ⟨_, List.getElem?_eq_getElem (by have := HMM.out; omega)⟩
            obtain ⟨ax, cx, Mx, ox, p0, p1, p2, _, _, hxn, _⟩ := hx j x hget
            have p0 := KW.out.cell p0 (by simp)
            have p1 := KW.out.cell p1 (by simp)
            have p2 := KW.out.cell p2 (by simp)
            have HQ := Lib.hid fun (h : alikeB x.name a = true) => HHIT.out j x hget (by have := HMM.out; omega) h
            have HAX := Lib.hid fun (W : World) => HAN.out W x hxn
            clear hx hget hxn hnl
            unfold str bv at *
            generalize ByteArray.mk x.name.toArray = t at *
            generalize (x.flags.toNat : Int) = f at *
            generalize x.code.length = c at *
            cases hq2 : alikeB x.name a with
            | true =>
              have hjat : ¬ at' < (j : Int) := by have := HQ.out hq2; have := HAT.out; unfold findI at this; omega
              rw [hq2] at HAX
              clear hq2 HQ
              go_wp2_with (go_at_call 13; refine (HAX.out _).mono ?_; rintro e w2 ⟨rfl, hk2⟩; have HK2 := Lib.hid hk2; clear hk2)
              go_roundw
              case rel => first | exact ⟨j + 1, by omega, by go_num, (KW.out.trans (Keeps.alloc [] _ _)).trans HK2.out⟩ | ((repeat apply Exists.intro); exact ⟨⟨j + 1, by omega, by go_num, (KW.out.trans (Keeps.alloc [] _ _)).trans HK2.out⟩, rfl⟩)
              case measure => simp [intOf]; omega
            | false =>
              rw [hq2] at HAX
              clear hq2 HQ
              go_wp2_with (go_at_call 13; refine (HAX.out _).mono ?_; rintro e w2 ⟨rfl, hk2⟩; have HK2 := Lib.hid hk2; clear hk2)
              go_roundw
              case rel => first | exact ⟨j + 1, by omega, by go_num, (KW.out.trans (Keeps.alloc [] _ _)).trans HK2.out⟩ | ((repeat apply Exists.intro); exact ⟨⟨j + 1, by omega, by go_num, (KW.out.trans (Keeps.alloc [] _ _)).trans HK2.out⟩, rfl⟩)
              case measure => simp [intOf]; omega
          · rcases HAI.out with hm1 | ⟨i, x, hi1, hget, hi3, hax⟩
            · have hz : at' = -1 := by rw [HAT.out]; exact hm1
              subst hz
              clear hm1 hat1
              go_wp2_with (go_at_call 8; refine (awake10_any _).mono ?_; rintro e w2 ⟨rfl, hk2⟩; have HK2 := Lib.hid hk2; clear hk2)
              go_ret
              exact ⟨rfl, KW.out.trans HK2.out⟩
            · have hz : at' = (i : Int) := by rw [HAT.out]; exact hi1
              have hnl : l ≠ [] := by intro e; rw [e] at hget; simp at hget
              obtain ⟨B, o, cap', hv', _, _, _, _, hx⟩ := HW.out.at hnl
              injection hv' with e1 e2 e3
              subst e1
              clear e2 e3
              obtain ⟨ax, cx, Mx, ox, p0, _, _, _, _, hxn, _⟩ := hx i x hget
              have p0 := KW.out.cell p0 (by simp)
              have HAX := Lib.hid fun (W : World) => HAN.out W x hxn
              rw [hax] at HAX
              have him : i < m := by have := HMM.out; omega
              have himi : (i : Int) < (m : Int) := by omega
              have hi0 : (0 : Int) ≤ (i : Int) := by omega
              have hi1' : ((i : Int) == -1) = false := beq_eq_false_iff_ne.2 (by omega)
              have hHAT := HAT
              subst hz
              clear hx hget hxn hnl hax hi1 hi3 HAT hHAT hat1
              unfold str at *
              generalize ByteArray.mk x.name.toArray = t at *
              go_wp2_with (first | (go_at_call 13; refine (HAX.out _).mono ?_; rintro e w2 ⟨rfl, hk2⟩; have HK2 := Lib.hid hk2; clear hk2) | (go_at_call 8; refine (awake10_any _).mono ?_; rintro e w3 ⟨rfl, hk3⟩; have HK3 := Lib.hid hk3; clear hk3))
              go_ret
              exact ⟨rfl, (KW.out.trans HK2.out).trans HK3.out⟩
  | false =>
    rw [hq] at HAB HBA
    clear hq HFb
    go_upto_region 6 with (first
      | (go_at_call_of 20 (#[Value.slice ao m cap, Value.string sa]); refine (HFa.out _ (Keeps.refl _ _)).mono ?_; rintro e w1 ⟨rfl, hk1⟩; have K1 := Lib.hid hk1; clear hk1)
      | (go_at_call_of 13 (#[Value.string sa, Value.string sa]); refine (HAA.out _).mono ?_; rintro e w4 ⟨rfl, hk4⟩; have K4 := Lib.hid (K3.out.trans hk4); clear hk4)
      | (go_at_call_of 13 (#[Value.string sa, Value.string sb]); refine (HAB.out _).mono ?_; rintro e w2 ⟨rfl, hk2⟩; first | (have K6 := Lib.hid (K4.out.trans hk2); clear hk2) | (have K2 := Lib.hid (K1.out.trans hk2); clear hk2))
      | (go_at_call_of 13 (#[Value.string sb, Value.string sa]); refine (HBA.out _).mono ?_; rintro e w3 ⟨rfl, hk3⟩; have K3 := Lib.hid (K2.out.trans hk3); clear hk3))
    clear HFa HAA
    have K6' := Lib.hid K6.out.below
    clear HAB HBA
    go_wp2
    go_loopw [8, 9, 10, 11, 12, 13, 50] (fun lg sm _ _ _ _ i wr => ∃ (k : Nat) (vl vs : Value), k ≤ n ∧ vl = lg ∧ vs = sm ∧ i = .int .i64 k ∧ wr.ownsRow w.heap.size 5 1 vl ((a.take k).map largeC).length (((a.take k).map largeC).map bv) ∧ wr.ownsRow w.heap.size 5 1 vs ((a.take k).map smallC).length (((a.take k).map smallC).map bv) ∧ (∀ x, vl.ownBlock = some x → vs.ownBlock ≠ some x) ∧ Below w.heap.size w wr) (fun _ _ _ _ _ _ i _ => n - (intOf i).toNat)
    case atStart => exact ⟨0, _, _, Nat.zero_le _, rfl, rfl, rfl, World.ownsRow_nil _ _ _ _, World.ownsRow_nil _ _ _ _, (fun x hx => by cases hx), K6'.out⟩
    case round =>
      obtain ⟨k, vl, vs, hk, rfl, rfl, rfl, ho1, ho2, hd, hb⟩ := hrel
      have HO1 := Lib.hid ho1
      have HO2 := Lib.hid ho2
      have HD := Lib.hid hd
      have HB := Lib.hid hb
      have hws := hb.size
      clear ho1 ho2 hd hb
      by_cases hlt : k < n
      · obtain ⟨c, hc⟩ : ∃ c, a[k]? = some c := ⟨_, List.getElem?_eq_getElem (by have := HNN.out; omega)⟩
        have ix := fun w => HIX.out w k c hc
        have HT1 := Lib.hid (take_map_succ largeC a k c hc)
        have HT2 := Lib.hid (take_map_succ smallC a k c hc)
        have HL1 := Lib.hid (show ((a.take k).map largeC).length = k by rw [List.length_map, List.length_take]; have := HNN.out; omega)
        have HL2 := Lib.hid (show ((a.take k).map smallC).length = k by rw [List.length_map, List.length_take]; have := HNN.out; omega)
        have hlg := large_nat c
        have hsm := small_nat c
        have hc2 := c.toNat_lt
        have u1 : IntKind.u8.wrap ((largeC c).toNat : Int) = ((largeC c).toNat : Int) := IntWalk.u8_in _ (by have := (largeC c).toNat_lt; omega)
        have u2 : ((largeC c).toNat : Int) % 256 = ((largeC c).toNat : Int) := by have := (largeC c).toNat_lt; omega
        have d1 : IntKind.u8.wrap ((smallC c).toNat : Int) = ((smallC c).toNat : Int) := IntWalk.u8_in _ (by have := (smallC c).toNat_lt; omega)
        have d2 : ((smallC c).toNat : Int) % 256 = ((smallC c).toNat : Int) := by have := (smallC c).toNat_lt; omega
        generalize hP1 : (a.take k).map largeC = P1 at *
        generalize hP2 : (a.take k).map smallC = P2 at *
        have HP1 := Lib.hid hP1
        have HP2 := Lib.hid hP2
        clear hc hP1 hP2
        unfold bv at ix
        generalize hC1 : largeC c = c1 at *
        generalize hC2 : smallC c = c2 at *
        have HC1 := Lib.hid hC1
        have HC2 := Lib.hid hC2
        clear hC1 hC2
        generalize c.toNat = x at *
        by_cases g1 : 97 ≤ x ∧ x ≤ 122
        · rw [if_pos g1] at hlg
          rw [if_neg (by omega)] at hsm
          subst hsm
          have t1 : (97 : Int) ≤ (c2.toNat : Int) := by omega
          have t2 : (c2.toNat : Int) ≤ 122 := by omega
          have t3 : (65 : Int) ≤ (c2.toNat : Int) := by omega
          have t4 : ¬ (c2.toNat : Int) ≤ 90 := by omega
          have t5 : (c2.toNat : Int) - 32 = (c1.toNat : Int) := by omega
          clear hlg g1
          go_wp2_with (first
            | (at_builtin; refine wpList_append_bb rfl _ _ rfl w.heap.size vs P2 rfl (World.ownsRow.keeps HS4.out (Keeps.alloc [] _ _) (fun _ _ => List.not_mem_nil)) _ [c2] w4.heap.size rfl (Reads.lit w4 [c2] _ 5 1 (0, 0) rfl rfl) (by rw [HL2.out]; simp; omega) (by have := HZ4.out; simp; omega) ?_; intro v5 w5 ho5 hk5 hn5; have HO5 := Lib.hid ho5; have HK5 := Lib.hid hk5; have HN5 := Lib.hid hn5; clear ho5 hk5 hn5)
            | (at_builtin; refine wpList_append_bb rfl _ _ rfl w.heap.size vl P1 rfl (World.ownsRow.keeps HO1.out (Keeps.alloc [] _ _) (fun _ _ => List.not_mem_nil)) _ [c1] wr.heap.size rfl (Reads.lit wr [c1] _ 5 1 (0, 0) rfl rfl) (by rw [HL1.out]; simp; omega) (by simp; omega) ?_; intro v4 w4 ho4 hk4 hn4; have HO4 := Lib.hid ho4; have HK4 := Lib.hid hk4; have HN4 := Lib.hid hn4; have HS4 := Lib.hid (rows_mid _ HO2.out HD.out hk4); have HZ4 := Lib.hid (show w.heap.size ≤ w4.heap.size from by have := hk4.size; simp at this; omega); clear ho4 hk4 hn4))
          have HST := rows_step _ _ HO1.out HO2.out HD.out HB.out HO4.out HK4.out HN4.out HK5.out HN5.out
          go_roundw
          case rel => exact ⟨k + 1, v4, v5, by omega, rfl, rfl, by go_num, by rw [HT1.out]; exact HST.1, by rw [HT2.out]; exact HO5.out, HST.2.1, HST.2.2⟩
          case measure => simp [intOf]; omega
        by_cases g2 : 65 ≤ x ∧ x ≤ 90
        · rw [if_neg g1] at hlg
          rw [if_pos g2] at hsm
          subst hlg
          have t1 : ¬ (97 : Int) ≤ (c1.toNat : Int) := by omega
          have t3 : (65 : Int) ≤ (c1.toNat : Int) := by omega
          have t4 : (c1.toNat : Int) ≤ 90 := by omega
          have t5 : (c1.toNat : Int) + 32 = (c2.toNat : Int) := by omega
          clear hsm g1 g2
          go_wp2_with (first
            | (at_builtin; refine wpList_append_bb rfl _ _ rfl w.heap.size vs P2 rfl (World.ownsRow.keeps HS4.out (Keeps.alloc [] _ _) (fun _ _ => List.not_mem_nil)) _ [c2] w4.heap.size rfl (Reads.lit w4 [c2] _ 5 1 (0, 0) rfl rfl) (by rw [HL2.out]; simp; omega) (by have := HZ4.out; simp; omega) ?_; intro v5 w5 ho5 hk5 hn5; have HO5 := Lib.hid ho5; have HK5 := Lib.hid hk5; have HN5 := Lib.hid hn5; clear ho5 hk5 hn5)
            | (at_builtin; refine wpList_append_bb rfl _ _ rfl w.heap.size vl P1 rfl (World.ownsRow.keeps HO1.out (Keeps.alloc [] _ _) (fun _ _ => List.not_mem_nil)) _ [c1] wr.heap.size rfl (Reads.lit wr [c1] _ 5 1 (0, 0) rfl rfl) (by rw [HL1.out]; simp; omega) (by simp; omega) ?_; intro v4 w4 ho4 hk4 hn4; have HO4 := Lib.hid ho4; have HK4 := Lib.hid hk4; have HN4 := Lib.hid hn4; have HS4 := Lib.hid (rows_mid _ HO2.out HD.out hk4); have HZ4 := Lib.hid (show w.heap.size ≤ w4.heap.size from by have := hk4.size; simp at this; omega); clear ho4 hk4 hn4))
          have HST := rows_step _ _ HO1.out HO2.out HD.out HB.out HO4.out HK4.out HN4.out HK5.out HN5.out
          go_roundw
          case rel => exact ⟨k + 1, v4, v5, by omega, rfl, rfl, by go_num, by rw [HT1.out]; exact HST.1, by rw [HT2.out]; exact HO5.out, HST.2.1, HST.2.2⟩
          case measure => simp [intOf]; omega
        rw [if_neg g1] at hlg
        rw [if_neg g2] at hsm
        have hcc : c2 = c1 := UInt8.toNat_inj.1 (by omega)
        subst hcc
        subst hlg
        have HG1 := Lib.hid g1
        have HG2 := Lib.hid g2
        clear hsm g1 g2
        by_cases t1 : (97 : Int) ≤ (c2.toNat : Int)
        · have t2 : ¬ (c2.toNat : Int) ≤ 122 := by have := HG1.out; omega
          have t3 : (65 : Int) ≤ (c2.toNat : Int) := by omega
          have t4 : ¬ (c2.toNat : Int) ≤ 90 := by omega
          go_wp2_with (first
            | (at_builtin; refine wpList_append_bb rfl _ _ rfl w.heap.size vs P2 rfl (World.ownsRow.keeps HS4.out (Keeps.alloc [] _ _) (fun _ _ => List.not_mem_nil)) _ [c2] w4.heap.size rfl (Reads.lit w4 [c2] _ 5 1 (0, 0) rfl rfl) (by rw [HL2.out]; simp; omega) (by have := HZ4.out; simp; omega) ?_; intro v5 w5 ho5 hk5 hn5; have HO5 := Lib.hid ho5; have HK5 := Lib.hid hk5; have HN5 := Lib.hid hn5; clear ho5 hk5 hn5)
            | (at_builtin; refine wpList_append_bb rfl _ _ rfl w.heap.size vl P1 rfl (World.ownsRow.keeps HO1.out (Keeps.alloc [] _ _) (fun _ _ => List.not_mem_nil)) _ [c2] wr.heap.size rfl (Reads.lit wr [c2] _ 5 1 (0, 0) rfl rfl) (by rw [HL1.out]; simp; omega) (by simp; omega) ?_; intro v4 w4 ho4 hk4 hn4; have HO4 := Lib.hid ho4; have HK4 := Lib.hid hk4; have HN4 := Lib.hid hn4; have HS4 := Lib.hid (rows_mid _ HO2.out HD.out hk4); have HZ4 := Lib.hid (show w.heap.size ≤ w4.heap.size from by have := hk4.size; simp at this; omega); clear ho4 hk4 hn4))
          have HST := rows_step _ _ HO1.out HO2.out HD.out HB.out HO4.out HK4.out HN4.out HK5.out HN5.out
          go_roundw
          case rel => exact ⟨k + 1, v4, v5, by omega, rfl, rfl, by go_num, by rw [HT1.out]; exact HST.1, by rw [HT2.out]; exact HO5.out, HST.2.1, HST.2.2⟩
          case measure => simp [intOf]; omega
        by_cases t3 : (65 : Int) ≤ (c2.toNat : Int)
        · have t4 : ¬ (c2.toNat : Int) ≤ 90 := by have := HG2.out; omega
          go_wp2_with (first
            | (at_builtin; refine wpList_append_bb rfl _ _ rfl w.heap.size vs P2 rfl (World.ownsRow.keeps HS4.out (Keeps.alloc [] _ _) (fun _ _ => List.not_mem_nil)) _ [c2] w4.heap.size rfl (Reads.lit w4 [c2] _ 5 1 (0, 0) rfl rfl) (by rw [HL2.out]; simp; omega) (by have := HZ4.out; simp; omega) ?_; intro v5 w5 ho5 hk5 hn5; have HO5 := Lib.hid ho5; have HK5 := Lib.hid hk5; have HN5 := Lib.hid hn5; clear ho5 hk5 hn5)
            | (at_builtin; refine wpList_append_bb rfl _ _ rfl w.heap.size vl P1 rfl (World.ownsRow.keeps HO1.out (Keeps.alloc [] _ _) (fun _ _ => List.not_mem_nil)) _ [c2] wr.heap.size rfl (Reads.lit wr [c2] _ 5 1 (0, 0) rfl rfl) (by rw [HL1.out]; simp; omega) (by simp; omega) ?_; intro v4 w4 ho4 hk4 hn4; have HO4 := Lib.hid ho4; have HK4 := Lib.hid hk4; have HN4 := Lib.hid hn4; have HS4 := Lib.hid (rows_mid _ HO2.out HD.out hk4); have HZ4 := Lib.hid (show w.heap.size ≤ w4.heap.size from by have := hk4.size; simp at this; omega); clear ho4 hk4 hn4))
          have HST := rows_step _ _ HO1.out HO2.out HD.out HB.out HO4.out HK4.out HN4.out HK5.out HN5.out
          go_roundw
          case rel => exact ⟨k + 1, v4, v5, by omega, rfl, rfl, by go_num, by rw [HT1.out]; exact HST.1, by rw [HT2.out]; exact HO5.out, HST.2.1, HST.2.2⟩
          case measure => simp [intOf]; omega
        · go_wp2_with (first
            | (at_builtin; refine wpList_append_bb rfl _ _ rfl w.heap.size vs P2 rfl (World.ownsRow.keeps HS4.out (Keeps.alloc [] _ _) (fun _ _ => List.not_mem_nil)) _ [c2] w4.heap.size rfl (Reads.lit w4 [c2] _ 5 1 (0, 0) rfl rfl) (by rw [HL2.out]; simp; omega) (by have := HZ4.out; simp; omega) ?_; intro v5 w5 ho5 hk5 hn5; have HO5 := Lib.hid ho5; have HK5 := Lib.hid hk5; have HN5 := Lib.hid hn5; clear ho5 hk5 hn5)
            | (at_builtin; refine wpList_append_bb rfl _ _ rfl w.heap.size vl P1 rfl (World.ownsRow.keeps HO1.out (Keeps.alloc [] _ _) (fun _ _ => List.not_mem_nil)) _ [c2] wr.heap.size rfl (Reads.lit wr [c2] _ 5 1 (0, 0) rfl rfl) (by rw [HL1.out]; simp; omega) (by simp; omega) ?_; intro v4 w4 ho4 hk4 hn4; have HO4 := Lib.hid ho4; have HK4 := Lib.hid hk4; have HN4 := Lib.hid hn4; have HS4 := Lib.hid (rows_mid _ HO2.out HD.out hk4); have HZ4 := Lib.hid (show w.heap.size ≤ w4.heap.size from by have := hk4.size; simp at this; omega); clear ho4 hk4 hn4))
          have HST := rows_step _ _ HO1.out HO2.out HD.out HB.out HO4.out HK4.out HN4.out HK5.out HN5.out
          go_roundw
          case rel => exact ⟨k + 1, v4, v5, by omega, rfl, rfl, by go_num, by rw [HT1.out]; exact HST.1, by rw [HT2.out]; exact HO5.out, HST.2.1, HST.2.2⟩
          case measure => simp [intOf]; omega
      · have hkn : k = n := by omega
        have et : a.take k = a := by rw [hkn, HNN.out]; exact HALL.out
        subst hkn
        rw [et] at HO1 HO2
        obtain ⟨M1, hr1, _⟩ := owns_reads2 HO1.out
        obtain ⟨M2, hr2, _⟩ := owns_reads2 HO2.out
        have HC1 := Lib.hid fun (W : World) (hk : Keeps [] wr W) => conv_reads (hr1.keeps hk (by simp))
        have HC2 := Lib.hid fun (W : World) (hk : Keeps [] wr W) => conv_reads (hr2.keeps hk (by simp))
        have KR := Lib.hid (show Keeps [] w wr from Keeps.ofBelow HB.out)
        clear et hr1 hr2 HO1 HO2 HD HB
        generalize ByteArray.mk (a.map largeC).toArray = S1 at *
        generalize ByteArray.mk (a.map smallC).toArray = S2 at *
        have cv1 := HC1.out wr (Keeps.refl _ _)
        go_upto_region 20 with (first
          | (go_at_call_of 20 (#[Value.slice ao m cap, Value.string S1]); refine (HFL.out _ KR.out).mono ?_; rintro e w7 ⟨rfl, hk7⟩; have K7 := Lib.hid hk7; have cv2 := HC2.out _ hk7; clear hk7)
          | (go_at_call_of 20 (#[Value.slice ao m cap, Value.string S2]); refine (HFS.out _ (KR.out.trans K7.out)).mono ?_; rintro e w8 ⟨rfl, hk8⟩; have K8 := Lib.hid (K7.out.trans hk8); have cv3 := HC1.out _ K8.out; have cv4 := HC2.out _ K8.out; clear hk8)
          | (go_at_call_of 13 (#[Value.string S1, Value.string S2]); refine (HLS.out _).mono ?_; rintro e w9 ⟨rfl, hk9⟩; have K9 := Lib.hid (KR.out.trans (K8.out.trans hk9)); clear hk9))
        clear HC1 HC2 HFL HFS HLS K7 K8 KR hws hsa cv1 cv2 cv3 cv4
        go_wp2
        go_loopw [14, 15, 107] (fun _ _ i wr => ∃ j : Nat, j ≤ m ∧ i = .int .i64 j ∧ Keeps [] w wr) (fun _ _ i _ => m - (intOf i).toNat)
        case atStart => exact ⟨0, Nat.zero_le _, rfl, K9.out⟩
        case round =>
          obtain ⟨j, hj, rfl, hkw⟩ := hrel
          have KW := Lib.hid hkw
          clear hkw
          by_cases hlt2 : j < m
          · have hnl : l ≠ [] := by intro e; have := HMM.out; rw [e] at this; simp at this; omega
            obtain ⟨B, o, cap', hv', _, _, _, _, hx⟩ := HW.out.at hnl
            injection hv' with e1 e2 e3
            subst e1
            clear e2 e3
            obtain ⟨x, hget⟩ : ∃ x, l[j]? = some x := ⟨_, List.getElem?_eq_getElem (by have := HMM.out; omega)⟩
            obtain ⟨ax, cx, Mx, ox, p0, p1, p2, _, _, hxn, _⟩ := hx j x hget
            have p0 := KW.out.cell p0 (by simp)
            have p1 := KW.out.cell p1 (by simp)
            have p2 := KW.out.cell p2 (by simp)
            have HQ := Lib.hid fun (h : alikeB x.name a = true) => HHIT.out j x hget (by have := HMM.out; omega) h
            have HAX := Lib.hid fun (W : World) => HAN.out W x hxn
            clear hx hget hxn hnl
            unfold str bv at *
            generalize ByteArray.mk x.name.toArray = t at *
            generalize (x.flags.toNat : Int) = f at *
            generalize x.code.length = c at *
            cases hq2 : alikeB x.name a with
            | true =>
              have hjat : ¬ at' < (j : Int) := by have := HQ.out hq2; have := HAT.out; unfold findI at this; omega
              rw [hq2] at HAX
              clear hq2 HQ
              go_wp2_with (go_at_call 13; refine (HAX.out _).mono ?_; rintro e w2 ⟨rfl, hk2⟩; have HK2 := Lib.hid hk2; clear hk2)
              go_roundw
              case rel => first | exact ⟨j + 1, by omega, by go_num, (KW.out.trans (Keeps.alloc [] _ _)).trans HK2.out⟩ | ((repeat apply Exists.intro); exact ⟨⟨j + 1, by omega, by go_num, (KW.out.trans (Keeps.alloc [] _ _)).trans HK2.out⟩, rfl⟩)
              case measure => simp [intOf]; omega
            | false =>
              rw [hq2] at HAX
              clear hq2 HQ
              go_wp2_with (go_at_call 13; refine (HAX.out _).mono ?_; rintro e w2 ⟨rfl, hk2⟩; have HK2 := Lib.hid hk2; clear hk2)
              go_roundw
              case rel => first | exact ⟨j + 1, by omega, by go_num, (KW.out.trans (Keeps.alloc [] _ _)).trans HK2.out⟩ | ((repeat apply Exists.intro); exact ⟨⟨j + 1, by omega, by go_num, (KW.out.trans (Keeps.alloc [] _ _)).trans HK2.out⟩, rfl⟩)
              case measure => simp [intOf]; omega
          · rcases HAI.out with hm1 | ⟨i, x, hi1, hget, hi3, hax⟩
            · have hz : at' = -1 := by rw [HAT.out]; exact hm1
              subst hz
              clear hm1 hat1
              go_wp2_with (go_at_call 8; refine (awake10_any _).mono ?_; rintro e w2 ⟨rfl, hk2⟩; have HK2 := Lib.hid hk2; clear hk2)
              go_ret
              exact ⟨rfl, KW.out.trans HK2.out⟩
            · have hz : at' = (i : Int) := by rw [HAT.out]; exact hi1
              have hnl : l ≠ [] := by intro e; rw [e] at hget; simp at hget
              obtain ⟨B, o, cap', hv', _, _, _, _, hx⟩ := HW.out.at hnl
              injection hv' with e1 e2 e3
              subst e1
              clear e2 e3
              obtain ⟨ax, cx, Mx, ox, p0, _, _, _, _, hxn, _⟩ := hx i x hget
              have p0 := KW.out.cell p0 (by simp)
              have HAX := Lib.hid fun (W : World) => HAN.out W x hxn
              rw [hax] at HAX
              have him : i < m := by have := HMM.out; omega
              have himi : (i : Int) < (m : Int) := by omega
              have hi0 : (0 : Int) ≤ (i : Int) := by omega
              have hi1' : ((i : Int) == -1) = false := beq_eq_false_iff_ne.2 (by omega)
              have hHAT := HAT
              subst hz
              clear hx hget hxn hnl hax hi1 hi3 HAT hHAT hat1
              unfold str at *
              generalize ByteArray.mk x.name.toArray = t at *
              go_wp2_with (first | (go_at_call 13; refine (HAX.out _).mono ?_; rintro e w2 ⟨rfl, hk2⟩; have HK2 := Lib.hid hk2; clear hk2) | (go_at_call 8; refine (awake10_any _).mono ?_; rintro e w3 ⟨rfl, hk3⟩; have HK3 := Lib.hid hk3; clear hk3))
              go_ret
              exact ⟨rfl, (KW.out.trans HK2.out).trans HK3.out⟩
end Go.Proofs.Yteaikbchbahdjaa
