/-
  PrimWords: a list of words up to any of its words, and with a word more.
-/
import Derived.Test.YtcljddfmelnniaaPmCallsB
import Derived.Deep.CutRange
import Derived.Deep.CutBlock
namespace Go.Proofs.Ytcljddfmelnniaa
open Go.RowKit Go.Deep
set_option linter.unusedVariables false

theorem own_made_at {W : World} {base : Nat} (hb : W.heap.size = base) : (W.alloc (.cells #[] 43)).ownsRow base 43 3 (.slice (some ⟨base, 0, none⟩) 0 0) 0 [] := by
  subst hb
  exact World.ownsRow_made W #[] 0 (Nat.le_refl _) (by decide) (by simp)

theorem drew_size (w : World) : w.drew.heap.size = w.heap.size := rfl
theorem whole_cell {W : World} {b : Nat} {T : TypeId} {xs : List Value} (h : Whole W b T xs) {j : Nat} {u : Value} (hu : xs[j]? = some u) : W.cell? ⟨b, j, none⟩ = some u := (h.cell j).trans hu

theorem run_append_in {W : World} (t : TypeId) (base : Nat) (v : Value) (n : Nat) (xs : List Value) (hown : W.ownsRow base 43 3 v n xs)
    (ao : Option Addr) (m c B off : Nat) (L : List (Wd × Value)) (hl : L.length = m) (hB : m ≠ 0 → ao = some ⟨B, off, none⟩) (hz : ao = none → c = 0) (hc : ∀ j u, (L.flatMap wcells)[j]? = some u → W.cell? ⟨B, off + j, none⟩ = some u) (h1 : ∀ p ∈ L, ∃ a n c, p.2 = .slice a n c) (hlen : n + m ≤ 2000000) (hbase : base ≤ W.heap.size) :
    ∃ v' w', (Builtin.append_ #[24, 24] t #[v, .slice ao m c]).run Try.prog W = .ok v' w' ∧ w'.ownsRow base 43 3 v' (n + m) (xs ++ L.flatMap wcells) ∧ Keeps v.ownBlock.toList W w' := by
  obtain ⟨i0, hi, hz0, hz1, hz2⟩ := info_parts infoWord
  cases ao with
  | none =>
    have hm0 : m = 0 := by
      by_cases e : m = 0
      · exact e
      · have := hB e; cases this
    have hc0 := hz rfl
    subst hm0 hc0
    have : L = [] := List.eq_nil_of_length_eq_zero hl
    subst this
    have hrun := run_append_owned_none (P := Try.prog) (w := W) base 24 t 43 i0 3 Try.underlying24 hi v n xs (by rw [← hz1] at hown ⊢; exact hown)
    exact ⟨v, W, hrun, by simpa using hown, Keeps.refl _ _⟩
  | some ad =>
    obtain ⟨v', w', hr, h2, h3, _, _⟩ := run_append_own_at (P := Try.prog) W base 24 t 43 i0 _ 3 48 Try.underlying24 hi hz0 hz1 hz2 rfl (by decide) v n xs hown ad m c (L.flatMap wcells) (by rw [wcellsL_length, hl]) (fun j u hu => by
      have hm0 : m ≠ 0 := by
        intro e; rw [← hl] at e
        have : L = [] := List.eq_nil_of_length_eq_zero e
        subst this; simp at hu
      have := hB hm0
      injection this with this
      subst this
      rw [Addr.add_off]
      exact hc j u hu) (one_wcellsL L h1) (by unfold maxLen; omega) (by omega) hbase
    exact ⟨v', w', hr, h2, Keeps.grown h3 (fun k hk => .inl (by simp [hk]))⟩

/-- The first append: onto none, what came in. -/
theorem step_in {ops : Array Oper} {o : Oper} {a : Act} {W : World} {K : Act → World → Prop} {Q : Exit → Act → World → Prop} {E : Prop} (hgd : o.guard = none) (s x : Operand)
    (ho : o.op = .call { callee := .builtin .append, args := #[s, x], argTypes := #[24, 24] }) (base : Nat) (hs : a.eval s = .slice (some ⟨base, 0, none⟩) 0 0)
    (ao : Option Addr) (m c B off : Nat) (L : List (Wd × Value)) (hx : a.eval x = .slice ao m c) (w : World) (hk : Keeps [] w W) (hown : W.ownsRow base 43 3 (.slice (some ⟨base, 0, none⟩) 0 0) 0 []) (hbase : base ≤ W.heap.size)
    (hl : L.length = m) (hB : m ≠ 0 → ao = some ⟨B, off, none⟩) (hz : ao = none → c = 0) (hc : ∀ j u, (L.flatMap wcells)[j]? = some u → w.cell? ⟨B, off + j, none⟩ = some u) (h1 : ∀ p ∈ L, ∃ a n c, p.2 = .slice a n c) (hlen : m ≤ 2000000)
    (h : ∀ bs v' w', bs = base → w'.ownsRow bs 43 3 v' m (L.flatMap wcells) → Keeps [bs] W w' → Keeps [bs] w w' → K (a.put o.dst v') w') :
    if Region.wanted o (yielded ops a.tmps) = true then Oper.wp Try.prog o a W K Q else E := by
  have hw : Region.wanted o (yielded ops a.tmps) = true := by simp [Region.wanted, hgd]
  rw [if_pos hw]
  obtain ⟨v', w', hr, h2, h3⟩ := run_append_in (W := W) o.type base _ 0 [] hown ao m c B off L hl hB hz (fun j u hu => hk.cell (hc j u hu) (by simp)) h1 (by omega) hbase
  unfold Oper.wp
  simp only [execOp, ho, resolve, invoke, builtin, Sem.run_bind, Sem.run_pure, Result.andThen_ok, List.map_toArray, List.map_cons, List.map_nil, hs, hx, hr]
  exact h base v' w' rfl (by simpa using h2) h3 ((hk.mono (by simp)).trans h3)

/-- The second one: one word. -/
theorem step_one {ops : Array Oper} {o : Oper} {a : Act} {W : World} {K : Act → World → Prop} {Q : Exit → Act → World → Prop} {E : Prop} (hgd : o.guard = none) (s x : Operand)
    (ho : o.op = .call { callee := .builtin .append, args := #[s, x], argTypes := #[24, 24] }) (base : Nat) (v : Value) (n : Nat) (xs : List Value) (hs : a.eval s = v) (hown : W.ownsRow base 43 3 v n xs)
    (p : Wd × Value) (hp : ∃ a n c, p.2 = .slice a n c) (b : Nat) (hx : a.eval x = .slice (some ⟨b, 0, none⟩) 1 1) (hb : ∀ j u, (wcells p)[j]? = some u → W.cell? ⟨b, j, none⟩ = some u) (hn : n ≤ 1000000) (hbase : base ≤ W.heap.size)
    (h : ∀ v' w', w'.ownsRow base 43 3 v' (n + 1) (xs ++ wcells p) → Keeps v.ownBlock.toList W w' → K (a.put o.dst v') w') :
    if Region.wanted o (yielded ops a.tmps) = true then Oper.wp Try.prog o a W K Q else E := by
  have hw : Region.wanted o (yielded ops a.tmps) = true := by simp [Region.wanted, hgd]
  rw [if_pos hw]
  obtain ⟨v', w', hr, h2, h3⟩ := run_append_in (W := W) o.type base v n xs hown (some ⟨b, 0, none⟩) 1 1 b 0 [p] rfl (fun _ => rfl) (fun h => by cases h) (fun j u hu => by rw [Nat.zero_add]; exact hb j u (by simpa using hu)) (fun q hq => by simp at hq; subst hq; exact hp) (by omega) hbase
  unfold Oper.wp
  simp only [execOp, ho, resolve, invoke, builtin, Sem.run_bind, Sem.run_pure, Result.andThen_ok, List.map_toArray, List.map_cons, List.map_nil, hs, hx, hr]
  exact h v' w' (by simpa using h2) h3

theorem PrimWords_long (w : World) (ao : Option Addr) (n c : Nat) (l : List Wd) (hl : WordsIn w (fun k => k < w.heap.size) (.slice ao n c) l) (h12 : 12 < n) (u : Value) (hu : ∃ a b d e f, u = .agg #[.string a, .int .u8 b, .slice d e f]) (cut : Nat) (hcut : cut < 256) :
    Calls Try.prog 6 #[.slice ao n c, u, .int .u8 (cut : Int)] w fun e w' => e = .returned (.bool true) ∧ Keeps [] w w' := by
  have HAW := Lib.hid awake11_any
  obtain ⟨a, b, d, e, f, rfl⟩ := hu
  have h12' : (12 : Int) < (n : Int) := by omega
  go_enter Try.func6, Try.ntmps6
  go_wp2_with (go_at_call 8; refine (HAW.out _).mono ?_; rintro e wa ⟨rfl, hka⟩; have HKA := Lib.hid ((Keeps.alloc [] w _).trans hka); clear hka)
  go_ret
  exact ⟨rfl, HKA.out⟩

set_option maxRecDepth 100000 in
set_option maxHeartbeats 8000000 in
theorem PrimWords_few (w : World) (ao : Option Addr) (n c : Nat) (l : List Wd) (hl : WordsIn w (fun k => k < w.heap.size) (.slice ao n c) l) (hn : n = l.length) (h12 : n ≤ 12) (hz : ao = none → c = 0)
    (x : Wd) (a3 : Option Addr) (n3 c3 : Nat) (hx : Stands w (fun _ => True) (x, .slice a3 n3 c3)) (cut : Nat) (hcut : cut < 256) :
    Calls Try.prog 6 #[.slice ao n c, .agg #[str x.name, bv x.flags, .slice a3 n3 c3], .int .u8 (cut : Int)] w fun e w' => e = .returned (.bool true) ∧ Keeps [] w w' := by
  have HAW := Lib.hid awake11_any
  obtain ⟨L, a', c', B, o, hL1, hL2, hv1, hL3, hL4, hL5⟩ := hl.pairs
  injection hv1 with e1 e2 e3
  clear e2
  subst e1 e3
  rw [← hn] at hL2
  obtain ⟨k, hk⟩ : ∃ k, k = cut % (n + 1) := ⟨_, rfl⟩
  have hkn : k ≤ n := by have := Nat.mod_lt cut (show 0 < n + 1 by omega); omega
  have e1 : ((cut : Int)).tmod ((n : Int) + 1) = (k : Int) := by rw [Int.tmod_eq_emod_of_nonneg (by omega), show (n : Int) + 1 = ((n + 1 : Nat) : Int) by omega, hk]; rfl
  have e2 : IntKind.i64.wrap (k : Int) = (k : Int) := IntWalk.i64_in _ (by omega)
  have e3 : ¬ (n : Int) + 1 = 0 := by omega
  have h12' : ¬ (12 : Int) < (n : Int) := by omega
  have hkc : k ≤ c := by
    obtain ⟨_, _, e, h, _⟩ := hl.shape
    injection e with _ _ e
    subst e
    omega
  have hkc' : (k : Int) ≤ (c : Int) := by omega
  have hpre := check_prefix l k (by omega)
  have hmore := check_more l x
  have hbnd : checkL l = -1 ∨ (0 ≤ checkL l ∧ checkL l < (n : Int)) := by
    rcases check_cases l with ⟨h, _⟩ | ⟨i, hi, h, _⟩
    · exact .inl h
    · exact .inr (by rw [h]; omega)
  obtain ⟨r, hr⟩ : ∃ r, r = checkL l := ⟨_, rfl⟩
  obtain ⟨s, hs⟩ : ∃ s, s = checkL (l.take k) := ⟨_, rfl⟩
  obtain ⟨m, hm⟩ : ∃ m, m = checkL (l ++ [x]) := ⟨_, rfl⟩
  have HCL := Lib.hid fun W (hk : Keeps [] w W) => Check_any W (.slice ao n c) l ((hl.next hk).imp (fun q hq _ => hq)) (by omega) r hr.symm
  have HCT := Lib.hid fun W (hK : Keeps [] w W) => Check_any W (.slice ao k c) (l.take k) (((show WordsIn w (fun k => k < w.heap.size) (.slice ao l.length c) l by rw [← hn]; exact hl).take k (by omega)).next hK |>.imp (fun q hq _ => hq)) (by rw [List.length_take]; omega) s hs.symm
  rw [← hs, ← hr] at hpre
  rw [← hr, ← hm] at hmore
  rw [← hr] at hbnd
  rw [← hn] at hmore
  have hcases : (r = -1 ∧ s = -1 ∧ m = -1) ∨ (r = -1 ∧ s = -1 ∧ m = (n : Int) ∧ ¬ (n : Int) = -1) ∨ ((0 ≤ r ∧ ¬ r < 0 ∧ ¬ r < -1 ∧ r < (n : Int) ∧ ¬ (n : Int) ≤ r ∧ (k : Int) ≤ r) ∧ s = -1 ∧ m = r) ∨ ((0 ≤ r ∧ ¬ r < 0 ∧ ¬ r < -1 ∧ r < (n : Int) ∧ ¬ (n : Int) ≤ r ∧ ¬ (k : Int) ≤ r) ∧ s = r ∧ m = r) := by
    rcases hbnd with h | ⟨h, h2⟩
    · rw [if_pos (.inl (by omega))] at hpre
      rcases hmore.2 h with h3 | h3
      · exact .inl ⟨h, hpre, h3⟩
      · exact .inr (.inl ⟨h, hpre, h3, by omega⟩)
    · by_cases hkr : (k : Int) ≤ r
      · rw [if_pos (.inr hkr)] at hpre
        exact .inr (.inr (.inl ⟨by omega, hpre, hmore.1 h⟩))
      · rw [if_neg (by omega)] at hpre
        exact .inr (.inr (.inr ⟨by omega, hpre, hmore.1 h⟩))
  have HM := Lib.hid hm
  have HCS := Lib.hid hcases
  have HLL := Lib.hid hL2
  have HB1 := Lib.hid (show n ≠ 0 → ao = some ⟨B, o, none⟩ from fun hne => (hL3 (fun e => hne (by rw [hn, e]; rfl))).1)
  have HZ := Lib.hid hz
  have HLC := Lib.hid hL5
  have HLO := Lib.hid (show ∀ p ∈ L, ∃ a n c, p.2 = .slice a n c from fun p hp => by obtain ⟨a, cp, M, off, hv, _⟩ := hL4 p hp; exact ⟨_, _, _, hv⟩)
  have HFIN := Lib.hid (show ∀ (base : Nat) (W : World) (v : Value), Keeps [] w W → W.ownsRow base 43 3 v (n + 1) (L.flatMap wcells ++ wcells (x, .slice a3 n3 c3)) → WordsIn W (fun q => q < W.heap.size) v (l ++ [x]) from fun base W v hb ho => by
    have h1 : WordsIn W (fun _ => True) v ((L ++ [((x, Value.slice a3 n3 c3) : Wd × Value)]).map Prod.fst) := by
      refine row_words (P := fun _ => True) (base := base) ?_ (Nat.le_trans (show (L ++ [(x, Value.slice a3 n3 c3)]).length ≤ 100 by rw [List.length_append, hL2]; simp; omega) (by decide)) (fun p hp => ?_)
      · rw [List.length_append, List.flatMap_append, hL2]; simpa using ho
      · rcases List.mem_append.1 hp with hp | hp
        · obtain ⟨a, cp, M, off, h1, h2, h3, h4⟩ := hL4 p hp
          exact ⟨a, cp, M, off, h1, h2.keeps hb (fun _ => by simp), fun _ => trivial, h4⟩
        · simp at hp
          subst hp
          exact hx.keeps hb (fun _ _ => List.not_mem_nil)
    rw [List.map_append, hL1] at h1
    exact h1.imp (fun q hq _ => hq))
  have HLN := Lib.hid (show (l ++ [x]).length ≤ 1000000 by rw [List.length_append, ← hn]; simp; omega)
  have HCM := Lib.hid (show ∀ (base : Nat) (W : World) (v : Value), Keeps [] w W → W.ownsRow base 43 3 v (n + 1) (L.flatMap wcells ++ wcells (x, .slice a3 n3 c3)) → Calls Try.prog 15 #[v] W fun e w' => e = .returned (.int .i64 m) ∧ Keeps [] W w' from fun base W v hb ho => Check_any W v (l ++ [x]) (HFIN.out base W v hb ho) HLN.out m HM.out.symm)
  obtain ⟨p, hp⟩ : ∃ p, p = (x, Value.slice a3 n3 c3) := ⟨_, rfl⟩
  have hpc : wcells p = [str x.name, bv x.flags, .slice a3 n3 c3] := by rw [hp]; rfl
  have HP := Lib.hid (show ∃ a n c, p.2 = .slice a n c from ⟨_, _, _, by rw [hp]⟩)
  rw [← hp] at HCM
  unfold str bv at hpc ⊢
  generalize ByteArray.mk x.name.toArray = nm at *
  generalize (x.flags.toNat : Int) = fl at *
  have HPC := Lib.hid hpc
  clear hl hL1 hL2 hL3 hL4 hL5 hk hpre hmore hbnd hr hs hm hcases hz hx hp hpc HFIN HLN HM hn
  go_enter Try.func6, Try.ntmps6
  go_upto_region 3 with fail
  generalize hV : World.alloc w _ = V
  obtain ⟨b, hb⟩ : ∃ b, b = w.heap.size := ⟨_, rfl⟩
  have HB := Lib.hid hb
  have WV := Lib.hid (show Whole V b 43 [.string nm, .int .u8 fl, .slice a3 n3 c3] by rw [← hV, hb]; exact Whole.new w 43 _)
  have KV := Lib.hid (show Keeps [] w V by rw [← hV]; exact Keeps.alloc [] _ _)
  rw [← hb]
  clear hV hb
  rcases HCS.out with ⟨rfl, rfl, hm⟩ | ⟨rfl, rfl, hm, q1⟩ | ⟨⟨q1, q2, q3, q4, q5, q6⟩, rfl, hm⟩ | ⟨⟨q1, q2, q3, q4, q5, q6⟩, rfl, hm⟩
  all_goals
    have HM := Lib.hid hm
    clear hm
    go_upto_region 13 with (first
      | (go_at_call_of 15 (#[Value.slice ao n c]); refine (HCL.out _ KV.out).mono ?_; rintro e w1 ⟨rfl, hk1⟩; have K1 := Lib.hid (KV.out.trans hk1); have W1 := Lib.hid (WV.out.keeps hk1 (by simp)); clear hk1)
      | (go_at_call_of 15 (#[Value.slice ao k c]); refine (HCT.out _ K1.out).mono ?_; rintro e w2 ⟨rfl, hk2⟩; have K2 := Lib.hid (K1.out.trans hk2); have W2 := Lib.hid (W1.out.keeps hk2 (by simp)); clear hk2))
    have W2w := W2.out
    obtain ⟨x0, x1, x2⟩ := W2w.word
    have hbl := W2.out.lt
    clear W2w
    go_cut [10] from 47 to 53 (fun v10 wc => v10 = .int .i64 m ∧ Hid (Keeps [] w wc))
    case first =>
      go_region_law (first
        | (refine step_in rfl (.tmp 47) (.tmp 48) rfl _ rfl ao n c B o L rfl w2 ?k ?own ?le HLL.out HB1.out HZ.out (fun j u hu => K2.out.cell (HLC.out j u hu) (by simp)) HLO.out (by omega) ?_
           case k => repeat' (first | exact Keeps.refl [] _ | refine Keeps.trans ?_ (Keeps.alloc [] _ _) | refine Keeps.trans ?_ (Keeps.drew [] _))
           case own => repeat' (first | exact own_made_at (by first | rfl | (simp; done)) | refine World.ownsRow.keeps ?_ (Keeps.alloc [] _ _) (fun _ _ => List.not_mem_nil) | refine World.ownsRow.keeps ?_ (Keeps.drew [] _) (fun _ _ => List.not_mem_nil))
           case le => first | (simp; done) | (simp; omega)
           intro bs v1 V1 hbs ho1 hk1 hk2
           have hb2 : w2.heap.size ≤ bs := by rw [hbs]; first | exact Nat.le_refl _ | (simp; done) | (simp; omega)
           have HBS := Lib.hid hbs
           clear hbs
           have WV1 := W2.out.keeps hk2 (by simp; omega)
           obtain ⟨y0, y1, y2⟩ := WV1.word
           have KV1 := Lib.hid ((Keeps.refl [] w2).then hk2 (fun x hx => .inr (by simp at hx; omega)))
           have HT := Lib.hid (show ∀ g ∈ v1.ownBlock.toList, g ∈ ([] : List Nat) ∨ w.heap.size ≤ g from fun g hg => .inr (by have := (ho1.lt g (by simpa using hg)).1; have := K2.out.size; omega))
           have HO1 := Lib.hid ho1
           have HK1 := Lib.hid hk1
           clear WV1 ho1 hk1 hk2)
        | (refine step_one rfl (.tmp 49) (.tmp 51) rfl bs v1 n (L.flatMap wcells) rfl ?own p HP.out _ rfl ?cells (by omega) ?le ?_
           case own => repeat' (first | exact HO1.out | refine World.ownsRow.keeps ?_ (Keeps.alloc [] _ _) (fun _ _ => List.not_mem_nil) | refine World.ownsRow.keeps ?_ (Keeps.drew [] _) (fun _ _ => List.not_mem_nil))
           case cells =>
             intro j u hu
             rw [HPC.out] at hu
             first
               | (refine whole_cell (T := 43) ?_ hu
                  repeat' (first | exact Whole.new_at _ 43 [.string nm, .int .u8 fl, .slice a3 n3 c3] _ (by first | rfl | (simp; done)) | refine Whole.keeps (S := []) ?_ (Keeps.alloc [] _ _) (by simp) | refine Whole.keeps (S := []) ?_ (Keeps.drew [] _) (by simp))
                  done)
               | (refine HK1.out.cell (whole_cell (T := 43) ?_ hu) ?_
                  · repeat' (first | exact Whole.new_at _ 43 [.string nm, .int .u8 fl, .slice a3 n3 c3] _ (by first | rfl | (simp; done)) | refine Whole.keeps (S := []) ?_ (Keeps.alloc [] _ _) (by simp) | refine Whole.keeps (S := []) ?_ (Keeps.drew [] _) (by simp))
                  · have := HBS.out; simp at this ⊢; omega)
           case le => have := HBS.out; have := HK1.out.size; simp at *; omega
           intro v2 V2 ho2 hk2
           have KV2 : Keeps [] w V2 := by
             refine Keeps.then (K2.out.trans ?_) hk2 HT.out
             repeat' (first | exact KV1.out | refine Keeps.trans ?_ (Keeps.alloc [] _ _) | refine Keeps.trans ?_ (Keeps.drew [] _))
           have HCC := Lib.hid (HCM.out bs V2 v2 KV2 ho2)
           have KVV := Lib.hid KV2
           clear ho2 hk2 KV2)
        | (go_simp
           go_wp2_with (go_at_call 15; refine HCC.out.mono ?_; rintro e w3 ⟨rfl, hk3⟩; have HK3 := Lib.hid (KVV.out.trans hk3); clear hk3)))
      all_goals
        simp only [Act.put, List.getElem_toArray, List.getElem_cons_succ, List.getElem_cons_zero, List.setIfInBounds_toArray, List.set_cons_succ, List.set_cons_zero]
        go_wp2_with fail
        go_meet
        case rel => exact ⟨rfl, HK3⟩
    case rest =>
      obtain ⟨rfl, HK3⟩ := hcut
      obtain rfl := HM.out
      go_wp2_with (go_at_call 8; refine (HAW.out _).mono ?_; rintro e wa ⟨rfl, hka⟩; have HKA := Lib.hid (HK3.out.trans hka); clear hka)
      go_ret
      exact ⟨rfl, HKA.out⟩

theorem PrimWords_any (w : World) (ao : Option Addr) (n c : Nat) (l : List Wd) (hl : WordsIn w (fun k => k < w.heap.size) (.slice ao n c) l) (hz : ao = none → c = 0)
    (x : Wd) (a3 : Option Addr) (n3 c3 : Nat) (hx : Stands w (fun _ => True) (x, .slice a3 n3 c3)) (cut : Nat) (hcut : cut < 256) :
    Calls Try.prog 6 #[.slice ao n c, .agg #[str x.name, bv x.flags, .slice a3 n3 c3], .int .u8 (cut : Int)] w fun e w' => e = .returned (.bool true) ∧ Keeps [] w w' := by
  have hn : n = l.length := by
    obtain ⟨_, _, e, _⟩ := hl.shape
    injection e
  by_cases h : n ≤ 12
  · exact PrimWords_few w ao n c l hl hn h hz x a3 n3 c3 hx cut hcut
  · exact PrimWords_long w ao n c l hl (by omega) _ ⟨_, _, _, _, _, rfl⟩ cut hcut

section
variable {H : Type} {enc : TypeId × Value → H} {W : World} {b0 : Nat} {spare : Nat → Bool} {held : Bool}
/-- A list of words that is nil has no room. -/
theorem words11_nil {fuel n c : Nat} {a : Option Addr} {x : DataW H × List MemPlace} (h : DataW.trod enc Try.prog W b0 spare held fuel 24 [.slice a n c] = some x) : a = none → c = 0 := by
  intro ha
  subst ha
  rcases structs_read Try.underlying24 Try.underlying43 (by kernel_rfl) (by kernel_rfl) h with hv | ⟨a, len, cap, hv, _⟩
  · injection hv
  · injection hv with e1 _ _
    cases e1
end
end Go.Proofs.Ytcljddfmelnniaa
