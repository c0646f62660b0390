/-
  PrimCalls: the walk.
-/
import Derived.Test.YtcljddfmelnniaaPmCallsA
namespace Go.Proofs.Ytcljddfmelnniaa
open Go.RowKit Go.Deep
set_option linter.unusedVariables false

/-- A word that ends at once, with the value of its code. -/
def ExitAt (w : World) (p : Wd × Value) : Prop := p.1 = exitW ∧ ∃ M, p.2 = .slice (some ⟨M, 0, none⟩) 1 1 ∧ Whole w M 22 [.int .u32 101]

theorem row_apart {w : World} {base n M : Nat} {v : Value} {xs ys : List Value} (h : w.ownsRow base 43 3 v n xs) (hm : Whole w M 22 ys) : M ∉ v.ownBlock.toList := by
  rcases h.2 with ⟨rfl, _⟩ | ⟨g, cap, cur, rfl, _, hg, _⟩
  · simp [Value.ownBlock]
  · simp only [Value.ownBlock]
    intro hx
    simp at hx
    subst hx
    unfold Whole at hm
    rw [hg] at hm
    injection hm with hm
    injection hm with _ ht
    exact absurd ht (by decide)

theorem ExitAt.keeps {S : List Nat} {w w' : World} {p : Wd × Value} (h : ExitAt w p) (hk : Keeps S w w') (hS : ∀ M ys, Whole w M 22 ys → M ∉ S) : ExitAt w' p := by
  obtain ⟨h1, M, h2, h3⟩ := h
  exact ⟨h1, M, h2, h3.keeps hk (hS M _ h3)⟩

theorem ExitAt.stands {w : World} {p : Wd × Value} (h : ExitAt w p) : Stands w (fun _ => True) p := by
  obtain ⟨h1, M, h2, h3⟩ := h
  obtain ⟨x, u⟩ := p
  simp only at h1 h2
  subst h1 h2
  refine ⟨_, _, M, 0, rfl, .inr ⟨_, _, rfl, Nat.le_refl _, fun _ => rfl, fun i c hi => ?_⟩, fun _ => trivial, (show exitW.name.length ≤ maxLen by decide), (show exitW.code.length ≤ maxLen by decide)⟩
  rw [Nat.zero_add, h3.cell]
  match i, hi with
  | 0, hi => (simp [exitW] at hi; subst hi; rfl)
  | i + 1, hi => simp [exitW] at hi

theorem word_new (W : World) (p : Wd × Value) : ∀ j u, (wcells p)[j]? = some u → (W.alloc (.cells (wcells p).toArray 43)).cell? ((⟨W.heap.size, 0, none⟩ : Addr).add j) = some u := by
  intro j u hj
  rw [Addr.add_off, Nat.zero_add, cell_alloc_new]
  simpa using hj

/-- A word that has just been laid, appended to a row of one's own. -/
theorem wpList_append_one {ops : Array Oper} {rest : List Oper} {o : Oper} {a : Act} {W : World} {Q : Exit → Act → World → Prop} (hgd : o.guard = none) (s x : Operand)
    (ho : o.op = .call { callee := .builtin .append, args := #[s, x], argTypes := #[24, 24] }) (base : Nat) (v : Value) (L : List (Wd × Value)) (hs : a.eval s = v) (hown : W.ownsRow base 43 3 v L.length (L.flatMap wcells))
    (p : Wd × Value) (hp : ∃ a n c, p.2 = .slice a n c) (b : Nat) (hb : W.heap.size = b) (hx : a.eval x = .slice (some ⟨b, 0, none⟩) 1 1) (hn : L.length ≤ 1000000) (hbase : base ≤ W.heap.size)
    (h : ∀ v' w', w'.ownsRow base 43 3 v' (L ++ [p]).length ((L ++ [p]).flatMap wcells) → Keeps v.ownBlock.toList W w' → wpList Try.prog ops Q rest (a.put o.dst v') w') : wpList Try.prog ops Q (o :: rest) a (W.alloc (.cells (wcells p).toArray 43)) := by
  subst hb
  refine wpList_append_words hgd s x ho base v L.length (L.flatMap wcells) hs (World.ownsRow.keeps hown (Keeps.alloc [] _ _) (fun _ _ => List.not_mem_nil)) ⟨W.heap.size, 0, none⟩ 1 1 (wcells p) hx rfl (word_new W p) (by
    have := one_wcellsL [p] (fun q hq => by simp at hq; subst hq; exact hp)
    simpa using this) (by omega) (by simp; omega) ?_
  intro v' w' h1 h2
  refine h v' w' ?_ ((Keeps.alloc _ W _).trans h2)
  rw [List.length_append, List.flatMap_append]
  simpa using h1

structure CallsRel (k m : Nat) (cs : List UInt8) (B : Nat) (wr : World) (x y : Value) (wq : World) : Prop where
  out : ∃ (j : Nat) (cv : Value), j ≤ m ∧ x = .bool ((cs.take j).all fun c => decide (c.toNat % 30 ≤ k)) ∧ y = .int .i64 (j : Int) ∧ Whole wq B 43 [.string ⟨#[121]⟩, .int .u8 0, cv] ∧ wq.ownsRow (B + 1) 22 1 cv (callC (cs.take j)).length ((callC (cs.take j)).map uv) ∧ Keeps [] wr wq ∧ B + 1 ≤ wq.heap.size

set_option maxRecDepth 100000 in
set_option maxHeartbeats 8000000 in
theorem PrimCalls_any (w : World) (mn : Nat) (hmn : mn < 256) (vc : Value) (cs0 : List UInt8) (Mc : Nat) (hr : Reads w vc cs0 Mc) (hMc : cs0 ≠ [] → Mc < w.heap.size) (hlc : cs0.length ≤ maxLen) (tt : Nat) (hto : tt < 256) :
    Calls Try.prog 7 #[.int .u8 (mn : Int), vc, .int .u8 (tt : Int)] w fun e w' => e = .returned (.bool true) ∧ Keeps [] w w' := by
  obtain ⟨n, hn⟩ : ∃ n, n = mn % 21 := ⟨_, rfl⟩
  have hn20 : n ≤ 20 := by omega
  have e1 : ((mn : Int)).tmod 21 = (n : Int) := by rw [Int.tmod_eq_emod_of_nonneg (by omega)]; omega
  have e2 : IntKind.i64.wrap (n : Int) = (n : Int) := IntWalk.i64_in _ (by omega)
  obtain ⟨p, hp⟩ : ∃ p, p = tt % 20 := ⟨_, rfl⟩
  have hp19 : p ≤ 19 := by omega
  have e3 : ((tt : Int)).tmod 20 = (p : Int) := by rw [Int.tmod_eq_emod_of_nonneg (by omega)]; omega
  have e4 : IntKind.i64.wrap (p : Int) = (p : Int) := IntWalk.i64_in _ (by omega)
  have e5 : IntKind.u32.wrap (p : Int) = (p : Int) := IntWalk.u32_in _ (by omega)
  have HAW := Lib.hid awake11_any
  obtain ⟨ac, cc, rfl, hcc⟩ := hr.shape
  obtain ⟨m0, hm0⟩ : ∃ m0, m0 = cs0.length := ⟨_, rfl⟩
  obtain ⟨m, hm⟩ : ∃ m, m = min m0 12 := ⟨_, rfl⟩
  have hmin := fun w ts t => run_min2 w ts t (m0 : Int) 12 m (by omega)
  obtain ⟨p2, c2, hcut, hr2⟩ := hr.head m (by omega)
  obtain ⟨cs, hcs⟩ : ∃ cs, cs = cs0.take m := ⟨_, rfl⟩
  rw [← hcs] at hcut hr2
  have hcl : cs.length = m := by rw [hcs, List.length_take]; omega
  rw [← hm0] at hcut hcc hlc ⊢
  rw [hcl] at hcut hr2
  have HR2 := Lib.hid hr2
  have HCL := Lib.hid hcl
  have hMc2 : cs ≠ [] → Mc < w.heap.size := fun hne => hMc (by rintro rfl; apply hne; rw [hcs]; simp)
  have HMC := Lib.hid hMc2
  have hm12 : m ≤ 12 := by omega
  have HCK := Lib.hid (check_calls n cs p (by omega) (by omega))
  clear hn hp hm hm0 hcs hcl hr hr2 hMc hMc2
  go_enter Try.func7, Try.ntmps7
  go_wp2
  go_loopw [7, 20] (fun x y wr => ∃ (k : Nat) (xv : Value) (L : List (Wd × Value)), xv = x ∧ k ≤ n ∧ y = .int .i64 (k : Int) ∧ L.length = k ∧ wr.ownsRow w.heap.size 43 3 xv L.length (L.flatMap wcells) ∧ (∀ q ∈ L, ExitAt wr q) ∧ Keeps [] w wr) (fun _ y _ => n - (intOf y).toNat)
  case atStart => exact ⟨0, _, [], rfl, by omega, rfl, rfl, ⟨rfl, .inl ⟨rfl, rfl⟩⟩, by simp, Keeps.refl _ _⟩
  case round =>
    obtain ⟨k, xv, L, rfl, hk, rfl, hL, hown, hex, hkr⟩ := hrel
    have HO := Lib.hid hown
    have HE := Lib.hid hex
    have HK := Lib.hid hkr
    have HL := Lib.hid hL
    by_cases hlt : k < n
    · have hlt' : (k : Int) < (n : Int) := by omega
      have HS := Lib.hid hkr.size
      have HN1 := Lib.hid (show L.length ≤ 1000000 by omega)
      have HO1 := Lib.hid (World.ownsRow.keeps hown (Keeps.alloc [] wr (.cells #[.int .u32 101] 22)) (fun _ _ => List.not_mem_nil))
      have HS1 := Lib.hid (show w.heap.size ≤ (wr.alloc (.cells #[.int .u32 101] 22)).heap.size by have := hkr.size; simp; omega)
      have HPX := Lib.hid (show ∃ a n c, (exitW, Value.slice (some ⟨wr.heap.size, 0, none⟩) 1 1).2 = .slice a n c from ⟨_, _, _, rfl⟩)
      have HB1 := Lib.hid (show (wr.alloc (.cells #[.int .u32 101] 22)).heap.size = wr.heap.size + 1 by simp)
      have HW1 := Lib.hid (Whole.new wr 22 [.int .u32 101])
      clear hown hex hkr hL
      go_wp2_with (at_builtin; refine wpList_append_one rfl _ _ rfl w.heap.size xv L rfl HO1.out (exitW, Value.slice (some ⟨wr.heap.size, 0, none⟩) 1 1) HPX.out (wr.heap.size + 1) HB1.out rfl HN1.out HS1.out ?_; intro v4 w4 ho4 hk4; have HO4 := Lib.hid ho4; have HK4 := Lib.hid hk4; clear ho4 hk4)
      go_roundw
      case rel =>
        refine ⟨k + 1, _, L ++ [(exitW, Value.slice (some ⟨wr.heap.size, 0, none⟩) 1 1)], rfl, by omega, by go_num, by simp [HL.out], HO4.out, fun q hq => ?_, (HK.out.trans (Keeps.alloc [] _ _)).then HK4.out (fun x hx => .inr (HO.out.lt x (by simpa using hx)).1)⟩
        rcases List.mem_append.1 hq with hq | hq
        · exact ((HE.out q hq).keeps (Keeps.alloc [] _ _) (by simp)).keeps HK4.out (fun M ys hM => row_apart HO1.out hM)
        · simp at hq
          subst hq
          exact ⟨rfl, _, rfl, HW1.out.keeps HK4.out (row_apart HO1.out HW1.out)⟩
      case measure => simp [intOf]; omega
    · obtain rfl : k = n := by omega
      have hlt' : ¬ (k : Int) < (k : Int) := by omega
      clear hown hex hkr hL
      go_upto_region 9 with fail
      generalize hV : World.alloc wr _ = V
      have WB := Lib.hid (show Whole V wr.heap.size 43 [.string ⟨#[121]⟩, .int .u8 0, .slice none 0 0] by rw [← hV]; exact Whole.new wr 43 _)
      have KV := Lib.hid (show Keeps [] wr V by rw [← hV]; exact Keeps.alloc [] _ _)
      have HVS := Lib.hid (show V.heap.size = wr.heap.size + 1 by rw [← hV]; simp)
      clear hV
      obtain ⟨B, hB⟩ : ∃ B, B = wr.heap.size := ⟨_, rfl⟩
      have HB := Lib.hid hB
      rw [← hB] at WB HVS ⊢
      clear hB
      go_wp2
      go_loopw [10, 35] (fun x y wq => CallsRel k m cs B wr x y wq) (fun _ y _ => m - (intOf y).toNat)
      case atStart => exact ⟨⟨0, _, by omega, by simp, rfl, WB.out, ⟨rfl, .inl ⟨rfl, rfl⟩⟩, KV.out, by rw [HVS.out]; exact Nat.le_refl _⟩⟩
      case round =>
        obtain ⟨j, cv, hj, rfl, rfl, hwb, hown, hkq, hsz⟩ := hrel.out
        have HWB := Lib.hid hwb
        have HOW := Lib.hid hown
        have HKQ := Lib.hid hkq
        have HSZ := Lib.hid hsz
        by_cases hlt2 : j < m
        · have hlt2' : (j : Int) < (m : Int) := by omega
          obtain ⟨c, hc⟩ : ∃ c, cs[j]? = some c := ⟨_, List.getElem?_eq_getElem (by have := HCL.out; omega)⟩
          have hne : cs ≠ [] := by intro e; simp [e] at hc
          obtain ⟨off, cp, hpv, _, hcell⟩ := HR2.out.at hne
          injection hpv with ep em ec
          clear em ec
          subst ep
          have hMw := HMC.out hne
          have h0 := (HK.out.trans hkq).cell (hcell j c hc) (by simp)
          unfold bv at h0
          have HTC := Lib.hid (show callC (cs.take (j + 1)) = callC (cs.take j) ++ [BitVec.ofNat 32 (256 + c.toNat % 30)] by unfold callC; rw [List.take_add_one, hc]; simp)
          have HTF := Lib.hid (show ((cs.take (j + 1)).all fun c => decide (c.toNat % 30 ≤ k)) = (((cs.take j).all fun c => decide (c.toNat % 30 ≤ k)) && decide (c.toNat % 30 ≤ k)) by rw [List.take_add_one, hc]; simp)
          have HCN := Lib.hid (callC_num c)
          have hcl := c.toNat_lt
          generalize c.toNat = cn at *
          obtain ⟨r, hr⟩ : ∃ r, r = cn % 30 := ⟨_, rfl⟩
          have hr30 : r < 30 := by omega
          have g1 : ((cn : Int)).tmod 30 = (r : Int) := by rw [Int.tmod_eq_emod_of_nonneg (by omega)]; omega
          have g2 : IntKind.u32.wrap (r : Int) = (r : Int) := IntWalk.u32_in _ (by omega)
          have g3 : IntKind.i64.wrap (r : Int) = (r : Int) := IntWalk.i64_in _ (by omega)
          obtain ⟨x, hx⟩ : ∃ x, x = 256 + r := ⟨_, rfl⟩
          have g4 : IntKind.u32.wrap ((256 : Int) + (r : Int)) = (x : Int) := by rw [show (256 : Int) + (r : Int) = (x : Int) by omega]; exact IntWalk.u32_in _ (by omega)
          have g5 : (256 : Int) + (r : Int) = (x : Int) := by omega
          rw [← hr] at HTC HTF HCN
          rw [← hx] at HTC HCN
          obtain ⟨b0, b1, b2⟩ := hwb.word
          have fz := hwb.frozen 2
          have HL1 := Lib.hid (show (callC (cs.take j)).length + [BitVec.ofNat 32 x].length ≤ 1000000 by rw [callC_length, List.length_take]; simp; omega)
          have HSA := Lib.hid (show B + 1 ≤ (wr.alloc (.cells #[.int .u32 (x : Int)] 22)).heap.size by simp; omega)
          have HOA := Lib.hid (World.ownsRow.keeps hown (Keeps.alloc [] wr (.cells #[.int .u32 (x : Int)] 22)) (fun _ _ => List.not_mem_nil))
          have HRA := Lib.hid (show UReads (wr.alloc (.cells #[.int .u32 (x : Int)] 22)) (.slice (some ⟨wr.heap.size, 0, none⟩) 1 1) [BitVec.ofNat 32 x] wr.heap.size 0 by
            have := UReads.new_at wr [BitVec.ofNat 32 x] _ rfl
            simp only [List.map_cons, List.map_nil, uv, HCN.out] at this
            exact this)
          have HWA := Lib.hid fun W (hk : Keeps cv.ownBlock.toList (wr.alloc (.cells #[.int .u32 (x : Int)] 22)) W) => (hwb.keeps (Keeps.alloc [] wr (.cells #[.int .u32 (x : Int)] 22)) (by simp)).keeps hk (fun hx => by have := (hown.lt B (by simpa using hx)).1; omega)
          clear hc hcell hr hx hown hwb hkq
          have hrk : (r ≤ k ∧ decide ((r : Int) ≤ (k : Int)) = true ∧ (r : Int) ≤ (k : Int)) ∨ (¬ r ≤ k ∧ decide ((r : Int) ≤ (k : Int)) = false ∧ ¬ (r : Int) ≤ (k : Int)) := by
            by_cases h : r ≤ k
            · exact .inl ⟨h, by simp; omega, by omega⟩
            · exact .inr ⟨h, by simp; omega, by omega⟩
          generalize hq : ((cs.take j).all fun c => decide (c.toNat % 30 ≤ k)) = q at *
          clear hq
          have hqq : q = true ∨ q = false := by cases q <;> simp
          rcases hqq with rfl | rfl <;> rcases hrk with ⟨hr1, hr2, hr3⟩ | ⟨hr1, hr2, hr3⟩
          all_goals
            go_wp2_with (at_builtin; refine wpList_append_u rfl _ _ rfl (B + 1) cv (callC (cs.take j)) rfl HOA.out (.slice (some ⟨wr.heap.size, 0, none⟩) 1 1) [BitVec.ofNat 32 x] wr.heap.size 0 rfl HRA.out HL1.out HSA.out ?_; intro v4 w4 ho4 hk4 hn4; obtain ⟨M4, hr4, _⟩ := UReads.owns ho4; obtain ⟨a4, c4, hv4, _⟩ := hr4.shape; obtain ⟨n4, hn4'⟩ : ∃ n4, n4 = (callC (cs.take j) ++ [BitVec.ofNat 32 x]).length := ⟨_, rfl⟩; rw [← hn4'] at hv4; subst hv4; clear hr4 hn4'; have hw4 := HWA.out w4 hk4; have c40 := hw4.cell 2; have f40 := hw4.frozen 2; simp only [List.getElem?_cons_succ, List.getElem?_cons_zero] at c40; have HW4 := Lib.hid hw4; have HO4 := Lib.hid ho4; have HK4 := Lib.hid hk4; clear ho4 hk4 hn4 hw4)
            go_roundw
            case rel =>
              have hst := HW4.out.set 2 (.slice a4 n4 c4)
              have hks : Keeps [B] w4 (w4.setCell ⟨B, 2, none⟩ (.slice a4 n4 c4)) := Keeps.setCell _ (by simp) _
              have hko := World.ownsRow.keeps HO4.out hks (fun g hg => by have := (HO4.out.lt g hg).1; simp; omega)
              have hB := HB.out
              refine ⟨⟨j + 1, _, by omega, by rw [HTF.out]; simp [hr1], by go_num, hst, by rw [HTC.out]; exact hko, ?_, ?_⟩⟩
              · exact ((HKQ.out.trans (Keeps.alloc [] _ _)).then HK4.out (fun g hg => .inr (by have := (HOW.out.lt g (by simpa using hg)).1; omega))).then hks (fun g hg => .inr (by simp at hg; omega))
              · have h1 := HK4.out.size; have h2 := HSZ.out; have h3 := hks.size; simp at h1; omega
            case measure => simp [intOf]; omega
        · obtain rfl : j = m := by omega
          have hlt2' : ¬ (j : Int) < (j : Int) := by omega
          have htk : cs.take j = cs := List.take_of_length_le (by have := HCL.out; omega)
          rw [htk] at hown ⊢
          obtain ⟨Mq, hrq, _⟩ := UReads.owns hown
          obtain ⟨aq, cq, rfl, hcq⟩ := hrq.shape
          rw [callC_length, HCL.out] at hcq
          have hlen : (callC cs).length = j := by rw [callC_length, HCL.out]
          obtain ⟨b0, b1, b2⟩ := hwb.word
          rw [hlen] at b2 hown
          have HOQ := Lib.hid (show World.ownsRow wr (B + 1) 22 1 (.slice aq j cq) (callC cs).length ((callC cs).map uv) by rw [hlen]; exact hown)
          have fz := hwb.frozen 2
          have hbp : (BitVec.ofNat 32 p).toNat = p := by rw [BitVec.toNat_ofNat]; omega
          have HOA := Lib.hid (World.ownsRow.keeps HOQ.out (Keeps.alloc [] wr (.cells #[.int .u32 104, .int .u32 (p : Int), .int .u32 101] 22)) (fun _ _ => List.not_mem_nil))
          have HRA := Lib.hid fun (W : World) => (show UReads (W.alloc (.cells #[.int .u32 104, .int .u32 (p : Int), .int .u32 101] 22)) (.slice (some ⟨W.heap.size, 0, none⟩) 3 3) [104#32, BitVec.ofNat 32 p, 101#32] W.heap.size 0 by
            have := UReads.new_at W [104#32, BitVec.ofNat 32 p, 101#32] _ rfl
            simp only [List.map_cons, List.map_nil, uv, hbp] at this
            exact this)
          have HL3 := Lib.hid (show (callC cs).length + [104#32, BitVec.ofNat 32 p, 101#32].length ≤ 1000000 by rw [hlen]; simp; omega)
          have HS3 := Lib.hid (show B + 1 ≤ (World.alloc wr (.cells #[.int .u32 104, .int .u32 (p : Int), .int .u32 101] 22)).heap.size from Nat.le_trans hsz (by simp))
          have HWA := Lib.hid fun W (hk : Keeps (Value.slice aq j cq).ownBlock.toList (World.alloc wr (.cells #[.int .u32 104, .int .u32 (p : Int), .int .u32 101] 22)) W) => (hwb.keeps (Keeps.alloc [] wr (.cells #[.int .u32 104, .int .u32 (p : Int), .int .u32 101] 22)) (by simp)).keeps hk (fun hx => by have hBt := HB.out; have := (HOQ.out.lt B (by simpa using hx)).1; omega)
          have HKN := Lib.hid fun W (hk : Keeps (Value.slice aq j cq).ownBlock.toList (World.alloc wr (.cells #[.int .u32 104, .int .u32 (p : Int), .int .u32 101] 22)) W) => (hkq.trans (Keeps.alloc [] wr (.cells #[.int .u32 104, .int .u32 (p : Int), .int .u32 101] 22))).then hk (fun g hg => .inr (by have hBt := HB.out; have := (HOQ.out.lt g (by simpa using hg)).1; omega))
          clear hown hrq hwb hkq b0 b1 hlen
          obtain ⟨q, hq⟩ : ∃ q, q = (cs.all fun c => decide (c.toNat % 30 ≤ k)) := ⟨_, rfl⟩
          rw [← hq]
          have hck := HCK.out
          rw [show fineC k cs p = (q && (decide (p ≤ j) || decide (p = j + 2))) by unfold fineC; rw [HCL.out, hq]] at hck
          have g6 : IntKind.i64.wrap ((j : Int) + 2) = (j : Int) + 2 := IntWalk.i64_in _ (by omega)
          have hcase : (q = false ∧ checkL (List.replicate k exitW ++ [callsW cs p]) = (k : Int)) ∨
              (q = true ∧ (decide ((p : Int) ≤ (j : Int)) = true ∧ (p : Int) ≤ (j : Int)) ∧ checkL (List.replicate k exitW ++ [callsW cs p]) = -1) ∨
              (q = true ∧ (decide ((p : Int) ≤ (j : Int)) = false ∧ ¬ (p : Int) ≤ (j : Int)) ∧ (((p : Int) == (j : Int) + 2) = true ∧ (p : Int) = (j : Int) + 2) ∧ checkL (List.replicate k exitW ++ [callsW cs p]) = -1) ∨
              (q = true ∧ (decide ((p : Int) ≤ (j : Int)) = false ∧ ¬ (p : Int) ≤ (j : Int)) ∧ (((p : Int) == (j : Int) + 2) = false ∧ ¬ (p : Int) = (j : Int) + 2) ∧ checkL (List.replicate k exitW ++ [callsW cs p]) = (k : Int)) := by
            cases q
            · exact .inl ⟨rfl, by rw [hck]; simp⟩
            · by_cases h1 : p ≤ j
              · exact .inr (.inl ⟨rfl, ⟨by simp; omega, by omega⟩, by rw [hck]; simp [h1]⟩)
              · by_cases h2 : p = j + 2
                · exact .inr (.inr (.inl ⟨rfl, ⟨by simp; omega, by omega⟩, ⟨by rw [beq_iff_eq]; omega, by omega⟩, by rw [hck]; simp [h2]⟩))
                · exact .inr (.inr (.inr ⟨rfl, ⟨by simp; omega, by omega⟩, ⟨by rw [beq_eq_false_iff_ne]; omega, by omega⟩, by rw [hck]; simp [h1, h2]⟩))
          have HCC := Lib.hid hcase
          clear hck hq hcase
          go_upto_region 18 with (at_builtin; refine wpList_append_u rfl _ _ rfl (B + 1) (.slice aq j cq) (callC cs) rfl HOA.out (.slice (some ⟨wr.heap.size, 0, none⟩) 3 3) [104#32, BitVec.ofNat 32 p, 101#32] wr.heap.size 0 rfl (HRA.out _) HL3.out HS3.out ?_; intro v4 w4 ho4 hk4 hn4; obtain ⟨M4, hr4, hM4⟩ := UReads.owns ho4; obtain ⟨a5, c5, hv4, _⟩ := hr4.shape; obtain ⟨n5, hn5⟩ : ∃ n5, n5 = (callC cs ++ [104#32, BitVec.ofNat 32 p, 101#32]).length := ⟨_, rfl⟩; rw [← hn5] at hv4; have HN5 := Lib.hid hn5; clear hn5; subst hv4; have hw4 := HWA.out w4 hk4; have HKN4 := Lib.hid (HKN.out w4 hk4); have HR4 := Lib.hid hr4; have HM4 := Lib.hid (hM4 (by simp)); have c40 := hw4.cell 2; have f40 := hw4.frozen 2; simp only [List.getElem?_cons_succ, List.getElem?_cons_zero] at c40; have HW4 := Lib.hid hw4; clear ho4 hk4 hn4 hw4 hr4 hM4)
          generalize hX : World.setCell w4 _ _ = X
          have WX : Whole X B 43 [.string ⟨#[121]⟩, .int .u8 0, .slice a5 n5 c5] := by rw [← hX]; exact HW4.out.set 2 (.slice a5 n5 c5)
          have KS : Keeps [B] w4 X := by rw [← hX]; exact Keeps.setCell _ (by simp) _
          have KX := HKN4.out.then KS (fun g hg => .inr (by have := HB.out; simp at hg; omega))
          have hr5 := HR4.out.keeps KS (fun _ => by have := HM4.out.2.1; simp; omega)
          clear hX c40 f40
          obtain ⟨x0, x1, x2⟩ := WX.word
          have HOX := Lib.hid (World.ownsRow.keeps HO.out KX (fun _ _ => List.not_mem_nil))
          have HSX := Lib.hid (show w.heap.size ≤ X.heap.size from Nat.le_trans HK.out.size KX.size)
          have HNL := Lib.hid (show L.length ≤ 1000000 by have := HL.out; omega)
          have HPX := Lib.hid (show ∃ a n c, (callsW cs p, Value.slice a5 n5 c5).2 = .slice a n c from ⟨_, _, _, rfl⟩)
          have HLL := Lib.hid (show (List.replicate k exitW ++ [callsW cs p]).length ≤ 1000000 by simp; omega)
          have HKF := Lib.hid fun W (hk : Keeps xv.ownBlock.toList X W) => (HK.out.trans KX).then hk (fun g hg => .inr (by have := (HO.out.lt g (by simpa using hg)).1; omega))
          have HFIN := Lib.hid (show ∀ (v : Value) (W : World), W.ownsRow w.heap.size 43 3 v (L ++ [(callsW cs p, Value.slice a5 n5 c5)]).length ((L ++ [(callsW cs p, Value.slice a5 n5 c5)]).flatMap wcells) → Keeps xv.ownBlock.toList X W → WordsIn W (fun q => q < W.heap.size) v (List.replicate k exitW ++ [callsW cs p]) from fun v W ho hk => by
            have h1 := row_words (P := fun _ => True) ho (Nat.le_trans (show (L ++ [(callsW cs p, Value.slice a5 n5 c5)]).length ≤ 100 by have := HL.out; simp; omega) (by decide)) (fun q hq => by
              rcases List.mem_append.1 hq with hq | hq
              · exact (((HE.out q hq).keeps KX (by simp)).keeps hk (fun M ys hM => row_apart HOX.out hM)).stands
              · simp only [List.mem_singleton] at hq
                subst hq
                have e : n5 = (callsW cs p).code.length := HN5.out
                refine ⟨a5, c5, M4, 0, by rw [← e], hr5.keeps hk (fun _ hx => ?_), fun _ => trivial, (show ([121] : List UInt8).length ≤ maxLen by decide), Nat.le_trans (show (callsC cs p).length ≤ 100 by rw [callsC_length, HCL.out]; omega) (by decide)⟩
                have h2 := (HO.out.lt M4 (by simpa using hx)).2
                have h3 := HM4.out.2.1
                have h4 := HB.out
                omega)
            have h2 : (L ++ [(callsW cs p, Value.slice a5 n5 c5)]).map (·.1) = List.replicate k exitW ++ [callsW cs p] := by
              rw [List.map_append]
              congr 1
              refine List.eq_replicate_iff.2 ⟨by rw [List.length_map]; exact HL.out, fun x hx => ?_⟩
              obtain ⟨q, hq, rfl⟩ := List.mem_map.1 hx
              exact (HE.out q hq).1
            rw [h2] at h1
            exact h1.imp (fun k hk _ => hk))
          clear WX KS KX hr5
          rcases HCC.out with ⟨rfl, hz⟩ | ⟨rfl, ⟨p1, p2⟩, hz⟩ | ⟨rfl, ⟨p1, p2⟩, ⟨p3, p4⟩, hz⟩ | ⟨rfl, ⟨p1, p2⟩, ⟨p3, p4⟩, hz⟩
          all_goals
            have HZ := Lib.hid hz
            clear hz
            go_wp2_with (first
              | (at_builtin; refine wpList_append_one rfl _ _ rfl w.heap.size xv L rfl HOX.out (callsW cs p, Value.slice a5 n5 c5) HPX.out _ rfl rfl HNL.out HSX.out ?_; intro v6 w6 ho6 hk6; have HW6 := Lib.hid (HFIN.out v6 w6 ho6 hk6); have HK6 := Lib.hid (HKF.out w6 hk6); clear ho6 hk6)
              | (go_at_call 15; refine (Check_any _ _ _ HW6.out HLL.out _ HZ.out).mono ?_; rintro e w7 ⟨rfl, hk7⟩; have HK7 := Lib.hid (HK6.out.trans hk7); clear hk7)
              | (go_at_call 8; refine (HAW.out _).mono ?_; rintro e wa ⟨rfl, hka⟩; have HKA := Lib.hid (HK7.out.trans hka); clear hka))
            go_ret
            exact ⟨rfl, HKA.out⟩
end Go.Proofs.Ytcljddfmelnniaa
