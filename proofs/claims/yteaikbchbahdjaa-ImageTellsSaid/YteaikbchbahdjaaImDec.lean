/-
  Words as bytes: words in memory of their own; the words of bytes (the program's).
-/
import Derived.Test.YteaikbchbahdjaaImFirst
namespace Go.Proofs.Yteaikbchbahdjaa
open Go.RowKit Go.Deep
set_option linter.unusedVariables false

/-- A word's code, in memory from base on (t: in a block that holds nothing else). -/
def Got (t : Bool) (w : World) (base : Nat) (x : Wd) (cv : Value) : Prop :=
  ∃ a cap M off, cv = .slice a x.code.length cap ∧ UReads w cv x.code M off ∧ (x.code ≠ [] → base ≤ M ∧ ∃ cs fz, w.heap[M]? = some (.cells cs 44 fz)) ∧ rightW x = true ∧
    (t = true → cv = .slice (some ⟨M, 0, none⟩) x.code.length x.code.length ∧ Whole w M 44 (x.code.map uv) ∧ base ≤ M)

theorem Got.shape {t : Bool} {w : World} {base : Nat} {x : Wd} {cv : Value} (h : Got t w base x cv) : ∃ a cap, cv = .slice a x.code.length cap := by
  obtain ⟨a, cap, M, off, hv, _⟩ := h
  exact ⟨a, cap, hv⟩

theorem Got.mono {t : Bool} {w : World} {base b0 : Nat} {x : Wd} {cv : Value} (h : Got t w base x cv) (hb : b0 ≤ base) : Got t w b0 x cv := by
  obtain ⟨a, cap, M, off, hv, h1, h2, h3, h4⟩ := h
  exact ⟨a, cap, M, off, hv, h1, fun hne => ⟨by have := (h2 hne).1; omega, (h2 hne).2⟩, h3, fun ht => ⟨(h4 ht).1, (h4 ht).2.1, by have := (h4 ht).2.2; omega⟩⟩

theorem Got.keeps {S : List Nat} {t : Bool} {w w' : World} {base : Nat} {x : Wd} {cv : Value} (h : Got t w base x cv) (hk : Keeps S w w') (hS : ∀ k ∈ S, ∀ cs fz, w.heap[k]? ≠ some (.cells cs 44 fz)) : Got t w' base x cv := by
  obtain ⟨a, cap, M, off, hv, h1, h2, h3, h4⟩ := h
  refine ⟨a, cap, M, off, hv, h1.keeps hk (fun hne hm => ?_), fun hne => ⟨(h2 hne).1, ?_⟩, h3, fun ht => ⟨(h4 ht).1, (h4 ht).2.1.keeps hk (fun hm => hS _ hm _ _ (h4 ht).2.1), (h4 ht).2.2⟩⟩
  · obtain ⟨_, cs, fz, hc⟩ := h2 hne
    exact hS _ hm _ _ hc
  · obtain ⟨_, cs, fz, hc⟩ := h2 hne
    exact ⟨cs, fz, hk.obj hc (fun hm => hS _ hm _ _ hc)⟩

theorem Got.next {t : Bool} {w w' : World} {base : Nat} {x : Wd} {cv : Value} (h : Got t w base x cv) (hk : Keeps [] w w') : Got t w' base x cv := h.keeps hk (fun k hm => by simp at hm)

def wcells (p : Wd × Value) : List Value := [str p.1.name, bv p.1.flags, p.2]

/-- Words in a row of one's own. -/
structure WordsOwn (t : Bool) (w : World) (base : Nat) (v : Value) (l : List (Wd × Value)) : Prop where
  row : w.ownsRow base 27 3 v l.length (l.flatMap wcells)
  got : ∀ p ∈ l, Got t w base p.1 p.2

theorem WordsOwn.next {t : Bool} {w w' : World} {base : Nat} {v : Value} {l : List (Wd × Value)} (h : WordsOwn t w base v l) (hk : Keeps [] w w') : WordsOwn t w' base v l :=
  ⟨World.ownsRow.keeps h.row hk (fun _ _ => List.not_mem_nil), fun p hp => (h.got p hp).next hk⟩

theorem own_not_u32 {w : World} {base size n : Nat} {v : Value} {xs : List Value} (h : w.ownsRow base 27 size v n xs) : ∀ k ∈ v.ownBlock.toList, ∀ cs fz, w.heap[k]? ≠ some (.cells cs 44 fz) := by
  intro k hk cs fz hc
  have e2 : v.ownBlock = some k := by simpa using hk
  rcases h.2 with ⟨rfl, _⟩ | ⟨g, cap, cur, rfl, _, hg, _⟩
  · cases e2
  · have : g = k := by simpa [Value.ownBlock] using e2
    subst this
    rw [hc] at hg
    injection hg with hg
    injection hg with _ h2 _
    exact absurd h2 (by decide)

theorem wcells_at {l : List (Wd × Value)} {i : Nat} {p : Wd × Value} (h : l[i]? = some p) (j : Nat) (hj : j < 3) : (l.flatMap wcells)[i * 3 + j]? = (wcells p)[j]? := by
  induction l generalizing i with
  | nil => simp at h
  | cons q l ih =>
    rw [List.flatMap_cons]
    have hq : (wcells q).length = 3 := rfl
    cases i with
    | zero =>
      simp at h; subst h
      rw [List.getElem?_append_left (by omega)]; simp
    | succ i =>
      rw [List.getElem?_append_right (by omega), hq, show (i + 1) * 3 + j - 3 = i * 3 + j by omega]
      exact ih (by simpa using h)

theorem WordsOwn.words {t : Bool} {w : World} {base : Nat} {v : Value} {l : List (Wd × Value)} (h : WordsOwn t w base v l) (hm : l.length ≤ maxLen) : WordsIn w (fun k => base ≤ k ∧ k < w.heap.size) v (l.map (·.1)) := by
  have hrow := h.row
  rcases hrow.2 with ⟨rfl, hn⟩ | ⟨g, cap, cur, rfl, hb, hg, hnc, _, hcs, htk⟩
  · have : l = [] := List.eq_nil_of_length_eq_zero hn
    subst this
    exact WordsIn.nil _ _
  · have hcell : ∀ j u, (l.flatMap wcells)[j]? = some u → w.cell? ⟨g, j, none⟩ = some u := by
      intro j u hu
      have := hrow.cells (g := g) (by rfl) j u hu
      rwa [Addr.add_off, Nat.zero_add] at this
    refine ⟨some ⟨g, 0, none⟩, cap, g, 0, by rw [List.length_map], by rw [List.length_map]; exact hnc, by rw [List.length_map]; exact hm, fun _ => ⟨rfl, hb, (Array.getElem?_eq_some_iff.1 hg).1⟩, fun i x hx => ?_⟩
    rw [List.getElem?_map] at hx
    obtain ⟨p, hp, rfl⟩ := Option.map_eq_some_iff.1 hx
    obtain ⟨a, cp, M, off, hv, h1, h2, h3, _⟩ := h.got p (List.mem_of_getElem? hp)
    have hr := right_bounds h3
    refine ⟨a, cp, M, off, ?_, ?_, ?_, hv ▸ h1, fun hne => ⟨(h2 hne).1, h1.lt hne⟩, by unfold maxLen; omega, by unfold maxLen; omega⟩
    · rw [Nat.zero_add]
      exact hcell _ _ (by have := wcells_at hp 0 (by decide); rw [Nat.add_zero] at this; rw [this]; rfl)
    · rw [Nat.zero_add]
      exact hcell _ _ (by rw [wcells_at hp 1 (by decide)]; rfl)
    · rw [Nat.zero_add]
      exact hcell _ _ (by rw [wcells_at hp 2 (by decide), ← hv]; rfl)

/-- What is asked of the first word of bytes. -/
def FirstSaid (fn : FuncId) (t : Bool) : Prop := ∀ (w : World) (v : Value) (b : List UInt8) (M : Nat), Reads w v b M → b.length ≤ 1000000 →
  Calls Try.prog fn #[v] w fun e w' => (∃ x s f a n c z, firstW b = some x ∧ e = .returned (.tuple #[.agg #[.string s, .int .u8 f, .slice a n c], .int .i64 z]) ∧ Hid (Value.string s = str x.name ∧ Value.int .u8 f = bv x.flags ∧ z = (sizeW x : Int)) ∧ Got t w' w.heap.size x (.slice a n c) ∧ Keeps [] w w') ∨
    (firstW b = none ∧ ∃ s f a n c, e = .returned (.tuple #[.agg #[.string s, .int .u8 f, .slice a n c], .int .i64 0]) ∧ Keeps [] w w')

theorem imFirst_said : FirstSaid 29 true := by
  intro w v b M hr hb
  by_cases h4 : b.length < 4
  · refine (first_none w v b M hr hb (.inl h4)).mono fun e w' ⟨he, hk⟩ => .inr ⟨by unfold firstW; rw [if_pos h4], ⟨#[]⟩, 0, none, 0, 0, by rw [he]; rfl, hk⟩
  by_cases h5 : b.length < 4 + headN b + 4 * headC b
  · refine (first_none w v b M hr hb (.inr h5)).mono fun e w' ⟨he, hk⟩ => .inr ⟨by unfold firstW; rw [if_neg h4, if_pos h5], ⟨#[]⟩, 0, none, 0, 0, by rw [he]; rfl, hk⟩
  refine (first_is w v b M hr hb h4 h5).mono fun e w' ⟨g, he, hg, hgs, hk⟩ => ?_
  by_cases hx : rightW (wordOfB b) = true
  · refine .inl ⟨wordOfB b, ⟨(wordOfB b).name.toArray⟩, ((wordOfB b).flags.toNat : Int), some ⟨g, 0, none⟩, (wordOfB b).code.length, (wordOfB b).code.length, (sizeW (wordOfB b) : Int), by unfold firstW; rw [if_neg h4, if_neg h5, if_pos hx], ?_, Lib.hid ⟨rfl, rfl, rfl⟩, ⟨_, _, g, 0, rfl, ?_, fun _ => ⟨hgs, _, _, hg⟩, hx, fun _ => ⟨rfl, hg, hgs⟩⟩, hk⟩
    · rw [he]; unfold sizeR; rw [if_pos hx]; rfl
    · refine .inr ⟨_, _, rfl, Nat.le_refl _, fun _ => rfl, fun i c hi => ?_⟩
      rw [Nat.zero_add, hg.cell]; simp [hi]
  · refine .inr ⟨by unfold firstW; rw [if_neg h4, if_neg h5, if_neg hx], ⟨(wordOfB b).name.toArray⟩, ((wordOfB b).flags.toNat : Int), some ⟨g, 0, none⟩, (wordOfB b).code.length, (wordOfB b).code.length, ?_, hk⟩
    rw [he]; unfold sizeR; rw [if_neg hx]; rfl

def sliceLen10 : Value → Nat
  | .slice _ n _ => n
  | _ => 0

theorem infoWord : (Try.prog.info? 27).map (fun i => (i.zero, i.size, i.bytes)) = some (some (.agg #[.string ⟨#[]⟩, .int .u8 0, .slice none 0 0]), 3, 48) := by kernel_rfl

theorem Reads.keepsIf {S : List Nat} {w w' : World} {v : Value} {l : List UInt8} {M : Nat} (h : Reads w v l M) (hk : Keeps S w w') (hM : l ≠ [] → M ∉ S) : Reads w' v l M := by
  by_cases hl : l = []
  · subst hl
    rcases h with h | ⟨ad, cap, hv, hc, _, hr⟩
    · exact .inl h
    · exact .inr ⟨ad, cap, hv, hc, fun h => absurd rfl h, fun i c hi => by simp at hi⟩
  · exact h.keeps hk (hM hl)

theorem Reads.under {w : World} {v : Value} {l : List UInt8} {M : Nat} (h : Reads w v l M) (hl : l ≠ []) : M < w.heap.size := by
  obtain ⟨off, cap, rfl, _, hc⟩ := h.at hl
  have h0 := hc 0 (l[0]'(List.length_pos_iff.2 hl)) (List.getElem?_eq_getElem (List.length_pos_iff.2 hl))
  exact World.block_lt_of_cell? w _ h0

theorem one_wcells (s : ByteArray) (f : Int) (a : Option Addr) (n c : Nat) : ∀ u ∈ ([.string s, .int .u8 f, .slice a n c] : List Value), u.oneCell' = true := by
  intro u hu
  simp at hu
  rcases hu with rfl | rfl | rfl <;> rfl

/-- Words appended to a row of one's own. -/
theorem wpList_append_words {ops : Array Oper} {rest : List Oper} {o : Oper} {a : Act} {w : World} {Q : Exit → Act → World → Prop} (hgd : o.guard = none) (s x : Operand)
    (ho : o.op = .call { callee := .builtin .append, args := #[s, x], argTypes := #[22, 22] }) (base : Nat) (v : Value) (n : Nat) (xs : List Value) (hs : a.eval s = v) (hown : w.ownsRow base 27 3 v n xs)
    (ad : Addr) (m c : Nat) (news : List Value) (hx : a.eval x = .slice (some ad) m c) (hl : news.length = m * 3) (hnews : ∀ j u, news[j]? = some u → w.cell? (ad.add j) = some u) (h1 : ∀ u ∈ news, u.oneCell' = true) (hlen : n + m ≤ 2000000) (hbase : base ≤ w.heap.size)
    (h : ∀ v' w', w'.ownsRow base 27 3 v' (n + m) (xs ++ news) → Keeps v.ownBlock.toList w w' → wpList Try.prog ops Q rest (a.put o.dst v') w') : wpList Try.prog ops Q (o :: rest) a w := by
  obtain ⟨i0, hi, hz0, hz1, hz2⟩ := info_parts infoWord
  refine wpList_append_own w hgd s x 22 ho base 27 i0 _ 3 48 Try.underlying22 hi hz0 hz1 hz2 rfl (by decide) v n xs hs hown ad m c news hx hl hnews h1 (by unfold maxLen; omega) (by omega) hbase ?_
  intro v' w' hown' hg _
  exact h v' w' hown' (Keeps.grown hg (fun k hk => .inl (by simp [hk])))

set_option maxRecDepth 100000 in
set_option maxHeartbeats 2000000 in
theorem Decode_said (w : World) (v : Value) (b : List UInt8) (M : Nat) (hr : Reads w v b M) (hb : b.length ≤ 1000000) :
    Calls Try.prog 17 #[v] w fun e w' => (∃ l v', decL b = some (l.map (·.1)) ∧ e = .returned (.tuple #[v', .int .i64 0]) ∧ WordsOwn true w' w.heap.size v' l ∧ l.length ≤ b.length ∧ Keeps [] w w') ∨
      (decL b = none ∧ e = .returned (.tuple #[.slice none 0 0, .int .i64 100]) ∧ Keeps [] w w') := by
  obtain ⟨a0, cap0, rfl, _⟩ := hr.shape
  have HF := Lib.hid imFirst_said
  have HR := Lib.hid hr
  have HB := Lib.hid hb
  clear hr hb
  go_enter Try.func17, Try.ntmps17
  go_wp2
  go_loopw [0, 4, 5, 6] (fun bb ll _ _ wr => ∃ (l : List (Wd × Value)) (bs : List UInt8) (a : Option Addr) (cap : Nat) (vl : Value), bb = .slice a bs.length cap ∧ vl = ll ∧ (bs ≠ [] → M < w.heap.size) ∧ Reads wr (.slice a bs.length cap) bs M ∧ l.length + bs.length ≤ b.length ∧ decL b = (decL bs).map (l.map (·.1) ++ ·) ∧ WordsOwn true wr w.heap.size vl l ∧ Below w.heap.size w wr) (fun bb _ _ _ _ => sliceLen10 bb)
  case atStart => exact ⟨[], b, a0, cap0, _, rfl, rfl, fun hne => HR.out.under hne, HR.out, by simp, by simp, ⟨World.ownsRow_nil _ _ _ _, fun p hp => by simp at hp⟩, Below.refl _ _⟩
  case round =>
    obtain ⟨l, bs, a, cap, vl, rfl, rfl, hMlt, hrb, hlen, hdec, hown, hbel⟩ := hrel
    have HRB := Lib.hid hrb
    have HLN := Lib.hid hlen
    have HD := Lib.hid hdec
    have HO := Lib.hid hown
    have HBL := Lib.hid hbel
    clear hrb hlen hdec hown hbel
    by_cases hne : bs = []
    · subst hne
      go_wp2
      go_ret2
      exact .inl ⟨l, _, by rw [HD.out, dec_nil]; simp, rfl, HO.out, by have := HLN.out; omega, Keeps.ofBelow HBL.out⟩
    · have hpos : 0 < bs.length := List.length_pos_iff.2 hne
      have HST := Lib.hid (dec_step bs hne)
      have HC := Lib.hid (HF.out wr _ bs M HRB.out (by have := HLN.out; have := HB.out; omega))
      obtain ⟨n, hn⟩ : ∃ n, n = bs.length := ⟨_, rfl⟩
      rw [← hn] at hpos HC ⊢
      have HN := Lib.hid hn
      have hpos' : (0 : Int) < (n : Int) := by omega
      have hn6 : n ≤ 1000000 := by have := HLN.out; have := HB.out; have := HN.out; omega
      have hMw := hMlt hne
      clear hne hn hMlt
      obtain ⟨i0, hi, hz0, hz1, hz2⟩ := info_parts infoWord
      go_upto_region 4 with (go_at_call 29; refine HC.out.mono ?_; rintro e w1 (⟨x, s0, f0, a1, n1, c1, z, hx, rfl, hss, hg, hk⟩ | ⟨hx, s0, f0, a1, n1, c1, rfl, hk⟩))
      · obtain ⟨hs1, hs2, hs3⟩ := hss.out
        obtain ⟨hxr, hbb, hle⟩ := first_some hx
        have hz := sizeW_pos x
        have hz2' := sizeW_le hxr
        have HX := Lib.hid hx
        have HG := Lib.hid hg
        have HK1 := Lib.hid hk
        have HS1 := Lib.hid hs1
        have HS2 := Lib.hid hs2
        have HBB := Lib.hid hbb
        obtain ⟨y, hy⟩ : ∃ y, y = sizeW x := ⟨_, rfl⟩
        rw [← hy] at hz hle hs3 hz2'
        rw [← HN.out] at hle
        have HY := Lib.hid hy
        subst hs3
        clear hx hg hk hs1 hs2 hbb hxr hy hss
        have hy0 : ((y : Int) == 0) = false := by simp; omega
        generalize hV : World.alloc w1 _ = V
        have WX := Lib.hid (show Whole V w1.heap.size 27 [.string s0, .int .u8 f0, .slice a1 n1 c1] by rw [← hV]; exact Whole.new w1 _ _)
        have KV := Lib.hid (show Keeps [] w1 V by rw [← hV]; exact Keeps.alloc _ _ _)
        have p0 := WX.out.cell 0
        have p1 := WX.out.cell 1
        have p2 := WX.out.cell 2
        simp only [List.getElem?_cons_zero, List.getElem?_cons_succ] at p0 p1 p2
        clear hV
        have HOV := Lib.hid ((HO.out.next HK1.out).next KV.out)
        have HGV := Lib.hid (HG.out.next KV.out)
        have HBV := Lib.hid (below_keeps (below_keeps HBL.out HK1.out (Nat.le_refl _)) KV.out (Nat.le_refl _))
        have hvs : w.heap.size ≤ V.heap.size := HBV.out.size
        obtain ⟨p3, c3, hrun, hrd⟩ := (HRB.out.keeps (HK1.out.trans KV.out) (by simp)).tail y (by rw [← HN.out]; exact hle)
        rw [← HN.out] at hrun
        have HRD := Lib.hid hrd
        have HDL := Lib.hid (show (bs.drop y).length = n - y by rw [List.length_drop, HN.out])
        rw [HDL.out] at hrun
        clear hrd
        obtain ⟨ll, hll⟩ : ∃ ll, ll = l.length := ⟨_, rfl⟩
        have hll2 : ll ≤ 1000000 := by have := HLN.out; have := HB.out; omega
        have HLL := Lib.hid hll
        clear hll
        go_wp2_with (first | (at_builtin; go_loud (refine wpList_append_words rfl _ _ rfl w.heap.size vl ll (l.flatMap wcells) rfl (by rw [HLL.out]; exact (HOV.out.next (Keeps.alloc [] _ _)).row) ⟨V.heap.size, 0, none⟩ 1 1 [.string s0, .int .u8 f0, .slice a1 n1 c1] rfl rfl (fun j u hu => by rw [Addr.add_off, Nat.zero_add, (Whole.new V 27 [.string s0, .int .u8 f0, .slice a1 n1 c1]).cell]; exact hu) (one_wcells _ _ _ _ _) (by omega) (by simp; omega) ?_); intro v4 w4 hown4 hk4; have HO4 := Lib.hid hown4; have HK4 := Lib.hid hk4; clear hown4 hk4))
        have hnot := own_not_u32 (HOV.out.next (Keeps.alloc [] V (.cells #[.string s0, .int .u8 f0, .slice a1 n1 c1] 27))).row
        have HB4 := Lib.hid (below_owned (below_keeps HBV.out (Keeps.alloc [] V _) (Nat.le_refl _)) (HOV.out.next (Keeps.alloc [] V _)).row HK4.out (Nat.le_refl _))
        have HW4 := Lib.hid (show WordsOwn true w4 w.heap.size v4 (l ++ [(x, .slice a1 n1 c1)]) by
          refine ⟨?_, fun p hp => ?_⟩
          · have := HO4.out
            rw [HLL.out] at this
            rw [List.length_append, List.flatMap_append]
            have e : [(x, Value.slice a1 n1 c1)].flatMap wcells = [.string s0, .int .u8 f0, .slice a1 n1 c1] := by simp [wcells, HS1.out, HS2.out]
            rw [e]; exact this
          · rcases List.mem_append.1 hp with hp | hp
            · exact ((HOV.out.next (Keeps.alloc [] V _)).got p hp).keeps HK4.out hnot
            · simp at hp; subst hp
              exact (((HGV.out.next (Keeps.alloc [] V _)).keeps HK4.out hnot)).mono (by have := HBL.out.size; omega))
        have HR4 := Lib.hid ((HRD.out.keeps (Keeps.alloc [] V (.cells #[.string s0, .int .u8 f0, .slice a1 n1 c1] 27)) (by simp)).keepsIf HK4.out (fun _ hm => by
          have := (((HOV.out.next (Keeps.alloc [] V (.cells #[.string s0, .int .u8 f0, .slice a1 n1 c1] 27))).row.lt M (by simpa using hm)).1)
          omega))
        go_roundw
        case rel =>
          refine ⟨l ++ [(x, .slice a1 n1 c1)], bs.drop y, p3, c3, v4, by rw [HDL.out], rfl, fun _ => hMw, HR4.out, ?_, ?_, HW4.out, HB4.out⟩
          · have := HLN.out; have := HN.out
            rw [HDL.out, List.length_append, List.length_singleton]; omega
          · rw [HD.out, HST.out, HX.out, HY.out]
            dsimp only
            rw [Option.map_map]
            congr 1
            funext q
            simp
        case measure => simp only [sliceLen10]; omega
      · have HX := Lib.hid (show decL b = none by rw [HD.out, HST.out, hx]; rfl)
        have HK := Lib.hid hk
        clear hx hk
        go_wp2
        go_ret2
        exact .inr ⟨HX.out, rfl, ((Keeps.ofBelow HBL.out).trans HK.out).trans (Keeps.alloc _ _ _)⟩
end Go.Proofs.Yteaikbchbahdjaa
