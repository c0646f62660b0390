/-
  Words as bytes: where the last word of a name is found: a range over the library's function that goes backward (the program's), a loop forward (the document's).
-/
import Derived.Test.YteaikbchbahdjaaImBase
import Derived.RangeFuncNested
import Derived.RangeFuncBound
import Derived.RangeFuncCalls
import Derived.RangeFuncLeaves
import Derived.Shelf.Abstract
import Derived.Shelf.RegionOpen
import Derived.OwnWalkIn
import Derived.TacticsInMore
import Derived.LoopNIn
import Derived.LoopIn
namespace Go.Proofs.Yteaikbchbahdjaa
open Go.RowKit Go.Shelf
set_option linter.unusedVariables false
attribute [local go_sem] Oper.semAt_some

def wordI (l : List Wd) (i : Nat) : Wd := l.getD i ⟨[], 0, []⟩
def downs (n : Nat) : List Nat := (List.range n).reverse

theorem wordI_at {l : List Wd} {i : Nat} {x : Wd} (h : l[i]? = some x) : wordI l i = x := by unfold wordI; rw [List.getD_eq_getElem?_getD, h]; rfl
theorem wordI_get {l : List Wd} {i : Nat} (h : i < l.length) : l[i]? = some (wordI l i) := by unfold wordI; rw [List.getD_eq_getElem?_getD, List.getElem?_eq_getElem h]; rfl

theorem downs_length (n : Nat) : (downs n).length = n := by simp [downs]
theorem downs_succ (n k : Nat) (h : k < n) : (downs n).take (k + 1) = (downs n).take k ++ [n - 1 - k] := by
  rw [List.take_add_one]
  congr 1
  unfold downs
  rw [List.getElem?_reverse (by simpa using h), List.length_range, List.getElem?_range (by omega)]
  rfl
theorem mem_downs_take {n k j : Nat} (h1 : n ≤ j + k) (h2 : j < n) (hk : k ≤ n) : j ∈ (downs n).take k := by
  rw [List.mem_iff_getElem?]
  refine ⟨n - 1 - j, ?_⟩
  rw [List.getElem?_take, if_pos (by omega)]
  unfold downs
  rw [List.getElem?_reverse (by simp; omega), List.length_range, List.getElem?_range (by omega)]
  congr 1
  omega

theorem lastI_skip (l : List Wd) (a : List UInt8) (n : Nat) : ∀ m, (∀ j, n ≤ j → j < n + m → alikeB (wordI l j).name a = false) → n + m ≤ l.length → lastI l a (n + m) = lastI l a n
  | 0, _, _ => rfl
  | m + 1, h, hl => by
    have ih := lastI_skip l a n m (fun j h1 h2 => h j h1 (by omega)) (by omega)
    rw [← Nat.add_assoc]
    rw [lastI, wordI_get (show n + m < l.length by omega)]
    dsimp only
    rw [h (n + m) (by omega) (by omega), ih]
    simp

theorem backward_any (w : World) (a : Option Addr) (n cap : Nat) : Calls Try.prog 31 #[.slice a n cap] w fun e w' => e = .returned (.func (.func 33) #[] #[.pointer (some ⟨w.heap.size, 0, none⟩)]) ∧ w.alloc (.cells #[.slice a n cap] 22) = w' := by
  go_enter Try.func31, Try.ntmps31
  go_wp2
  go_ret
  exact ⟨rfl, rfl⟩

theorem othersDrewN (W : World) (n : Nat) : KeepsOthers W (W.drewN n) := ⟨Nat.le_refl _, fun _ _ h _ => h⟩
theorem belowDrewN {B : Nat} {a w : World} (h : Below B a w) (n : Nat) : Below B a (w.drewN n) := ⟨h.os, h.tape, h.output, h.size, h.block⟩

abbrev Came := Nat × Option Addr × Nat
def encW (l : List Wd) (x : Came) : Array Value := #[.int .i64 (x.1 : Int), wvl (wordI l x.1) x.2.1 x.2.2]

set_option maxRecDepth 100000 in
set_option maxHeartbeats 2000000 in
theorem back_stops (n : Nat) (hn : 1 ≤ n) (Bs n₀ B o cap : Nat) (a : Option Addr) (l : List Wd) (hm : l.length ≤ maxLen) (w : World) (hBs : Bs < n₀) (hn₀ : n₀ ≤ w.heap.size) (hc : w.cell? ⟨Bs, 0, none⟩ = some (.slice a l.length cap))
    (hBn : l ≠ [] → a = some ⟨B, o, none⟩ ∧ B < n₀) (P : Nat → Prop) (hx : ∀ i x, l[i]? = some x → WordAt w P B (o + i * 3) x) (hcap : l.length ≤ cap) :
    SeqStopsK Fence.wide n Try.prog 33 #[.pointer (some ⟨Bs, 0, none⟩)] (encW l) (Below n₀) (fun ys => ys.map (·.1) = downs l.length) (fun pre => ∃ k, k ≤ l.length ∧ pre.map (·.1) = (downs l.length).take k) l.length w := by
  intro lp J Jx W hW _ _ hY h0
  have hc' := (hW.cell (p := ⟨Bs, 0, none⟩) (Nat.lt_of_lt_of_le hBs hn₀)).trans hc
  have HX := Lib.hid fun i x hi => hx i x hi
  have HB := Lib.hid hBn
  have HW := Lib.hid (hW.mono hn₀)
  have HY := Lib.hid hY
  have HL := Lib.hid (rfl : l.length = l.length)
  clear hx hBn hW hc hY
  obtain ⟨len, hlen⟩ : ∃ len, len = l.length := ⟨_, rfl⟩
  rw [← hlen] at hm hcap hc' ⊢
  have HN := Lib.hid hlen
  clear hlen HL
  unfold maxLen at hm
  refine callsIn_of_wp Try.func33 rfl trivial ?_ rfl
  simp only [Try.ntmps33, List.size_toArray, List.length_cons, List.length_nil, Nat.reduceAdd, Nat.reduceSub, Array.replicate_succ, Array.replicate_zero, List.push_toArray, List.append_toArray, List.nil_append, List.cons_append]
  gi_wp2
  gi_loopw [3] (fun z wr => ∃ (k i : Nat) (pre : List Came), k + i = len ∧ z = .int .i64 ((i : Int) - 1) ∧ pre.map (·.1) = (downs len).take k ∧ J pre wr ∧ Below n₀ W wr ∧ wr.cell? ⟨Bs, 0, none⟩ = some (.slice a len cap)) (fun z _ => (intOf z + 1).toNat)
  case atStart => exact ⟨0, len, [], by omega, rfl, by simp, h0, Below.refl _ _, hc'⟩
  case round =>
    obtain ⟨k, i, pre, hk, rfl, hp, hJ, hb, hcs⟩ := hrel
    cases i with
    | zero =>
      have hkl : k = len := by omega
      subst hkl
      have HJ := Lib.hid hJ
      have HP := Lib.hid (show pre.map (·.1) = downs k by rw [hp, ← downs_length k, List.take_of_length_le (by rw [downs_length]; simp)])
      clear hJ hp hb
      gi_wp2
      go_end0
      exact ⟨⟨_, rfl⟩, .inl ⟨pre, HP.out, HJ.out⟩⟩
    | succ i =>
      have hne : l ≠ [] := by intro e; have := HN.out; rw [e] at this; simp at this; omega
      obtain ⟨rfl, hBlt⟩ := HB.out hne
      obtain ⟨ao, cp, M, off, c0, c1, c2, _⟩ := HX.out i (wordI l i) (wordI_get (by have := HN.out; omega))
      have c0 := (hb.cell (p := ⟨B, o + i * 3, none⟩) hBlt).trans ((HW.out.cell (p := ⟨B, o + i * 3, none⟩) hBlt).trans c0)
      have c1 := (hb.cell (p := ⟨B, o + i * 3 + 1, none⟩) hBlt).trans ((HW.out.cell (p := ⟨B, o + i * 3 + 1, none⟩) hBlt).trans c1)
      have c2 := (hb.cell (p := ⟨B, o + i * 3 + 2, none⟩) hBlt).trans ((HW.out.cell (p := ⟨B, o + i * 3 + 2, none⟩) hBlt).trans c2)
      have hpl : pre.length = k := by have := congrArg List.length hp; rw [List.length_map, List.length_take, downs_length] at this; omega
      obtain ⟨fn, tmps, assign, body, hy, hR⟩ := HY.out pre (i, ao, cp) wr hJ (by have := HN.out; omega)
      have ei : (((i + 1 : Nat) : Int) - 1) = (i : Int) := by omega
      rw [ei]
      have hi0 : (0 : Int) ≤ (i : Int) := by omega
      have hil : (i : Int) < (len : Int) := by omega
      have HP := Lib.hid (show (pre ++ [(i, ao, cp)]).map (·.1) = (downs len).take (k + 1) by rw [List.map_append, hp, downs_succ _ _ (by omega)]; congr 2; simp; omega)
      have HR := Lib.hid hR
      have HBB := Lib.hid hb
      have HC := Lib.hid hcs
      have HK := Lib.hid hk
      clear hR hp hb ei hne hJ hpl
      dsimp only [encW, wvl] at hy
      unfold str at *
      generalize (wordI l i).name.toArray = s at *
      generalize bv (wordI l i).flags = f at *
      generalize (wordI l i).code.length = m at *
      gi_wp2
      refine HR.out.mono ?_
      rintro e W3 (⟨rfl, hJ3, hk3⟩ | ⟨rfl, hJx3⟩)
      · have HJ3 := Lib.hid hJ3
        have HC3 := Lib.hid ((hk3.cell (p := ⟨Bs, 0, none⟩) hBs).trans HC.out)
        have HB3 := Lib.hid (HBB.out.trans hk3)
        clear hJ3 hk3
        gi_wp2
        go_roundw
        case rel => exact ⟨k + 1, i, pre ++ [(i, ao, cp)], by have := HK.out; omega, by go_num, HP.out, HJ3.out, HB3.out, HC3.out⟩
        case measure => simp [intOf]
      · have HJ3 := Lib.hid hJx3
        clear hJx3
        gi_wp2
        refine bodyPost_ret (results_none rfl _ _ _) rfl ?_
        exact ⟨⟨_, rfl⟩, .inr ⟨pre ++ [(i, ao, cp)], ⟨k + 1, by have := HK.out; omega, HP.out⟩, HJ3.out⟩⟩

theorem find_came {l : List Wd} {nm : List UInt8} {ini : List Came} {last : Came} {k : Nat} (hk : k ≤ l.length) (hp : (ini ++ [last]).map (·.1) = (downs l.length).take k) (hn : ∀ p ∈ ini, alikeB (wordI l p.1).name nm = false) (hy : alikeB (wordI l last.1).name nm = true) : findI l nm = (last.1 : Int) := by
  obtain ⟨k', rfl⟩ : ∃ k', k = k' + 1 := by
    cases k with
    | zero => simp at hp
    | succ k' => exact ⟨k', rfl⟩
  rw [downs_succ _ _ (by omega), List.map_append] at hp
  obtain ⟨h1, h2⟩ := List.append_inj' hp rfl
  have h3 : last.1 = l.length - 1 - k' := by simpa using h2
  have hskip := lastI_skip l nm (last.1 + 1) (l.length - (last.1 + 1)) (fun j g1 g2 => by
    have : j ∈ ini.map (·.1) := by rw [h1]; exact mem_downs_take (by omega) (by omega) (by omega)
    obtain ⟨p, hp, rfl⟩ := List.mem_map.1 this
    exact hn p hp) (by omega)
  unfold findI
  rw [show l.length = last.1 + 1 + (l.length - (last.1 + 1)) by omega, hskip, lastI, wordI_get (by omega)]
  dsimp only
  rw [if_pos hy]

theorem find_none {l : List Wd} {nm : List UInt8} {ini : List Came} (hp : ini.map (·.1) = downs l.length) (hn : ∀ p ∈ ini, alikeB (wordI l p.1).name nm = false) : findI l nm = -1 := by
  have hskip := lastI_skip l nm 0 l.length (fun j g1 g2 => by
    have : j ∈ ini.map (·.1) := by rw [hp]; unfold downs; simp; omega
    obtain ⟨p, hp, rfl⟩ := List.mem_map.1 this
    exact hn p hp) (by omega)
  rw [Nat.zero_add] at hskip
  unfold findI
  rw [hskip]; rfl

set_option maxRecDepth 100000 in
set_option maxHeartbeats 2000000 in
theorem Find_below (w : World) (P : Nat → Prop) (v : Value) (l : List Wd) (h : WordsIn w P v l) (nm : List UInt8) (hnm : ∀ x ∈ l, x.name.length ≤ maxLen) : Calls Try.prog 20 #[v, str nm] w fun e w' => e = .returned (.int .i64 (findI l nm)) ∧ Below w.heap.size w w' := by
  obtain ⟨a, cap, B, o, rfl, hcap, hm, hn, hx⟩ := h
  have hBw : l ≠ [] → B < w.heap.size := by
    intro hne
    obtain ⟨_, _, _, _, h0, _⟩ := hx 0 (l[0]'(List.length_pos_iff.2 hne)) (List.getElem?_eq_getElem (List.length_pos_iff.2 hne))
    exact World.block_lt_of_cell? w _ h0
  have hlen : ∀ i, (wordI l i).name.length ≤ maxLen := by
    intro i
    by_cases hi : i < l.length
    · exact hnm _ (List.mem_of_getElem? (wordI_get hi))
    · unfold wordI; rw [List.getD_eq_getElem?_getD, List.getElem?_eq_none (by omega)]; simp
  have HX := Lib.hid hx
  have HBW := Lib.hid hBw
  have HN := Lib.hid hn
  have HA := Lib.hid fun (w : World) (i : Nat) => Alike_any w (wordI l i).name nm (hlen i)
  have HF := Lib.hid fun ini last k h1 h2 h3 h4 => find_came (l := l) (nm := nm) (ini := ini) (last := last) (k := k) h1 h2 h3 h4
  have HG := Lib.hid fun ini h1 h2 => find_none (l := l) (nm := nm) (ini := ini) h1 h2
  have HC := Lib.hid (show l.length ≤ cap ∧ l.length ≤ maxLen from ⟨hcap, hm⟩)
  clear hx hBw hn hlen hnm hcap hm
  unfold str at *
  generalize ByteArray.mk nm.toArray = s at *
  refine (callsIn_wide (n := 5)).1 ?_
  refine callsIn_of_wp_marks Try.func20 rfl trivial ?_ rfl
  simp only [Try.ntmps20, List.size_toArray, List.length_cons, List.length_nil, Nat.reduceAdd, Nat.reduceSub, Array.replicate_succ, Array.replicate_zero, List.push_toArray, List.append_toArray, List.nil_append, List.cons_append]
  gi_wp2_with (refine ⟨trivial, ?_⟩; gi_at_call 31; refine (callsIn_wide.2 (backward_any _ _ _ _)).mono ?_; rintro e w' ⟨rfl, rfl⟩)
  generalize hV : World.alloc (World.alloc (World.alloc w _) _) _ = V
  have sV : V.heap.size = w.heap.size + 1 + 1 + 1 := by rw [← hV]; simp
  have n0 : V.cell? ⟨w.heap.size, 0, none⟩ = some (.string s) := by
    rw [← hV]; exact (Keeps.alloc [] _ _).cell ((Keeps.alloc [] _ _).cell (cell_alloc_new _ _ _ 0) (by simp)) (by simp)
  have r0 : V.cell? ⟨w.heap.size + 1, 0, none⟩ = some (.int .i64 0) := by
    rw [← hV]; refine (Keeps.alloc [] _ _).cell ?_ (by simp)
    have := cell_alloc_new (w.alloc (.cells #[.string s] 9)) #[.int .i64 0] 3 0
    rwa [World.size_alloc] at this
  have f0 : V.frozen? ⟨w.heap.size + 1, 0, none⟩ = false := by
    rw [← hV]
    have hh : (((w.alloc (.cells #[.string s] 9)).alloc (.cells #[.int .i64 0] 3)).alloc (.cells #[.slice a l.length cap] 22)).heap[w.heap.size + 1]? = some (.cells #[.int .i64 0] 3 (0, 0)) := by
      refine (Below.heap_alloc _ _ _ (by simp)).trans ?_
      have := heap_alloc_new (w.alloc (.cells #[.string s] 9)) (.cells #[.int .i64 0] 3)
      rwa [World.size_alloc] at this
    unfold World.frozen?
    rw [hh]; simp
  have b0 : V.cell? ⟨w.heap.size + 1 + 1, 0, none⟩ = some (.slice a l.length cap) := by
    rw [← hV]
    have := cell_alloc_new ((w.alloc (.cells #[.string s] 9)).alloc (.cells #[.int .i64 0] 3)) #[.slice a l.length cap] 22 0
    rwa [World.size_alloc, World.size_alloc] at this
  have kV : Keeps [] w V := by rw [← hV]; exact ((Keeps.alloc [] _ _).trans (Keeps.alloc [] _ _)).trans (Keeps.alloc [] _ _)
  have bV : Below w.heap.size w V := kV.below
  have hxV : ∀ i x, l[i]? = some x → WordAt V (fun k => k < w.heap.size) B (o + i * 3) x := by
    intro i x hi
    have hBl := HBW.out (by intro e; simp [e] at hi)
    obtain ⟨a, cap, M, off, h0, h1, h2, h3, h4, h5⟩ := HX.out i x hi
    exact ⟨a, cap, M, off, kV.cell h0 (by simp), kV.cell h1 (by simp), kV.cell h2 (by simp), h3.keeps kV (by simp), fun hne => h3.lt hne, h5⟩
  have HS := Lib.hid (back_stops 4 (by decide) (w.heap.size + 1 + 1) V.heap.size B o cap a l HC.out.2 V (by omega) (Nat.le_refl _) b0 (fun hne => ⟨(HN.out hne).1, by have := HBW.out hne; omega⟩) _ hxV HC.out.1)
  clear hxV HX HN HBW hV kV
  refine wpIn_rangeFunc_ownH (F := Fence.wide) (n := 5) rfl (by decide) (gf := 33) (lb := #[.pointer (some ⟨w.heap.size + 1 + 1, 0, none⟩)]) rfl trivial (enters_of Try.func33 (by kernel_rfl) rfl) HS.out
    belowK_t (belowK_b (Nat.le_refl _)) (Below.refl _ _) (fun _ => rfl)
    (fun pre W => ((∀ p ∈ pre, alikeB (wordI l p.1).name nm = false) ∧ W.cell? ⟨w.heap.size, 0, none⟩ = some (.string s) ∧ W.cell? ⟨w.heap.size + 1, 0, none⟩ = some (.int .i64 0) ∧ W.frozen? ⟨w.heap.size + 1, 0, none⟩ = false ∧ V.heap.size ≤ W.heap.size) ∧ Below w.heap.size w W)
    (fun c pre W => (c = .ret ∧ ∃ ini last, pre = ini ++ [last] ∧ (∀ p ∈ ini, alikeB (wordI l p.1).name nm = false) ∧ alikeB (wordI l last.1).name nm = true ∧ W.cell? ⟨w.heap.size + 1, 0, none⟩ = some (.int .i64 (last.1 : Int))) ∧ Below w.heap.size w W)
    (OwnFrom.and (Own.from (fun t A B row hs hg hr => ⟨hs.1, cell_kept hs.2.1 hg hr, cell_kept hs.2.2.1 hg hr, (frozen_kept hs.2.2.1 hg hr).trans hs.2.2.2.1, Nat.le_trans hs.2.2.2.2 hg.size⟩) _) (ownFrom_below (Nat.le_refl _) (by omega)))
    (fun c => OwnFrom.and (Own.from (fun t A B row hs hg hr => by obtain ⟨hc, ini, last, e1, e2, e3, e4⟩ := hs; exact ⟨hc, ini, last, e1, e2, e3, cell_kept e4 hg hr⟩) _) (ownFrom_below (Nat.le_refl _) (by omega)))
    ⟨⟨by simp, n0, r0, f0, Nat.le_refl _⟩, bV⟩
    (fun x a' W => ∃ Bx, w.heap.size + 1 + 1 < Bx ∧ W.cell? ⟨Bx, 0, none⟩ = some (str (wordI l x.1).name) ∧ a' = { tmps := #[.slice a l.length cap, .string s, undef, .pointer (some ⟨w.heap.size, 0, none⟩), .pointer (some ⟨w.heap.size + 1, 0, none⟩), .int .i64 (x.1 : Int), .pointer (some ⟨Bx, 0, none⟩), .slice a l.length cap, .func (.func 33) #[] #[.pointer (some ⟨w.heap.size + 1 + 1, 0, none⟩)], .int .i64 (x.1 : Int), wvl (wordI l x.1) x.2.1 x.2.2, undef, undef, undef, undef, undef], defers := [] })
    (fun x a' _ A B row hs hg hr => by obtain ⟨Bx, h1, h2, h3⟩ := hs; exact ⟨Bx, h1, cell_kept h2 hg (fun r e => (hr r e).2), h3⟩) ?assign ?body ?done ?stop
  case assign =>
    rintro lp pre ⟨i, ao, cp⟩ W K ⟨⟨hp, h1, h2, h3, h4⟩, hb⟩ hK
    have HK := Lib.hid hK
    have HP := Lib.hid hp
    have HB := Lib.hid hb
    clear hK hp hb
    have hWs : w.heap.size + 1 < W.heap.size := World.block_lt_of_cell? W _ h2
    simp only [encW]
    unfold wvl str bv at *
    generalize (wordI l i).name.toArray = t at *
    generalize ((wordI l i).flags.toNat : Int) = f at *
    generalize (wordI l i).code.length = m at *
    gi_wp2
    exact HK.out _ _ ((KeepsOthers.alloc _ _).from _) ((Below.refl _ W).alloc h4 _) ⟨⟨HP.out, (Keeps.alloc [] W _).cell h1 (by simp), (Keeps.alloc [] W _).cell h2 (by simp), (((Below.refl W.heap.size W).alloc (Nat.le_refl _) _).frozen (p := ⟨w.heap.size + 1, 0, none⟩) hWs).trans h3, by simp; omega⟩, HB.out.alloc HB.out.size _⟩ ⟨W.heap.size, by omega, cell_alloc_new _ _ _ 0, rfl⟩
  case body =>
    rintro lp pre ⟨i, ao, cp⟩ a' W hl hr ⟨⟨hp, h1, h2, h3, h4⟩, hb⟩ ⟨Bx, hBx, hcx, rfl⟩ hlt
    have HK := Lib.hid (HA.out W i)
    have HP := Lib.hid hp
    have HB := Lib.hid hb
    clear hp hb hlt hl hr
    dsimp only at HK hcx
    unfold wvl str bv at *
    generalize ByteArray.mk (wordI l i).name.toArray = t at *
    generalize ((wordI l i).flags.toNat : Int) = f at *
    generalize (wordI l i).code.length = m at *
    generalize hq : alikeB (wordI l i).name nm = q at *
    have HQ := Lib.hid hq
    clear hq
    have hWs : w.heap.size + 1 < W.heap.size := World.block_lt_of_cell? W _ h2
    cases q with
    | true =>
      gi_wp2_with (refine ⟨trivial, ?_⟩; gi_at_call 13; refine (CallsIn.inRound lp (callsIn_wide.2 HK.out)).mono ?_; rintro e w3 ⟨rfl, m3, rfl⟩)
      exact ⟨((othersDrewN W m3).trans (KeepsOthers.setCell _ _ _)).from _, ⟨rfl, pre, (i, ao, cp), rfl, HP.out, HQ.out, World.cell?_setCell_same' _ _ _ (by rw [show (W.drewN m3).cell? ⟨w.heap.size + 1, 0, none⟩ = _ from (Keeps.drewN [] W m3).cell h2 (by simp)]; rfl)⟩, (belowDrewN HB.out m3).setCell (p := ⟨w.heap.size + 1, 0, none⟩) (by simp) _⟩
    | false =>
      gi_wp2_with (refine ⟨trivial, ?_⟩; gi_at_call 13; refine (CallsIn.inRound lp (callsIn_wide.2 HK.out)).mono ?_; rintro e w3 ⟨rfl, m3, rfl⟩)
      exact ⟨(othersDrewN W m3).from _, belowDrewN (Below.refl _ W) _, ⟨⟨fun p hp => (List.mem_append.1 hp).elim (HP.out p) (fun e => by simp at e; subst e; exact HQ.out), (Keeps.drewN [] W m3).cell h1 (by simp), (Keeps.drewN [] W m3).cell h2 (by simp), h3, h4⟩, belowDrewN HB.out _⟩⟩
  case done =>
    rintro D ys W hD hys ⟨⟨hne, _, hcr, hfr, _⟩, hB⟩ hK
    have HE := Lib.hid (HG.out ys hys hne)
    have HB := Lib.hid hB
    clear hne hys hB
    gi_wp2
    have hK' := (KeepsOthers.setCell W ⟨w.heap.size + 1, 0, none⟩ (.int .i64 (-1))).same D _ hK rfl
    refine ⟨by simp, .inl ⟨_, _, rfl, run_takeDeferred hK', ?_⟩⟩
    have hc5 := cell_kept (World.cell?_setCell_same' W ⟨w.heap.size + 1, 0, none⟩ (.int .i64 (-1)) (by rw [hcr]; rfl)) (grownBy_putObj' _ D (.deferred none)) (fun r e => by cases e; exact ⟨_, hK', rfl⟩)
    refine ⟨.int .i64 (-1), ?_, by rw [HE.out], (HB.out.setCell (p := ⟨w.heap.size + 1, 0, none⟩) (by simp) _).trans (belowK_b (w := w) (Nat.le_refl _) _ D _ _ (by omega) hK' rfl rfl)⟩
    simp [results, Try.f20, go_sem, hc5]
  case stop =>
    rintro D c pre W hD ⟨k, hk, hpre⟩ ⟨⟨rfl, ini, last, e1, e2, e3, hcr⟩, hB⟩ hK
    have HE := Lib.hid (HF.out ini last k hk (by rw [← e1]; exact hpre) e2 e3)
    have HB := Lib.hid hB
    clear e1 e2 e3 hpre hB
    gi_wp2
    refine ⟨by simp, .inl ⟨_, _, rfl, run_takeDeferred hK, ?_⟩⟩
    have hc5 := cell_kept hcr (grownBy_putObj' _ D (.deferred none)) (fun r e => by cases e; exact ⟨_, hK, rfl⟩)
    refine ⟨.int .i64 (last.1 : Int), ?_, by rw [HE.out], HB.out.trans (belowK_b (w := w) (Nat.le_refl _) W D _ _ (by omega) hK rfl rfl)⟩
    simp [results, Try.f20, go_sem, hc5]

theorem Find_any (w : World) (P : Nat → Prop) (v : Value) (l : List Wd) (h : WordsIn w P v l) (nm : List UInt8) (r : Int) (hr : findI l nm = r) : Calls Try.prog 20 #[v, str nm] w fun e w' => e = .returned (.int .i64 r) ∧ Keeps [] w w' := by
  subst hr
  refine (Find_below w P v l h nm ?_).mono fun e w' ⟨he, hb⟩ => ⟨he, Keeps.ofBelow hb⟩
  intro x hx
  obtain ⟨i, hi⟩ := List.mem_iff_getElem?.1 hx
  obtain ⟨_, _, _, _, _, _, _, _, hh⟩ := h
  obtain ⟨_, _, _, _, _, _, _, _, _, h5, _⟩ := hh i x hi
  exact h5

set_option maxRecDepth 100000 in
set_option maxHeartbeats 1000000 in
theorem r10Find_any (w : World) (P : Nat → Prop) (v : Value) (l : List Wd) (h : WordsIn w P v l) (nm : List UInt8) (r : Int) (hr : findI l nm = r) : Calls Try.prog 21 #[v, str nm] w fun e w' => e = .returned (.int .i64 r) ∧ Keeps [] w w' := by
  obtain ⟨a, cap, B, o, rfl, hcap, hm, hn, hx⟩ := h
  have HX := Lib.hid hx
  have HN := Lib.hid hn
  have HR := Lib.hid hr
  clear hx hn hr hcap
  unfold str
  have HS := Lib.hid (show Value.string ⟨nm.toArray⟩ = str nm from rfl)
  generalize ByteArray.mk nm.toArray = s at *
  obtain ⟨n, hn⟩ : ∃ n, n = l.length := ⟨_, rfl⟩
  rw [← hn] at hm ⊢
  have HL := Lib.hid hn
  clear hn
  unfold maxLen at hm
  go_enter Try.func21, Try.ntmps21
  go_wp2
  go_loopw [5, 6] (fun t i wr => ∃ k : Nat, k ≤ n ∧ i = .int .i64 k ∧ t = .int .i64 (lastI l nm k) ∧ ∃ m, wr = w.drewN m) (fun _ i _ => n - (intOf i).toNat)
  case atStart => exact ⟨0, Nat.zero_le _, rfl, rfl, 0, rfl⟩
  case round =>
    obtain ⟨k, hk, rfl, rfl, m, rfl⟩ := hrel
    by_cases hlt : k < n
    · have hne : l ≠ [] := by intro e; have := HL.out; rw [e] at this; simp at this; omega
      obtain ⟨rfl, _⟩ := HN.out hne
      have hget := wordI_get (l := l) (i := k) (by have := HL.out; omega)
      obtain ⟨ao, cp, M, off, c0, _, _, _, _, h5, _⟩ := HX.out k _ hget
      have c0 := (Keeps.drewN [] w m).cell c0 (by simp)
      have HA := Lib.hid (r10Alike_any (w.drewN m) (wordI l k).name nm h5)
      have HT := Lib.hid (show lastI l nm (k + 1) = if alikeB (wordI l k).name nm = true then (k : Int) else lastI l nm k by rw [lastI, hget])
      clear hget hne h5
      unfold str at *
      have hs : ByteArray.mk nm.toArray = s := by have := HS.out; injection this with h; exact h.symm
      rw [hs] at HA
      clear hs
      generalize ByteArray.mk (wordI l k).name.toArray = t at *
      generalize lastI l nm k = old at *
      cases hq : alikeB (wordI l k).name nm with
      | true =>
        rw [hq] at HT HA
        clear hq
        go_wp2_with (go_at_call 14; refine HA.out.mono ?_; rintro e w' ⟨rfl, q, rfl⟩)
        go_roundw
        case rel => exact ⟨k + 1, by omega, by go_num, by rw [HT.out]; rfl, _, rfl⟩
        case measure => simp [intOf]; omega
      | false =>
        rw [hq] at HT HA
        clear hq
        go_wp2_with (go_at_call 14; refine HA.out.mono ?_; rintro e w' ⟨rfl, q, rfl⟩)
        go_roundw
        case rel => exact ⟨k + 1, by omega, by go_num, by rw [HT.out]; rfl, _, rfl⟩
        case measure => simp [intOf]; omega
    · have hkn : k = n := by omega
      subst hkn
      have HE := Lib.hid (show lastI l nm k = r by rw [← HR.out, HL.out]; rfl)
      generalize lastI l nm k = old at *
      go_wp2
      go_ret
      exact ⟨by rw [← HE.out]; rfl, Keeps.drewN _ _ _⟩
end Go.Proofs.Yteaikbchbahdjaa
