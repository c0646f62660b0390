/-
  The document's stack: New, Push, Cut.
-/
import Derived.Test.YtdeiehcblfiepaaStkRef
namespace Go.Proofs.Ytdeiehcblfiepaa
open Go.RowKit
set_option linter.unusedVariables false

abbrev docV (a : Option Addr) (n c : Nat) (most over under : Int) : Value := .agg #[.slice a n c, .int .i64 most, .int .i32 over, .int .i32 under]

set_option maxRecDepth 100000 in
set_option maxHeartbeats 2000000 in
theorem r8New_ok (w : World) (most over under : Int) (m1 : 1 ≤ most) (m2 : most ≤ 4096) (o2 : over < 0) (u2 : under < 0) :
    Calls Try.prog 10 #[.int .i64 most, .int .i32 over, .int .i32 under] w fun e w' => e = .returned (.tuple #[docV none 0 0 most over under, .int .i64 0]) ∧ Keeps [] w w' := by
  go_enter Try.func10, Try.ntmps10
  go_wp2
  exact bodyPost_ret (v := .tuple #[docV none 0 0 most over under, .int .i64 0]) (by simp [results, Try.results10, go_sem]) rfl ⟨rfl, Keeps.alloc [] _ _⟩

set_option maxRecDepth 100000 in
set_option maxHeartbeats 2000000 in
theorem r8New_err (w : World) (most over under : Int) (h : ¬ (1 ≤ most ∧ most ≤ 4096 ∧ over < 0 ∧ under < 0)) :
    Calls Try.prog 10 #[.int .i64 most, .int .i32 over, .int .i32 under] w fun e w' => e = .returned (.tuple #[docV none 0 0 0 0 0, .int .i64 2]) ∧ Keeps [] w w' := by
  by_cases h1 : most < 1
  · clear h
    go_enter Try.func10, Try.ntmps10
    go_wp2
    exact bodyPost_ret (v := .tuple #[docV none 0 0 0 0 0, .int .i64 2]) (by simp [results, Try.results10, go_sem]) rfl ⟨rfl, Keeps.alloc [] _ _⟩
  by_cases h2 : 4096 < most
  · clear h
    go_enter Try.func10, Try.ntmps10
    go_wp2
    exact bodyPost_ret (v := .tuple #[docV none 0 0 0 0 0, .int .i64 2]) (by simp [results, Try.results10, go_sem]) rfl ⟨rfl, Keeps.alloc [] _ _⟩
  by_cases h3 : 0 ≤ over
  · clear h
    go_enter Try.func10, Try.ntmps10
    go_wp2
    exact bodyPost_ret (v := .tuple #[docV none 0 0 0 0 0, .int .i64 2]) (by simp [results, Try.results10, go_sem]) rfl ⟨rfl, Keeps.alloc [] _ _⟩
  have h4 : 0 ≤ under := by omega
  clear h
  go_enter Try.func10, Try.ntmps10
  go_wp2
  exact bodyPost_ret (v := .tuple #[docV none 0 0 0 0 0, .int .i64 2]) (by simp [results, Try.results10, go_sem]) rfl ⟨rfl, Keeps.alloc [] _ _⟩

section
variable {most over under : Int} {l : List (BitVec 32)}

/-- What is answered: the cells l', as they stood, or in memory that is new. -/
def DocIs (C : Prop) (w w' : World) (l l' : List (BitVec 32)) (a : Option Addr) (c M o : Nat) (a' : Option Addr) (c' M' o' : Nat) : Prop :=
  UReads w' (.slice a' l'.length c') l' M' o' ∧ Keeps [] w w' ∧ (C → l' ≠ [] → w.heap.size ≤ M') ∧ (¬ C → M' = M ∧ l' = l)

/-- What is answered: a stack of the document's with the cells l', and T. -/
def DocPost (C : Prop) (w : World) (l : List (BitVec 32)) (a : Option Addr) (c M o : Nat) (most over under : Int) (l' : List (BitVec 32)) (T : Int) (e : Ending) (w' : World) : Prop :=
  ∃ a' c' M' o', e = .returned (.tuple #[docV a' l'.length c' most over under, .int .i32 T]) ∧ DocIs C w w' l l' a c M o a' c' M' o'
theorem DocPost.mk {C : Prop} {w w' : World} {l : List (BitVec 32)} {a : Option Addr} {c M o : Nat} {most over under : Int} {l' : List (BitVec 32)} {T : Int} {e : Ending} (a' : Option Addr) (c' M' o' : Nat)
    (he : e = .returned (.tuple #[docV a' l'.length c' most over under, .int .i32 T])) (hd : DocIs C w w' l l' a c M o a' c' M' o') : DocPost C w l a c M o most over under l' T e w' := ⟨a', c', M', o', he, hd⟩

theorem doc_end {C : Prop} (hC : C) {w w4 w5 : World} {l l' : List (BitVec 32)} {a a4 : Option Addr} {c c4 M o s base : Nat} {S : List Nat} (K : Keeps [] w w4) (H : w4.ownsRow base 40 1 (.slice a4 s c4) s (l'.map uv)) (hb : ∀ x ∈ S, w.heap.size ≤ x ∧ x < base) (hw : w.heap.size ≤ base) (hk : Keeps S w4 w5) :
    ∃ M' o', DocIs C w w5 l l' a c M o a4 c4 M' o' ∧ s = l'.length := by
  obtain ⟨M', hr, hM⟩ := UReads.owns H
  have hs : s = l'.length := by have := H.1; simp at this; omega
  refine ⟨M', 0, ⟨?_, K.then hk (fun x hx => .inr (hb x hx).1), fun _ hl => by have := hM hl; omega, fun h => absurd hC h⟩, hs⟩
  rw [← hs]
  exact hr.keeps hk (fun hl hm => by have := (hM hl).2.1; have := (hb _ hm).2; omega)

theorem sets5 (w : World) (B R : Nat) (a b c d e : Value) : Keeps [B, R] w (((((w.setCell ⟨B, 0, none⟩ a).setCell ⟨R, 0, none⟩ b).setCell ⟨R, 1, none⟩ c).setCell ⟨R, 2, none⟩ d).setCell ⟨R, 3, none⟩ e) :=
  ((((Keeps.setCell _ (by simp) _).trans (Keeps.setCell _ (by simp) _)).trans (Keeps.setCell _ (by simp) _)).trans (Keeps.setCell _ (by simp) _)).trans (Keeps.setCell _ (by simp) _)

set_option maxRecDepth 100000 in
set_option maxHeartbeats 4000000 in
theorem r8Push_any (w : World) (a : Option Addr) (c : Nat) (M o : Nat) (h : UReads w (.slice a l.length c) l M o) (hl : (l.length : Int) ≤ most) (hm : most ≤ 4096) (xv : Value) (x : List (BitVec 32)) (Mx ox : Nat) (hx : UReads w xv x Mx ox) (hxl : x.length ≤ 10) :
    Calls Try.prog 14 #[docV a l.length c most over under, xv] w (DocPost ((x.length : Int) ≤ most - l.length) w l a c M o most over under (pushL most l x) (pushT most over l x)) := by
  obtain ⟨xa, xc, rfl, _⟩ := hx.shape
  have HH := Lib.hid h
  have HX := Lib.hid hx
  clear h hx
  unfold pushL pushT docV
  by_cases hr : (x.length : Int) ≤ most - l.length
  · rw [if_pos hr, if_pos hr]
    have HCC := Lib.hid hr
    obtain ⟨n, hn⟩ : ∃ n, n = l.length := ⟨_, rfl⟩
    obtain ⟨k, hk⟩ : ∃ k, k = x.length := ⟨_, rfl⟩
    obtain ⟨s, hs⟩ : ∃ s, s = (l ++ x).length := ⟨_, rfl⟩
    have HS := Lib.hid (show s = (l ++ x).length ∧ l.length = n ∧ x.length = k from ⟨hs, hn.symm, hk.symm⟩)
    generalize hCg : ((x.length : Int) ≤ most - l.length) = C at HCC ⊢
    rw [← hn, ← hk]
    rw [← hn, ← hk] at hr
    rw [← hn] at HH hl
    rw [← hk] at HX hxl
    clear hs hn hk hCg
    go_enter Try.func14, Try.ntmps14
    go_upto_region 3 with fail
    generalize hV : World.alloc _ _ = V
    have kV : Keeps [] w V := by rw [← hV]; exact (Keeps.alloc [] _ _).trans (Keeps.alloc [] _ _)
    have vs : V.heap.size = w.heap.size + 2 := by rw [← hV]; simp
    have wB : Whole V w.heap.size 30 [.slice a n c, .int .i64 most, .int .i32 over, .int .i32 under] := by
      rw [← hV]; exact (Whole.new w 30 [.slice a n c, .int .i64 most, .int .i32 over, .int .i32 under]).keeps (Keeps.alloc [] _ _) (by simp)
    have wR : Whole V (w.heap.size + 1) 30 [.slice none 0 0, .int .i64 0, .int .i32 0, .int .i32 0] := by
      rw [← hV]; exact Whole.new_at _ 30 [.slice none 0 0, .int .i64 0, .int .i32 0, .int .i32 0] _ (by simp)
    have KV := Lib.hid kV
    have WB := Lib.hid wB
    have WR := Lib.hid wR
    have hB := wB.lt
    have hR := wR.lt
    have d0 := wB.cell 0
    have HO := Lib.hid (show (V.alloc (.cells #[] 40)).ownsRow V.heap.size 40 1 (.slice (some ⟨V.heap.size, 0, none⟩) 0 0) ([] : List (BitVec 32)).length (([] : List (BitVec 32)).map uv) from Whole.owns (xs := []) (ys := []) (Whole.new V 40 []) (Nat.le_refl _) rfl rfl (by decide))
    have HU := Lib.hid (HH.out.keeps (kV.trans (Keeps.alloc [] V (.cells #[] 40))) (by simp))
    have VS := Lib.hid vs
    clear hV kV wR wB vs
    go_upto_region 4 with (first
      | (at_builtin; refine wpList_append_u rfl _ _ rfl V.heap.size v3 ([] ++ l) rfl HO3.out _ x Mx ox rfl (HX.out.keeps K3.out (by simp)) (by rw [List.nil_append, HS.out.2.1, HS.out.2.2]; omega) (by have := K3v.out.size; omega) ?_
         intro v4 w4 ho4 hk4 _
         rw [List.nil_append, ← HS.out.1] at ho4
         obtain ⟨a4, c4, rfl⟩ := owns_shape2 ho4
         have HO4 := Lib.hid ho4
         have K4v := Lib.hid (K3v.out.then hk4 (fun x hx => .inr (HO3.out.lt x (by simpa using hx)).1))
         have K4 := Lib.hid (KV.out.trans K4v.out)
         have WB4 := Lib.hid (WB.out.keeps K4v.out (by simp))
         have WR4 := Lib.hid (WR.out.keeps K4v.out (by simp))
         have e0 := WB4.out.cell 0; have e1 := WB4.out.cell 1; have e2 := WB4.out.cell 2; have e3 := WB4.out.cell 3
         have f0 := WB4.out.frozen 0
         have g0 := WR4.out.cell 0; have g1 := WR4.out.cell 1; have g2 := WR4.out.cell 2; have g3 := WR4.out.cell 3
         have h0 := WR4.out.frozen 0; have h1 := WR4.out.frozen 1; have h2 := WR4.out.frozen 2; have h3 := WR4.out.frozen 3
         simp only [List.getElem?_cons_zero, List.getElem?_cons_succ] at e0 e1 e2 e3 g0 g1 g2 g3
         clear ho4 hk4 d0)
      | (at_builtin; refine wpList_append_u rfl _ _ rfl V.heap.size (.slice (some ⟨V.heap.size, 0, none⟩) 0 0) [] rfl HO.out _ l M o rfl HU.out (by rw [HS.out.2.1]; simp; omega) (by simp) ?_
         intro v3 w3 ho3 hk3 _
         have HO3 := Lib.hid ho3
         have K3v := Lib.hid ((Keeps.alloc [] V (.cells #[] 40)).then hk3 (fun x hx => .inr (HO.out.lt x (by simpa using hx)).1))
         have K3 := Lib.hid (KV.out.trans K3v.out)
         clear ho3 hk3))
    go_wp2
    obtain ⟨M', o', hd, hs'⟩ := doc_end HCC.out (l := l) (l' := l ++ x) (a := a) (c := c) (M := M) (o := o) (s := s) (S := [w.heap.size, w.heap.size + 1]) K4.out HO4.out (by intro y hy; simp at hy; have := VS.out; omega) (by omega) (sets5 w4 w.heap.size (w.heap.size + 1) _ _ _ _ _)
    exact bodyPost_ret (v := .tuple #[docV a4 s c4 most over under, .int .i32 0]) (by simp [results, Try.results14, go_sem, g0, g1, g2, g3]) rfl (DocPost.mk a4 c4 M' o' (by rw [← hs']) hd)
  · rw [if_neg hr, if_neg hr]
    have HNC := Lib.hid hr
    generalize hCg : ((x.length : Int) ≤ most - l.length) = C at HNC ⊢
    clear hCg
    obtain ⟨n, hn⟩ : ∃ n, n = l.length := ⟨_, rfl⟩
    obtain ⟨k, hk⟩ : ∃ k, k = x.length := ⟨_, rfl⟩
    have HS := Lib.hid (show l.length = n from hn.symm)
    rw [← hn, ← hk]
    rw [← hn, ← hk] at hr
    rw [← hn] at HH hl
    rw [← hk] at HX hxl
    have hr' : most - (n : Int) < k := by omega
    clear hn hk hr
    go_enter Try.func14, Try.ntmps14
    go_upto_region 2 with fail
    go_region
    go_wp2
    have KK := ((Keeps.alloc [] w (.cells #[Value.slice a n c, .int .i64 most, .int .i32 over, .int .i32 under] 30)).trans (Keeps.alloc [] _ (.cells #[Value.slice a n c, .int .i64 most, .int .i32 over, .int .i32 under] 30))).trans (Keeps.drew [] _)
    exact bodyPost_ret (v := .tuple #[docV a n c most over under, .int .i32 over]) (by simp [results, Try.results14, go_sem]) rfl (DocPost.mk a c M o (by rw [HS.out]) ⟨(by rw [HS.out]; exact HH.out.keeps KK (by simp)), KK, fun h => absurd h HNC.out, fun _ => ⟨rfl, rfl⟩⟩)

set_option maxRecDepth 100000 in
set_option maxHeartbeats 4000000 in
theorem r8Cut_any (w : World) (a : Option Addr) (c : Nat) (M o : Nat) (h : UReads w (.slice a l.length c) l M o) (hl : (l.length : Int) ≤ most) (hm : most ≤ 4096) (i : Int) :
    Calls Try.prog 17 #[docV a l.length c most over under, .int .i64 i] w (DocPost (0 ≤ i ∧ i ≤ l.length) w l a c M o most over under (cutL l i) (cutT l i under)) := by
  have HH := Lib.hid h
  unfold cutL cutT docV
  by_cases hi : 0 ≤ i ∧ i ≤ l.length
  · rw [if_pos hi, if_pos hi]
    have HCC := Lib.hid hi
    obtain ⟨h0, h1⟩ := hi
    obtain ⟨j, rfl⟩ := Int.eq_ofNat_of_zero_le h0
    rw [Int.toNat_natCast]
    have hlt : (l.take j).length = j := by simp; omega
    have hjl : j ≤ l.length := by omega
    obtain ⟨hc1, hc2⟩ := h.head j hjl
    rw [hlt] at hc1 hc2
    have hcap : l.length ≤ c := by
      rcases h with ⟨h1, h2⟩ | ⟨ad, cc, h1, h2, _⟩
      · subst h2; simp
      · injection h1 with _ _ e; omega
    have hcut := fun w => run_cutU_h w a l.length c j (by omega)
    rw [hc1] at hcut
    have HT := Lib.hid hc2
    have HS := Lib.hid hlt
    generalize hCg : (0 ≤ (j : Int) ∧ (j : Int) ≤ (l.length : Int)) = C at HCC ⊢
    clear h hlt hc1 hc2 hCg
    generalize l.length = n at *
    go_enter Try.func17, Try.ntmps17
    go_upto_region 3 with fail
    generalize hV : World.alloc _ _ = V
    have kV : Keeps [] w V := by rw [← hV]; exact (Keeps.alloc [] _ _).trans (Keeps.alloc [] _ _)
    have vs : V.heap.size = w.heap.size + 2 := by rw [← hV]; simp
    have wB : Whole V w.heap.size 30 [.slice a n c, .int .i64 most, .int .i32 over, .int .i32 under] := by
      rw [← hV]; exact (Whole.new w 30 [.slice a n c, .int .i64 most, .int .i32 over, .int .i32 under]).keeps (Keeps.alloc [] _ _) (by simp)
    have wR : Whole V (w.heap.size + 1) 30 [.slice none 0 0, .int .i64 0, .int .i32 0, .int .i32 0] := by
      rw [← hV]; exact Whole.new_at _ 30 [.slice none 0 0, .int .i64 0, .int .i32 0, .int .i32 0] _ (by simp)
    have KV := Lib.hid kV
    have WB := Lib.hid wB
    have WR := Lib.hid wR
    have hB := wB.lt
    have hR := wR.lt
    have d0 := wB.cell 0
    have HO := Lib.hid (show (V.alloc (.cells #[] 40)).ownsRow V.heap.size 40 1 (.slice (some ⟨V.heap.size, 0, none⟩) 0 0) ([] : List (BitVec 32)).length (([] : List (BitVec 32)).map uv) from Whole.owns (xs := []) (ys := []) (Whole.new V 40 []) (Nat.le_refl _) rfl rfl (by decide))
    have HU := Lib.hid (HT.out.keeps (kV.trans (Keeps.alloc [] V (.cells #[] 40))) (by simp))
    have VS := Lib.hid vs
    clear hV kV wR wB vs
    go_upto_region 4 with (first
      | (at_builtin; refine wpList_append_u rfl _ _ rfl V.heap.size (.slice (some ⟨V.heap.size, 0, none⟩) 0 0) [] rfl HO.out _ (l.take j) M o rfl HU.out (by rw [HS.out]; simp; omega) (by simp) ?_
         intro v4 w4 ho4 hk4 _
         rw [List.nil_append, HS.out] at ho4
         obtain ⟨a4, c4, rfl⟩ := owns_shape2 ho4
         have HO4 := Lib.hid ho4
         have K4v := Lib.hid ((Keeps.alloc [] V (.cells #[] 40)).then hk4 (fun x hx => .inr (HO.out.lt x (by simpa using hx)).1))
         have K4 := Lib.hid (KV.out.trans K4v.out)
         have WB4 := Lib.hid (WB.out.keeps K4v.out (by simp))
         have WR4 := Lib.hid (WR.out.keeps K4v.out (by simp))
         have e0 := WB4.out.cell 0; have e1 := WB4.out.cell 1; have e2 := WB4.out.cell 2; have e3 := WB4.out.cell 3
         have f0 := WB4.out.frozen 0
         have g0 := WR4.out.cell 0; have g1 := WR4.out.cell 1; have g2 := WR4.out.cell 2; have g3 := WR4.out.cell 3
         have h0 := WR4.out.frozen 0; have h1 := WR4.out.frozen 1; have h2 := WR4.out.frozen 2; have h3 := WR4.out.frozen 3
         simp only [List.getElem?_cons_zero, List.getElem?_cons_succ] at e0 e1 e2 e3 g0 g1 g2 g3
         clear ho4 hk4 d0))
    go_wp2
    obtain ⟨M', o', hd, hs'⟩ := doc_end HCC.out (l := l) (l' := l.take j) (a := a) (c := c) (M := M) (o := o) (s := j) (S := [w.heap.size, w.heap.size + 1]) K4.out HO4.out (by intro y hy; simp at hy; have := VS.out; omega) (by omega) (sets5 w4 w.heap.size (w.heap.size + 1) _ _ _ _ _)
    exact bodyPost_ret (v := .tuple #[docV a4 j c4 most over under, .int .i32 0]) (by simp [results, Try.results17, go_sem, g0, g1, g2, g3]) rfl (DocPost.mk a4 c4 M' o' (by rw [← hs']) hd)
  · rw [if_neg hi, if_neg hi]
    have HNC := Lib.hid hi
    generalize hCg : (0 ≤ i ∧ i ≤ (l.length : Int)) = C at HNC ⊢
    clear hCg
    obtain ⟨n, hn⟩ : ∃ n, n = l.length := ⟨_, rfl⟩
    have HS := Lib.hid (show l.length = n from hn.symm)
    rw [← hn] at h HH hl hi ⊢
    clear hn h
    by_cases h0 : i < 0
    · clear hi
      go_enter Try.func17, Try.ntmps17
      go_upto_region 2 with fail
      go_region
      go_wp2
      have KK := ((Keeps.alloc [] w (.cells #[Value.slice a n c, .int .i64 most, .int .i32 over, .int .i32 under] 30)).trans (Keeps.alloc [] _ (.cells #[Value.slice a n c, .int .i64 most, .int .i32 over, .int .i32 under] 30))).trans (Keeps.drew [] _)
      exact bodyPost_ret (v := .tuple #[docV a n c most over under, .int .i32 under]) (by simp [results, Try.results17, go_sem]) rfl (DocPost.mk a c M o (by rw [HS.out]) ⟨(by rw [HS.out]; exact HH.out.keeps KK (by simp)), KK, fun h => absurd h HNC.out, fun _ => ⟨rfl, rfl⟩⟩)
    · have h1 : (n : Int) < i := by omega
      clear hi
      go_enter Try.func17, Try.ntmps17
      go_upto_region 2 with fail
      go_region
      go_wp2
      have KK := ((Keeps.alloc [] w (.cells #[Value.slice a n c, .int .i64 most, .int .i32 over, .int .i32 under] 30)).trans (Keeps.alloc [] _ (.cells #[Value.slice a n c, .int .i64 most, .int .i32 over, .int .i32 under] 30))).trans (Keeps.drew [] _)
      exact bodyPost_ret (v := .tuple #[docV a n c most over under, .int .i32 under]) (by simp [results, Try.results17, go_sem]) rfl (DocPost.mk a c M o (by rw [HS.out]) ⟨(by rw [HS.out]; exact HH.out.keeps KK (by simp)), KK, fun h => absurd h HNC.out, fun _ => ⟨rfl, rfl⟩⟩)
end
end Go.Proofs.Ytdeiehcblfiepaa
