/-
  Words that are right in a list: what an instruction may call, and where it may go.
-/
import Derived.Test.YtfnjjanknfmibaaPmCk
namespace Go.Proofs.Ytfnjjanknfmibaa
open Go.RowKit Go.Deep
set_option linter.unusedVariables false

set_option maxRecDepth 100000 in
theorem long_prim {c : List (BitVec 32)} (h : longC c ≠ 0) (hX : cellN c 0 < 256) : ∃ p, getP (cellN c 0) = some p ∧ 1 + p.ops ≤ c.length := by
  have hne : c ≠ [] := by rintro rfl; exact h rfl
  rw [longC_nums hne, if_neg (by omega)] at h
  cases hp : getP (cellN c 0) with
  | none => rw [hp] at h; exact absurd rfl h
  | some p =>
    rw [hp] at h
    dsimp only at h
    refine ⟨p, rfl, ?_⟩
    by_cases hn : c.length < 1 + p.ops
    · rw [if_pos hn] at h; exact absurd rfl h
    · omega

set_option maxRecDepth 100000 in
theorem cellN_lt (c : List (BitVec 32)) (i : Nat) : cellN c i < 4294967296 := (c.getD i 0).isLt

set_option maxRecDepth 100000 in
/-- A new primitive's block, made ahead of a call, behind it. -/
theorem ahead_whole {w wA : World} (hk : Keeps [] (w.drew.alloc (.cells zeroP.toArray 27)) wA) : Whole wA w.heap.size 27 zeroP := Whole.keeps (Whole.new_at w.drew 27 zeroP _ rfl) hk (by simp)
set_option maxRecDepth 100000 in
theorem ahead_keeps {w wA : World} {n t g o : Int} {s : ByteArray} {x j : Bool} (hk : Keeps [] (w.drew.alloc (.cells zeroP.toArray 27)) wA) :
    Keeps [] w (((((((wA.setCell ⟨w.heap.size, 0, none⟩ (.int .u32 n)).setCell ⟨w.heap.size, 1, none⟩ (.string s)).setCell ⟨w.heap.size, 2, none⟩ (.int .i64 t)).setCell ⟨w.heap.size, 3, none⟩ (.int .i64 g)).setCell ⟨w.heap.size, 4, none⟩ (.int .i64 o)).setCell ⟨w.heap.size, 5, none⟩ (.bool x)).setCell ⟨w.heap.size, 6, none⟩ (.bool j)) :=
  (((Keeps.drew [] w).trans (Keeps.alloc [] _ _)).trans hk).then (set7_whole (ahead_whole hk) rfl n t g o s x j).2 (fun x hx => .inr (by simp at hx; omega))

def AllowPost (w : World) (B mb : Nat) (l : List Wd) (v : Value) (N : Nat) (q : Bool) (e : Ending) (w' : World) : Prop :=
  e = .returned (.bool q) ∧ Ck w' B mb l v (N + 1) ∧ Keeps [mb] w w'

set_option maxRecDepth 100000 in
set_option maxHeartbeats 4000000 in
theorem allowed_any (w : World) (B mb : Nat) (l : List Wd) (v : Value) (N i : Nat) (h : Ck w B mb l v N) (hi : i < l.length) (hl : l.length ≤ 1000000) (hN : N ≤ 2000000000) (hc : ∀ j, j < i → (wordI l j).code.length ≤ 1000)
    (cv : Value) (c : List (BitVec 32)) (M off : Nat) (hu : UReads w cv c M off) (hM : M < mb) (hcl : c.length ≤ maxLen) (hlong : longC c ≠ 0) (Bm : Nat) (mine : List Nat) (hm : SetAt w Bm mine) (hBm : mb < Bm) :
    Calls Try.prog 68 #[.pointer (some ⟨B, 0, none⟩), .int .i64 (i : Int), cv, .map (some Bm)] w fun e w' => AllowPost w B mb l v N (mayC l i c mine) e w' := by
  have hne : c ≠ [] := by rintro rfl; exact hlong rfl
  obtain ⟨cap, rfl, hcap, hc0, hcs⟩ := hu.head1 hne
  have hn1 : 1 ≤ c.length := List.length_pos_iff.2 hne
  have hX32 := cellN_lt c 0
  have hY32 := cellN_lt c 1
  have hZ32 := cellN_lt c 2
  have HLP := Lib.hid fun hX => long_prim hlong hX
  have HCS := Lib.hid hcs
  have HC := Lib.hid h
  have HM := Lib.hid hm
  unfold mayC
  unfold maxLen at hcl
  clear hu hne hlong hcs h hm
  generalize hX : cellN c 0 = X at *
  generalize hY : cellN c 1 = Y at *
  generalize hZ : cellN c 2 = Z at *
  by_cases hX1 : 256 ≤ X
  · rw [if_pos hX1]
    have HB := Lib.hid fun W => before_any W (X - 256) (i + 1) (by omega) (by omega)
    have e1 : ((X : Int) - 256) = ((X - 256 : Nat) : Int) := by omega
    have hX1' : (256 : Int) ≤ (X : Int) := by omega
    have e3 : decide (X - 256 < i + 1) = decide (X - 256 ≤ i) := by simp; omega
    rw [e3] at HB
    clear e3 hX hY hZ
    generalize decide (X - 256 ≤ i) = q at *
    generalize X - 256 = X2 at *
    generalize c.length = n at *
    have e4 : ((i + 1 : Nat) : Int) = (i : Int) + 1 := by omega
    have e5 : IntKind.u32.wrap ((X : Int) - 256) = (X : Int) - 256 := IntWalk.u32_in _ (by omega)
    rw [e4] at HB
    clear e4
    go_enter Try.func68, Try.ntmps68
    go_wp2_with (go_at_call 77; refine (HB.out _).mono ?_; rintro e w' ⟨rfl, rfl⟩)
    go_ret
    exact ⟨rfl, HC.out.mono (by omega), Keeps.refl _ _⟩
  · rw [if_neg hX1]
    have hX1' : ¬ (256 : Int) ≤ (X : Int) := by omega
    obtain ⟨p, hp, hops⟩ := HLP.out (by omega)
    obtain ⟨hp1, hp2, hp3, hp4, hp5⟩ := getP_text hp
    have hpn := getP_num hp
    by_cases hX2 : X = 139
    · rw [if_pos hX2]
      have ho2 := (hp5 (by omega)).1
      have hc1 := HCS.out 1 (by omega)
      have hc2 := HCS.out 2 (by omega)
      rw [hY] at hc1
      rw [hZ] at hc2
      subst hX2
      clear hp1 hp2 hp3 hp4 hp5 hp hX hY hZ HLP
      by_cases hYi : Y < i
      · have HB := Lib.hid fun W => before_any W Y i (by omega) (by omega)
        rw [show decide (Y < i) = true by simpa using hYi] at HB ⊢
        rw [Bool.true_and]
        have HPI := Lib.hid fun W (hk : Keeps [] w W) => placesIn_any W B mb l v N Y (HC.out.next hk) (by omega) hl hN (hc Y hYi)
        have HHS := Lib.hid fun W Bj (hs : SetAt W Bj (startsD (wordI l Y).code)) => has_any W Bj _ Z hs hZ32
        have e4 : IntKind.i64.wrap (Y : Int) = (Y : Int) := IntWalk.i64_in _ (by omega)
        have hn3 : (2 : Int) < (c.length : Int) := by omega
        have hn2 : (1 : Int) < (c.length : Int) := by omega
        clear hc hcl hcap hn1 hX32 hops ho2 hpn
        generalize (startsD (wordI l Y).code).contains Z = q at *
        generalize c.length = n at *
        go_enter Try.func68, Try.ntmps68
        go_upto_region 4 with fail
        have hf1 : ∀ W, Keeps [mb] w W → W.cell? ⟨M, off + 1, none⟩ = some (.int .u32 (Y : Int)) := fun W hk => hk.cell hc1 (by simp; omega)
        have hf2 : ∀ W, Keeps [mb] w W → W.cell? ⟨M, off + 2, none⟩ = some (.int .u32 (Z : Int)) := fun W hk => hk.cell hc2 (by simp; omega)
        clear hc0 hc1 hc2
        go_region_held3 (fun W' => Keeps [mb] w W') (first | assumption | exact Keeps.refl _ _ | exact Keeps.drew _ _ | exact Keeps.trans (by assumption) (by assumption) | exact (Keeps.drew _ _).trans (by assumption)) (first
            | (go_at_call 77; refine (HB.out _).mono ?_; rintro e wA ⟨rfl, rfl⟩)
            | (go_at_call 78; refine (HPI.out _ (by first | exact Keeps.refl [] _ | exact Keeps.drew [] _)).mono ?_; rintro e wB ⟨Bj, rfl, hsB, hBB, hckB, hkB⟩)
            | (go_at_call 79; refine (HHS.out _ _ (by assumption)).mono ?_; rintro e wC ⟨rfl, rfl⟩))
        have hkB' : Keeps [mb] w wB := by first | exact hkB | exact (Keeps.drew _ _).trans hkB
        have HKB := Lib.hid hkB'
        have HCB := Lib.hid hckB
        clear hf1 hf2 hkB hkB' hsB hBB hckB
        go_wp2
        go_ret
        exact ⟨rfl, HCB.out, HKB.out⟩
      · have HB := Lib.hid fun W => before_any W Y i (by omega) (by omega)
        rw [show decide (Y < i) = false by simpa using hYi] at HB ⊢
        rw [Bool.false_and]
        have hn3 : (2 : Int) < (c.length : Int) := by omega
        have hn2 : (1 : Int) < (c.length : Int) := by omega
        clear hc hcl hcap hn1 hX32 hops ho2 hpn
        generalize c.length = n at *
        go_enter Try.func68, Try.ntmps68
        go_upto_region 4 with fail
        go_quiet (first | (go_at_call 77; exact (HB.out _).mono fun _ _ h => ⟨h.1, _, h.2.symm⟩))
        go_wp2
        go_ret
        exact ⟨rfl, (HC.out.next (Keeps.drewN [] _ _)).mono (by omega), Keeps.drewN _ _ _⟩
    · rw [if_neg hX2]
      have hX2' : ¬ (X : Int) = 139 := by omega
      have HG := Lib.hid fun W (hk : Keeps [] w W) => tabGet_any W B X (HC.out.tab.keeps hk (by simp))
      rw [hp] at HG ⊢
      dsimp only [pOf, Option.getD_some, Option.isSome_some] at HG ⊢
      rw [pmv_lit] at HG
      have HHS := Lib.hid fun W (hk : Keeps [] w W) => has_any W Bm mine Y (HM.out.keeps hk (by simp)) hY32
      have HC1 := Lib.hid fun hj => HCS.out 1 (by have := hp3 hj; omega)
      rw [hY] at HC1
      have HJ := Lib.hid fun hj => (show (1 : Int) < (c.length : Int) by have := hp3 hj; omega)
      clear hp hpn hp1 hp2 hp3 hp4 hp5 hops hc hcl hX hY hZ HLP
      generalize (p.num : Int) = nm at *
      generalize ByteArray.mk p.name.toArray = s at *
      generalize (p.takes : Int) = t at *
      generalize (p.gives : Int) = g at *
      generalize (p.ops : Int) = o at *
      generalize p.text = tx at *
      generalize p.jump = jp at *
      generalize mine.contains Y = q at *
      generalize c.length = n at *
      cases jp with
      | false =>
        simp only [Bool.not_false, Bool.true_or]
        have hn0 : 0 < n := by omega
        go_enter Try.func68, Try.ntmps68
        go_upto_region 5 with fail
        have hf1 : ∀ o, (w.drew.alloc o).cell? ⟨M, off, none⟩ = some (.int .u32 (X : Int)) := fun o => ((Keeps.drew [] w).trans (Keeps.alloc [] _ o)).cell hc0 (by simp)
        have hMlt : M < w.heap.size := World.block_lt_of_cell? w _ hc0
        have hMne : ¬ (M = w.heap.size) := by omega
        have hMne2 : ¬ (w.heap.size = M) := by omega
        have hf2 : w.drew.cell? ⟨M, off, none⟩ = some (.int .u32 (X : Int)) := (Keeps.drew [] w).cell hc0 (by simp)
        go_region_with (first | (go_at_call 33; refine (HG.out _ (by first | exact Keeps.refl _ _ | exact Keeps.drew _ _ | exact (Keeps.drew _ _).trans (Keeps.alloc [] _ _))).mono ?_; rintro e wA ⟨rfl, hkA⟩; first | (have hwA := ahead_whole hkA; obtain ⟨c0, c1, c2, c3, c4, c5, c6⟩ := hwA.prim; obtain ⟨f0, f1, f2, f3, f4, f5, f6⟩ := hwA.frozen7; clear hwA) | skip))
        all_goals (first
          | (have hK : Keeps [] w (wA.alloc (.cells #[.int .u32 nm, .string s, .int .i64 t, .int .i64 g, .int .i64 o, .bool tx, .bool false] 27)) := ((Keeps.drew [] w).trans hkA).trans (Keeps.alloc [] _ _)
             have hW := Whole.new wA 27 [.int .u32 nm, .string s, .int .i64 t, .int .i64 g, .int .i64 o, .bool tx, .bool false]
             generalize hV : World.alloc wA _ = W2 at *)
          | (have hK := ahead_keeps (n := nm) (t := t) (g := g) (o := o) (s := s) (x := tx) (j := false) hkA
             have hW := (set7_whole (ahead_whole hkA) rfl nm t g o s tx false).1
             unfold set7 at hW
             generalize hV : World.setCell _ ⟨w.heap.size, 6, none⟩ _ = W2 at *))
        all_goals
          have g6 := hW.cell 6
          simp only [List.getElem?_cons_succ, List.getElem?_cons_zero] at g6
          have HK := Lib.hid hK
          clear hW hV hK
          go_wp2
          go_ret
          exact ⟨rfl, (HC.out.next HK.out).mono (by omega), HK.out.mono (by simp)⟩
      | true =>
        simp only [Bool.not_true, Bool.false_or]
        have hc1 := HC1.out rfl
        have hn1' := HJ.out rfl
        have hn1'' : 1 < n := by omega
        have hn0 : 0 < n := by omega
        go_enter Try.func68, Try.ntmps68
        go_upto_region 5 with fail
        have hf1 : ∀ o, (w.drew.alloc o).cell? ⟨M, off, none⟩ = some (.int .u32 (X : Int)) := fun o => ((Keeps.drew [] w).trans (Keeps.alloc [] _ o)).cell hc0 (by simp)
        have hMlt : M < w.heap.size := World.block_lt_of_cell? w _ hc0
        have hMne : ¬ (M = w.heap.size) := by omega
        have hMne2 : ¬ (w.heap.size = M) := by omega
        have hf2 : w.drew.cell? ⟨M, off, none⟩ = some (.int .u32 (X : Int)) := (Keeps.drew [] w).cell hc0 (by simp)
        go_region_with (first | (go_at_call 33; refine (HG.out _ (by first | exact Keeps.refl _ _ | exact Keeps.drew _ _ | exact (Keeps.drew _ _).trans (Keeps.alloc [] _ _))).mono ?_; rintro e wA ⟨rfl, hkA⟩; first | (have hwA := ahead_whole hkA; obtain ⟨c0, c1, c2, c3, c4, c5, c6⟩ := hwA.prim; obtain ⟨f0, f1, f2, f3, f4, f5, f6⟩ := hwA.frozen7; clear hwA) | skip))
        all_goals (first
          | (have hK : Keeps [] w (wA.alloc (.cells #[.int .u32 nm, .string s, .int .i64 t, .int .i64 g, .int .i64 o, .bool tx,   .bool true] 27)) := ((Keeps.drew [] w).trans hkA).trans (Keeps.alloc [] _ _)
             have hW := Whole.new wA 27 [.int .u32 nm, .string s, .int .i64 t, .int .i64 g, .int .i64 o, .bool tx, .bool true]
             generalize hV : World.alloc wA _ = W2 at *)
          | (have hK := ahead_keeps (n := nm) (t := t) (g := g) (o := o) (s := s) (x := tx) (j := true) hkA
             have hW := (set7_whole (ahead_whole hkA) rfl nm t g o s tx true).1
             unfold set7 at hW
             generalize hV : World.setCell _ ⟨w.heap.size, 6, none⟩ _ = W2 at *))
        all_goals
          have g6 := hW.cell 6
          simp only [List.getElem?_cons_succ, List.getElem?_cons_zero] at g6
          have HK := Lib.hid hK
          have hd1 := hK.cell hc1 (by simp)
          have HQ := Lib.hid (HHS.out _ hK)
          clear hW hV hK
          go_wp2_with (go_at_call 79; refine HQ.out.mono ?_; rintro e wC ⟨rfl, rfl⟩)
          go_ret
          exact ⟨rfl, (HC.out.next HK.out).mono (by omega), HK.out.mono (by simp)⟩
end Go.Proofs.Ytfnjjanknfmibaa
