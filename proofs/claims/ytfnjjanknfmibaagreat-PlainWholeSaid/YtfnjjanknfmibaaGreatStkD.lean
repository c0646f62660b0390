/-
  Stacks of cells: slices.Delete of one cell, Roll.
-/
import Derived.Test.YtfnjjanknfmibaaGreatStkC
namespace Go.Proofs.YtfnjjanknfmibaaGreat
open Go.RowKit
set_option linter.unusedVariables false

set_option maxRecDepth 1000000 in
set_option maxHeartbeats 4000000 in
theorem Delete_own (w : World) (b cap n p q : Nat) (xs rest : List Value) (hW : Whole w b 24 (xs ++ rest)) (hn : xs.length = n) (hc : n + rest.length = cap) (hm : cap ≤ maxLen) (hp : p < n) (hq : q = p + 1) (h1 : ∀ u ∈ xs, u.oneCell' = true) :
    Calls Tryz.prog 157 #[.slice (some ⟨b, 0, none⟩) n cap, .int .i64 p, .int .i64 q] w fun e w' => e = .returned (.slice (some ⟨b, 0, none⟩) (n - 1) cap) ∧ Whole w' b 24 ((xs.take p ++ xs.drop q) ++ (.int .u32 0 :: rest)) ∧ Keeps [b] w w' := by
  obtain ⟨i0, hi0, hz0, hz1, hz2⟩ := info_parts infoU
  have hml : maxLen = 9223372036854775807 := rfl
  obtain ⟨news, hnews⟩ : ∃ news, news = xs.drop q := ⟨_, rfl⟩
  have hlen : news.length = n - q := by rw [hnews]; simp; omega
  have hWd : Whole w.drew b 24 (xs ++ rest) := hW
  obtain ⟨A, hA, hsrc⟩ : ∃ A : Addr, (if cap = q then some (⟨b, 0, none⟩ : Addr) else some ⟨b, q, none⟩) = some A ∧ Hid (∀ t u, news[t]? = some u → w.drew.cell? (A.add t) = some u) := by
    by_cases h : cap = q
    · refine ⟨⟨b, 0, none⟩, by simp [h], fun t u hu => ?_⟩
      have h0 : news.length = 0 := by rw [hlen]; omega
      rw [List.length_eq_zero_iff.1 h0] at hu
      simp at hu
    · refine ⟨⟨b, q, none⟩, by simp [h], fun t u hu => ?_⟩
      rw [Addr.add_off, hWd.cell]
      rw [hnews, List.getElem?_drop] at hu
      rw [List.getElem?_append_left (List.getElem?_eq_some_iff.1 hu).1]
      exact hu
  have s1 : Hid (news.length = (n - q) * 1) := by rw [Nat.mul_one]; exact hlen
  have s2 : Hid (∀ u ∈ news, u.oneCell' = true) := by
    intro u hu
    rw [hnews] at hu
    exact h1 u (List.mem_of_mem_drop hu)
  have s3 : Hid (∀ t, t < news.length → (w.drew.cell? ⟨b, 0 + p * 1 + t, none⟩).isSome = true ∧ w.drew.frozen? ⟨b, 0 + p * 1 + t, none⟩ = false) := by
    intro t ht
    rw [hlen] at ht
    rw [Nat.mul_one, Nat.zero_add]
    refine ⟨?_, hWd.frozen _⟩
    rw [hWd.cell, List.getElem?_eq_getElem (by simp; omega)]; rfl
  obtain ⟨W1, hW1⟩ : ∃ W1, W1 = w.drew.setCells b (0 + p * 1) news := ⟨_, rfl⟩
  obtain ⟨last, hlast⟩ : ∃ last, (xs.drop p).drop (n - q) = [last] := by
    have hl : ((xs.drop p).drop (n - q)).length = 1 := by simp; omega
    exact List.length_eq_one_iff.1 hl
  have hWW : Whole W1 b 24 (xs.take p ++ xs.drop q ++ ([last] ++ rest)) := by
    rw [hW1, Nat.mul_one, Nat.zero_add, List.append_assoc]
    have e : xs ++ rest = xs.take p ++ ((xs.drop p).take (n - q) ++ ([last] ++ rest)) := by
      rw [← hlast, ← List.append_assoc ((xs.drop p).take (n - q)), List.take_append_drop, ← List.append_assoc, List.take_append_drop]
    rw [e] at hWd
    have := hWd.setCells news p (by simp; omega) (by rw [hlen]; simp; omega)
    rw [hnews] at this ⊢
    exact this
  have hK1 : Keeps [b] w W1 := by rw [hW1]; exact (Keeps.drew [b] w).trans (Keeps.setCells _ (by simp) _ _)
  have hpl : (xs.take p ++ xs.drop q).length = p + (n - q) := by simp; omega
  have hcl : ∀ ty, (Builtin.clear_ #[22] ty #[.slice (some ⟨b, p + (n - q), none⟩) (n - (p + (n - q))) (cap - (p + (n - q)))]).run Tryz.prog W1 = .ok (.tuple #[]) (W1.setCells b (p + (n - q)) (List.replicate (n - (p + (n - q))) (.int .u32 0))) :=
    fun ty => Lib.run_clear_slice W1 _ _ ty _ Tryz.underlying22 zeroU rfl rfl b (p + (n - q)) _ _ (by omega)
      (fun t ht => by rw [hWW.cell, List.getElem?_eq_getElem (by rw [List.length_append, hpl]; simp; omega)]; rfl) (fun t ht => hWW.frozen _)
  have HEnd : Hid (Whole (W1.setCells b (p + (n - q)) (List.replicate (n - (p + (n - q))) (.int .u32 0))) b 24 ((xs.take p ++ xs.drop q) ++ (.int .u32 0 :: rest)) ∧ Keeps [b] w (W1.setCells b (p + (n - q)) (List.replicate (n - (p + (n - q))) (.int .u32 0)))) := by
    refine ⟨?_, hK1.trans (Keeps.setCells _ (by simp) _ _)⟩
    have e1 : n - (p + (n - q)) = 1 := by omega
    rw [e1]
    exact hWW.setCells [.int .u32 0] _ hpl rfl
  have hX : Hid (W1 = w.drew.setCells b (0 + p * 1) news) := hW1
  have hpc : p ≤ cap := by omega
  have hnc : n ≤ cap := by omega
  have hqc : q ≤ cap := by omega
  have hqn : q ≤ n := by omega
  have hpq : p < q := by omega
  have hre : Hid (p + (n - q) = n - 1) := by show p + (n - q) = n - 1; omega
  clear hW1 hWW hK1 hpl hlast hnews hlen hWd hW hn hc h1 hq
  go_enter Tryz.func157, Tryz.ntmps157
  go_wp2_with fail
  go_region_law (refine step_append_room rfl (.tmp 22) (.tmp 25) 22 rfl 24 i0 1 Tryz.underlying22 hi0 hz1 b 0 p cap (by simp [Act.eval, Act.put]) A (n - q) (cap - q) news (by simp [Act.eval, Act.put]) s1.out hsrc.out s2.out (by omega) s3.out ?_; rw [← hX.out])
  go_wp2
  go_ret
  refine ⟨by rw [hre.out]; rfl, HEnd.out.1, HEnd.out.2⟩

section
variable {w : World} {base g : Nat} {most over under : Int} {v : Value} {l : List (BitVec 32)}

set_option maxRecDepth 100000 in
set_option maxHeartbeats 2000000 in
theorem Roll_in (h : StackAt w base g most over under v l) (k : Nat) (hk : k < l.length) :
    Calls Tryz.prog 152 #[.pointer (some ⟨g, 0, none⟩), .int .i64 k] w fun e w' => ∃ v', e = .returned (.int .i32 0) ∧ StackAt w' base g most over under v' (rollL l k) ∧ Keeps (g :: v.ownBlock.toList) w w' ∧ (v'.ownBlock = v.ownBlock ∨ ∀ k, v'.ownBlock = some k → w.heap.size ≤ k) := by
  have H := Lib.hid h
  have HP := Lib.hid (place_in h k hk)
  have c1 := h.cell 1 _ rfl
  have hf := h.fits
  have hm2 := h.most2
  obtain ⟨b, cap, rfl, hcap, hcell⟩ := h.get (l.length - 1 - k) (by omega)
  have hrl : rollL l k = (l.take (l.length - 1 - k) ++ l.drop (l.length - 1 - k + 1)) ++ [l.getD (l.length - 1 - k) 0#32] := by
    unfold rollL; rw [if_pos ⟨by omega, by omega⟩, Int.toNat_natCast]
  have hlt : l.length - 1 - k < l.length := by omega
  obtain ⟨rest, hW, hrc, hcm⟩ : ∃ rest, Whole w b 24 (l.map uv ++ rest) ∧ l.length + rest.length = cap ∧ cap ≤ maxLen := by
    obtain ⟨hl, h2⟩ := h.row
    rw [Nat.mul_one] at hl
    rcases h2 with ⟨he, _⟩ | ⟨g2, c2, cur, he, hb, hg, hn, hm, hs, ht⟩
    · cases he
    · injection he with e1 _ e3
      injection e1 with e1
      injection e1 with e1
      subst e1 e3
      rw [Nat.mul_one] at hs ht
      refine ⟨cur.toList.drop l.length, ?_, by simp; omega, hm⟩
      unfold Whole
      rw [← ht, List.take_append_drop]
      simpa using hg
  have hbg : base ≤ b ∧ b < w.heap.size := h.lt b rfl
  have hpe : ∃ p, p = l.length - 1 - k := ⟨_, rfl⟩
  obtain ⟨p, hpe⟩ := hpe
  rw [← hpe] at HP hcell hrl hlt
  rw [hrl]
  have hpk : p + 1 ≤ l.length := by omega
  have hroll : Hid ((l.take p ++ l.drop (p + 1)).length = l.length - 1) := by show _ = _; simp; omega
  have HD := Lib.hid (Delete_own w b cap l.length p (p + 1) (l.map uv) rest hW (by simp) hrc hcm (by omega) rfl (one_uvs _))
  have hwr : IntKind.i64.wrap ((p : Int) + 1) = ((p + 1 : Nat) : Int) := by rw [IntKind.wrap_i64]; omega
  have hab := h.above
  have hbl := h.base_le
  generalize hx : l.getD p 0#32 = x at *
  clear h hrl hpe
  obtain ⟨y, hy⟩ : ∃ y : Int, y = x.toNat := ⟨_, rfl⟩
  have hu : uv x = .int .u32 y := by rw [hy]
  rw [hu] at hcell
  generalize hnl : l.length = n at *
  go_enter Tryz.func152, Tryz.ntmps152
  go_upto_region 5 with (first | (go_at_call 111; refine HP.out.mono ?_; rintro e w1 ⟨rfl, rfl⟩))
  go_wp2_with (first
    | (go_at_call 157; refine HD.out.mono ?_; rintro e w1 ⟨rfl, hW1, hK1⟩
       rw [List.map_take.symm, List.map_drop.symm, ← List.map_append] at hW1
       have hsz := hK1.size
       have HO1 := Lib.hid (show w1.ownsRow base 24 1 (.slice (some ⟨b, 0, none⟩) (n - 1) cap) (l.take p ++ l.drop (p + 1)).length ((l.take p ++ l.drop (p + 1)).map uv) from by
         rw [hroll.out]
         exact Whole.owns hW1 hbg.1 (by rw [List.length_map, hroll.out]) (by simp; omega) hcm)
       have HK1 := Lib.hid hK1
       have HO2 := Lib.hid (World.ownsRow.keeps HO1.out (Keeps.alloc [] w1 (.cells #[Value.int .u32 y] 24)) (by simp))
       have HK2 := Lib.hid (HK1.out.trans (Keeps.alloc [b] w1 (.cells #[Value.int .u32 y] 24)))
       have HX2 := Lib.hid (show UReads (w1.alloc (.cells #[Value.int .u32 y] 24)) (.slice (some ⟨w1.heap.size, 0, none⟩) 1 1) [x] w1.heap.size 0 from
         .inr ⟨⟨w1.heap.size, 0, none⟩, 1, rfl, Nat.le_refl _, fun _ => rfl, fun i c hi => by
           match i, hi with
           | 0, hi => simp at hi; subst hi; rw [hu]; exact cell_alloc_new w1 _ _ 0⟩)
       clear hW1 hK1)
    | (at_builtin; refine wpList_append_u rfl _ _ rfl base _ (l.take p ++ l.drop (p + 1)) rfl HO2.out _ [x] _ 0 rfl HX2.out (by rw [hroll.out]; simp; omega) (by simp; omega) ?_
       intro v3 w3 hown3 hk3 hs3
       have HO3 := Lib.hid hown3; have HK3 := Lib.hid (show Keeps [b] w w3 from HK2.out.trans hk3); have HS3 := Lib.hid (show v3.ownBlock = some b ∨ ∀ k, v3.ownBlock = some k → w.heap.size ≤ k from hs3.imp id (fun h k hk => Nat.le_trans HK2.out.size (h k hk))); clear hs3
       have hg3 : g ∉ [b] := by simp; omega
       replace c1 := HK3.out.cell c1 hg3
       have hfr3 : w3.frozen? ⟨g, 1, none⟩ = false := (H.out.whole.keeps HK3.out hg3).frozen 1
       have el : (l.take p ++ l.drop (p + 1) ++ [x]).length = n := by rw [List.length_append, hroll.out]; simp; omega
       have hown4 := hown3
       rw [el] at hown4
       obtain ⟨a3, c3, rfl⟩ := owns_shape2 hown4
       clear hown3 hown4 el hk3 hg3))
  go_ret
  obtain ⟨h1, h2⟩ := H.out.put _ (l' := (l.take p ++ l.drop (p + 1)) ++ [x]) HK3.out HO3.out (by rw [List.length_append, hroll.out]; simp; omega)
  exact ⟨_, rfl, h1, h2, HS3.out⟩

set_option maxRecDepth 100000 in
set_option maxHeartbeats 1000000 in
theorem Roll_new (h : StackAt w base g most over under v l) (i : Int) :
    Calls Tryz.prog 152 #[.pointer (some ⟨g, 0, none⟩), .int .i64 i] w fun e w' => ∃ v', e = .returned (.int .i32 (peekT l i under)) ∧ StackAt w' base g most over under v' (rollL l i) ∧ Keeps (g :: v.ownBlock.toList) w w' ∧ (v'.ownBlock = v.ownBlock ∨ ∀ k, v'.ownBlock = some k → w.heap.size ≤ k) := by
  unfold peekT
  by_cases hi : 0 ≤ i ∧ i < l.length
  · obtain ⟨h0, h1⟩ := hi
    obtain ⟨k, rfl⟩ := Int.eq_ofNat_of_zero_le h0
    rw [if_pos ⟨h0, h1⟩]
    exact Roll_in h k (by omega)
  · have hr : rollL l i = l := by unfold rollL; rw [if_neg hi]
    rw [if_neg hi, hr]
    have HP := Lib.hid (place_out h i hi)
    have H := Lib.hid h
    have hu := h.under0.2
    clear h hi hr
    go_enter Tryz.func152, Tryz.ntmps152
    go_wp2_with (first | (go_at_call 111; refine HP.out.mono ?_; rintro e w' ⟨rfl, hk⟩; have HK := Lib.hid hk; clear hk))
    go_ret
    exact ⟨_, rfl, H.out.keeps HK.out (by simp) (by simp), HK.out.mono (by simp), .inl rfl⟩

theorem Roll_at (h : StackAt w base g most over under v l) (i : Int) :
    Calls Tryz.prog 152 #[.pointer (some ⟨g, 0, none⟩), .int .i64 i] w fun e w' => ∃ v', e = .returned (.int .i32 (peekT l i under)) ∧ StackAt w' base g most over under v' (rollL l i) ∧ Keeps (g :: v.ownBlock.toList) w w' :=
  (Roll_new h i).mono fun e w' ⟨v', h1, h2, h3, _⟩ => ⟨v', h1, h2, h3⟩
end
end Go.Proofs.YtfnjjanknfmibaaGreat
