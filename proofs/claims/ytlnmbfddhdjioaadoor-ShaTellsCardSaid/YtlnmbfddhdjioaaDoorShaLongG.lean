/-
  Contracts of the document's sum: the schedule.
-/
import Derived.Test.YtlnmbfddhdjioaaDoorShaLongF
import Derived.Test.YtlnmbfddhdjioaaDoorShaLongT
import Derived.Test.YtlnmbfddhdjioaaDoorShaE
import Derived.Test.YtlnmbfddhdjioaaDoorShaLongK
import Derived.Deep.RegionHeld3
import Derived.Deep.AppendLies
import Derived.Deep.Cut
namespace Go.Proofs.YtlnmbfddhdjioaaDoor
open Go.RowKit

theorem tab_succ (n : Nat) (f : Nat → BitVec 32) : tab (n + 1) f = tab n f ++ [uv (f n)] := by
  simp [tab, List.range_succ]

theorem or_low (x : BitVec 32) (c : UInt8) (h : x.toNat < 16777216) : ((x <<< 8) ||| c.toBitVec.setWidth 32).toNat = x.toNat * 256 + c.toNat := by
  have hc : c.toNat < 256 := c.toNat_lt
  rw [BitVec.toNat_or, BitVec.toNat_shiftLeft, BitVec.toNat_setWidth]
  have e1 : x.toNat <<< 8 % 2 ^ 32 = x.toNat <<< 8 := by
    rw [Nat.shiftLeft_eq]; exact Nat.mod_eq_of_lt (by omega)
  have e2 : c.toBitVec.toNat % 2 ^ 32 = c.toNat := Nat.mod_eq_of_lt (by show c.toNat < _; omega)
  rw [e1, e2, ← Nat.shiftLeft_add_eq_or_of_lt (by omega), Nat.shiftLeft_eq]

theorem word_value (xs : List UInt8) (k : Nat) :
    (wordOf xs k).toNat = (xs.getD (4 * k) 0).toNat * 16777216 + (xs.getD (4 * k + 1) 0).toNat * 65536 + (xs.getD (4 * k + 2) 0).toNat * 256 + (xs.getD (4 * k + 3) 0).toNat := by
  have h0 : (xs.getD (4 * k) 0).toNat < 256 := (xs.getD (4 * k) 0).toNat_lt
  have h1 : (xs.getD (4 * k + 1) 0).toNat < 256 := (xs.getD (4 * k + 1) 0).toNat_lt
  have h2 : (xs.getD (4 * k + 2) 0).toNat < 256 := (xs.getD (4 * k + 2) 0).toNat_lt
  have p1 : (part xs k 1).toNat = (xs.getD (4 * k) 0).toNat := by
    show ((0#32 <<< 8) ||| _).toNat = _
    rw [or_low _ _ (by decide)]; simp
  have p2 : (part xs k 2).toNat = _ := or_low (part xs k 1) (xs.getD (4 * k + 1) 0) (by omega)
  have p3 : (part xs k 3).toNat = _ := or_low (part xs k 2) (xs.getD (4 * k + 2) 0) (by omega)
  have p4 : (part xs k 4).toNat = _ := or_low (part xs k 3) (xs.getD (4 * k + 3) 0) (by omega)
  show (part xs k 4).toNat = _
  rw [p4, p3, p2, p1]
  generalize (xs.getD (4 * k) 0).toNat = b0
  generalize (xs.getD (4 * k + 1) 0).toNat = b1
  generalize (xs.getD (4 * k + 2) 0).toNat = b2
  generalize (xs.getD (4 * k + 3) 0).toNat = b3
  omega

set_option maxHeartbeats 3000000 in
theorem schedule_any (w : World) (b off cap : Nat) (xs : List UInt8) (hl : xs.length = 64) (hc : ∀ i c, xs[i]? = some c → w.cell? ⟨b, off + i, none⟩ = some (bv c)) :
    Calls Tryd.prog 18 #[.slice (some ⟨b, off, none⟩) 64 cap] w fun e w' => ∃ b' c', e = .returned (.slice (some ⟨b', 0, none⟩) 64 c') ∧ w.heap.size ≤ b' ∧ Row w' b' 38 (tab 64 (sch (wordOf xs))) c' ∧ Keeps [] w w' := by
  obtain ⟨i0, hi, hz0, hz1, hz2⟩ := info_parts infoU32n
  have HL := Lib.hid hl
  have HC := Lib.hid hc
  clear hl hc
  go_enter Tryd.func18, Tryd.ntmps18
  go_wp2
  go_loopw [3, 4] (fun v i wr => ∃ (k q : Nat) (ao : Option Addr) (cp : Nat), k ≤ 16 ∧ q = 4 * k ∧ i = .int .i64 q ∧ v = .slice ao k cp ∧ wr.ownsRow w.heap.size 38 1 (.slice ao k cp) k (tab k (wordOf xs)) ∧ Keeps [] w wr) (fun _ i _ => 64 - (intOf i).toNat)
  case atStart => exact ⟨0, 0, none, 0, by decide, rfl, rfl, rfl, World.ownsRow_nil _ _ _ _, Keeps.refl _ _⟩
  case round =>
    obtain ⟨k, q, ao, cp, hk, hq, rfl, rfl, hown, kp⟩ := hrel
    have HO := Lib.hid hown
    have KP := Lib.hid kp
    clear hown kp
    by_cases hlt : k < 16
    · have hq64 : q + 3 < 64 := by omega
      have hq64' : (q : Int) + 3 < 64 := by omega
      have hg : ∀ j, j < 64 → wr.cell? ⟨b, off + j, none⟩ = some (bv (xs.getD j 0)) := by
        intro j hj
        refine KP.out.cell (HC.out j _ ?_) (by simp)
        have := HL.out
        rw [List.getD_eq_getElem?_getD, List.getElem?_eq_getElem (by omega)]; rfl
      have c0 := hg q (by omega)
      have c1 := hg (q + 1) (by omega)
      have c2 := hg (q + 2) (by omega)
      have c3 := hg (q + 3) (by omega)
      have hv := word_value xs k
      rw [← hq] at hv
      have h0 : (xs.getD q 0).toNat < 256 := (xs.getD q 0).toNat_lt
      have h1 : (xs.getD (q + 1) 0).toNat < 256 := (xs.getD (q + 1) 0).toNat_lt
      have h2 : (xs.getD (q + 2) 0).toNat < 256 := (xs.getD (q + 2) 0).toNat_lt
      have h3 : (xs.getD (q + 3) 0).toNat < 256 := (xs.getD (q + 3) 0).toNat_lt
      have HQ := Lib.hid hq
      clear hg hq
      unfold bv at c0 c1 c2 c3
      generalize (xs.getD q 0).toNat = b0 at *
      generalize (xs.getD (q + 1) 0).toNat = b1 at *
      generalize (xs.getD (q + 2) 0).toNat = b2 at *
      generalize (xs.getD (q + 3) 0).toNat = b3 at *
      have hvi : (b0 : Int) * 16777216 + (b1 : Int) * 65536 + (b2 : Int) * 256 + (b3 : Int) = ((wordOf xs k).toNat : Int) := by omega
      have hvl : (wordOf xs k).toNat < 4294967296 := by omega
      clear hv
      have HT := Lib.hid (tab_succ k (wordOf xs))
      generalize hwk : wordOf xs k = wk at *
      have HWK := Lib.hid hwk
      clear hwk
      have u0 : IntKind.u32.wrap (b0 : Int) = (b0 : Int) := IntWalk.u32_in _ (by omega)
      have u1 : IntKind.u32.wrap (b1 : Int) = (b1 : Int) := IntWalk.u32_in _ (by omega)
      have u2 : IntKind.u32.wrap (b2 : Int) = (b2 : Int) := IntWalk.u32_in _ (by omega)
      have u3 : IntKind.u32.wrap (b3 : Int) = (b3 : Int) := IntWalk.u32_in _ (by omega)
      have u4 : IntKind.u32.wrap ((b0 : Int) * 16777216) = (b0 : Int) * 16777216 := IntWalk.u32_in _ (by omega)
      have u5 : IntKind.u32.wrap ((b1 : Int) * 65536) = (b1 : Int) * 65536 := IntWalk.u32_in _ (by omega)
      have u6 : IntKind.u32.wrap ((b2 : Int) * 256) = (b2 : Int) * 256 := IntWalk.u32_in _ (by omega)
      have u7 : IntKind.u32.wrap ((b0 : Int) * 16777216 + (b1 : Int) * 65536) = (b0 : Int) * 16777216 + (b1 : Int) * 65536 := IntWalk.u32_in _ (by omega)
      have u8 : IntKind.u32.wrap ((b0 : Int) * 16777216 + (b1 : Int) * 65536 + (b2 : Int) * 256) = (b0 : Int) * 16777216 + (b1 : Int) * 65536 + (b2 : Int) * 256 := IntWalk.u32_in _ (by omega)
      have u9 : IntKind.u32.wrap ((wk.toNat : Int)) = (wk.toNat : Int) := IntWalk.u32_in _ (by omega)
      have m0 : (b0 : Int) % 4294967296 = (b0 : Int) := by omega
      have m1 : (b1 : Int) % 4294967296 = (b1 : Int) := by omega
      have m2 : (b2 : Int) % 4294967296 = (b2 : Int) := by omega
      have m3 : (b3 : Int) % 4294967296 = (b3 : Int) := by omega
      have m4 : ((b0 : Int) * 16777216) % 4294967296 = (b0 : Int) * 16777216 := by omega
      have m5 : ((b1 : Int) * 65536) % 4294967296 = (b1 : Int) * 65536 := by omega
      have m6 : ((b2 : Int) * 256) % 4294967296 = (b2 : Int) * 256 := by omega
      have m7 : ((b0 : Int) * 16777216 + (b1 : Int) * 65536) % 4294967296 = (b0 : Int) * 16777216 + (b1 : Int) * 65536 := by omega
      have m8 : ((b0 : Int) * 16777216 + (b1 : Int) * 65536 + (b2 : Int) * 256) % 4294967296 = (b0 : Int) * 16777216 + (b1 : Int) * 65536 + (b2 : Int) * 256 := by omega
      have m9 : (wk.toNat : Int) % 4294967296 = (wk.toNat : Int) := by omega
      have i1 : IntKind.i64.wrap ((q : Int) + 1) = (q : Int) + 1 := IntWalk.i64_in _ (by omega)
      have i2 : IntKind.i64.wrap ((q : Int) + 2) = (q : Int) + 2 := IntWalk.i64_in _ (by omega)
      have i3 : IntKind.i64.wrap ((q : Int) + 3) = (q : Int) + 3 := IntWalk.i64_in _ (by omega)
      have n1a : 0 ≤ (q : Int) + 1 := by omega
      have n1b : (q : Int) + 1 < 64 := by omega
      have n1c : ((q : Int) + 1).toNat = q + 1 := by omega
      have n2a : 0 ≤ (q : Int) + 2 := by omega
      have n2b : (q : Int) + 2 < 64 := by omega
      have n2c : ((q : Int) + 2).toNat = q + 2 := by omega
      have n3a : 0 ≤ (q : Int) + 3 := by omega
      have n3b : (q : Int) + 3 < 64 := by omega
      have n3c : ((q : Int) + 3).toNat = q + 3 := by omega
      go_wp2
      have hbs : b < w.heap.size := World.block_lt_of_cell? w _ (HC.out 0 (xs.getD 0 0) (by have := HL.out; rw [List.getD_eq_getElem?_getD, List.getElem?_eq_getElem (by omega)]; rfl))
      have ag : (Value.slice ao k cp).ownBlock ≠ some b := by
        intro e
        have := (HO.out.lt b e).1
        omega
      have hsz : w.heap.size ≤ wr.heap.size := KP.out.size
      go_region_held3 (fun w' => w'.cell? ⟨b, off + q, none⟩ = some (.int .u8 (b0 : Int)) ∧ w'.cell? ⟨b, off + (q + 1), none⟩ = some (.int .u8 (b1 : Int)) ∧ w'.cell? ⟨b, off + (q + 2), none⟩ = some (.int .u8 (b2 : Int)) ∧ w'.cell? ⟨b, off + (q + 3), none⟩ = some (.int .u8 (b3 : Int)))
        (first
          | go_keep
          | (go_split_ands
             refine ⟨?_, ?_, ?_, ?_⟩
             · (rw [hgrow.cell_far _ (by simp; omega) (Ne.symm ag)]; assumption)
             · (rw [hgrow.cell_far _ (by simp; omega) (Ne.symm ag)]; assumption)
             · (rw [hgrow.cell_far _ (by simp; omega) (Ne.symm ag)]; assumption)
             · (rw [hgrow.cell_far _ (by simp; omega) (Ne.symm ag)]; assumption)))
        ((refine step_append_lies _ (by rfl) _ _ _ (by rfl) w.heap.size 38 i0 _ 1 4 Tryd.underlying39 hi hz0 hz1 hz2 rfl (by omega) (.slice ao k cp) k (tab k (wordOf xs)) (by rfl) ((HO.out.alloc _).drew)
            ⟨wr.heap.size, 0, none⟩ 1 1 [uv wk] (by rfl) (by rfl) (World.news_of_block (cs := #[uv wk]) (t := 38) (fr := (0, 0)) (heap_alloc_new wr _)) (by simp [Value.oneCell'])
            (by omega) (by unfold maxLen; omega) (by omega) (by simp; omega) (wr.heap.size + 1) (by simp) ?_; intro gg cap1 w1 hown1 hgrow hat hlt))
      have KP1 := Lib.hid (((KP.out.trans (Keeps.alloc [] wr (.cells #[uv wk] 38))).trans (Keeps.drew [] _)).owned2 ((HO.out.alloc _).drew) hgrow)
      rw [← HT.out] at hown1
      have HO1 := Lib.hid hown1
      clear hown1 hgrow hat
      go_wp2
      go_roundw
      case rel => exact ⟨k + 1, q + 4, some ⟨gg, 0, none⟩, cap1, by omega, by have := HQ.out; omega, by go_num, rfl, HO1.out, KP1.out⟩
      case measure => simp [intOf]; omega
    · obtain rfl : k = 16 := by omega
      have hqx : ¬ (q : Int) < 64 := by omega
      rw [show tab 16 (wordOf xs) = tab 16 (sch (wordOf xs)) from tab_congr fun i hi => (sch_lt _ i hi).symm] at HO
      obtain ⟨g0, c0, hv0, hg0, _⟩ := World.ownsRow.form HO.out (by decide)
      simp only [Value.slice.injEq, true_and] at hv0
      obtain ⟨rfl, rfl⟩ := hv0
      obtain ⟨wo, rfl⟩ : ∃ wo : World, wo = wr := ⟨_, rfl⟩
      clear hq hlt
      go_wp2
      go_loopw [3, 5, 6, 7] (fun v i _ _ wr => ∃ (t g cp : Nat), 16 ≤ t ∧ t ≤ 64 ∧ i = .int .i64 t ∧ v = .slice (some ⟨g, 0, none⟩) t cp ∧ Hid (wr.ownsRow w.heap.size 38 1 (.slice (some ⟨g, 0, none⟩) t cp) t (tab t (sch (wordOf xs)))) ∧ Hid (Keeps [] w wr)) (fun _ i _ _ _ => 64 - (intOf i).toNat)
      case atStart => exact ⟨16, g0, _, by decide, by decide, rfl, rfl, HO, KP⟩
      case round =>
        obtain ⟨t, g, cp, ht1, ht2, rfl, rfl, HO, KP⟩ := hrel
        by_cases hlt : t < 64
        · have hti : (t : Int) < 64 := by omega
          obtain ⟨b', c', hv', hb', rB⟩ := Row.ofOwns HO.out (by intro e; cases e)
          simp only [Value.slice.injEq, Option.some.injEq, Addr.mk.injEq, and_true, true_and] at hv'
          obtain ⟨rfl, rfl⟩ := hv'
          have HS := Lib.hid (show sch (wordOf xs) (t - 16) + sch (wordOf xs) (t - 7) + sg0 (sch (wordOf xs) (t - 15)) + sg1 (sch (wordOf xs) (t - 2)) = sch (wordOf xs) t by
            rw [sch_ge (wordOf xs) t ht1]; simp only [BitVec.add_assoc])
          obtain ⟨i16, hi16⟩ : ∃ i, i = t - 16 := ⟨_, rfl⟩
          obtain ⟨i15, hi15⟩ : ∃ i, i = t - 15 := ⟨_, rfl⟩
          obtain ⟨i7, hi7⟩ : ∃ i, i = t - 7 := ⟨_, rfl⟩
          obtain ⟨i2, hi2⟩ : ∃ i, i = t - 2 := ⟨_, rfl⟩
          rw [← hi16, ← hi15, ← hi7, ← hi2] at HS
          have G16 := Lib.hid (tab_get t (sch (wordOf xs)) i16 (by omega))
          have G7 := Lib.hid (tab_get t (sch (wordOf xs)) i7 (by omega))
          have p16 := rB.cell i16 G16.out
          have p15 := rB.cell i15 (tab_get t (sch (wordOf xs)) i15 (by omega))
          have p7 := rB.cell i7 G7.out
          have p2 := rB.cell i2 (tab_get t (sch (wordOf xs)) i2 (by omega))
          have HTS := Lib.hid (tab_succ t (sch (wordOf xs)))
          generalize hT : tab t (sch (wordOf xs)) = T at *
          clear hT
          generalize sch (wordOf xs) i16 = v16 at *
          generalize sch (wordOf xs) i15 = v15 at *
          generalize sch (wordOf xs) i7 = v7 at *
          generalize sch (wordOf xs) i2 = v2 at *
          generalize hst : sch (wordOf xs) t = st at HS HTS
          have HST := Lib.hid hst
          have a16 : IntKind.i64.wrap ((t : Int) - 16) = (i16 : Int) := by rw [IntWalk.i64_in _ (by omega)]; omega
          have a15 : IntKind.i64.wrap ((t : Int) - 15) = (i15 : Int) := by rw [IntWalk.i64_in _ (by omega)]; omega
          have a7 : IntKind.i64.wrap ((t : Int) - 7) = (i7 : Int) := by rw [IntWalk.i64_in _ (by omega)]; omega
          have a2 : IntKind.i64.wrap ((t : Int) - 2) = (i2 : Int) := by rw [IntWalk.i64_in _ (by omega)]; omega
          have b16 : (t : Int) - 16 = (i16 : Int) := by omega
          have b15 : (t : Int) - 15 = (i15 : Int) := by omega
          have b7 : (t : Int) - 7 = (i7 : Int) := by omega
          have b2 : (t : Int) - 2 = (i2 : Int) := by omega
          have l16 : (i16 : Int) < (t : Int) := by omega
          have l15 : (i15 : Int) < (t : Int) := by omega
          have l7 : (i7 : Int) < (t : Int) := by omega
          have l2 : (i2 : Int) < (t : Int) := by omega
          have ht64 : t ≤ 64 := by omega
          have HI := Lib.hid (show i16 < t ∧ i7 < t by omega)
          have hgb := rB.lt
          clear rB hi16 hi15 hi7 hi2 hst
          go_wp2
          go_quiet (fail)
          generalize hX : World.drewN wr _ = X
          have kX : Keeps [] wr X := by rw [← hX]; exact Keeps.drewN _ _ _
          have c16 := kX.cell p16 (by simp)
          have c7 := kX.cell p7 (by simp)
          have HOX := Lib.hid (World.ownsRow.keeps HO.out kX (by simp))
          have KX := Lib.hid (KP.out.trans kX)
          have hgX : g < X.heap.size := by have := kX.size; omega
          clear hX kX p16 p15 p7 p2 HO KP a15 a2 b15 b2 l15 l2
          have g0' := show sg0 v15 = rr v15 7 ^^^ rr v15 18 ^^^ (v15 >>> 3) from rfl
          have g1' := show sg1 v2 = rr v2 17 ^^^ rr v2 19 ^^^ (v2 >>> 10) from rfl
          rw [g0', g1'] at HS
          clear g0' g1'
          have x1 := bits_xor32 (rr v15 7) (rr v15 18)
          have x2 := bits_xor32 (rr v15 7 ^^^ rr v15 18) (v15 >>> 3)
          have y1 := bits_xor32 (rr v2 17) (rr v2 19)
          have y2 := bits_xor32 (rr v2 17 ^^^ rr v2 19) (v2 >>> 10)
          have r1 : (v15.toNat : Int) / (8 : Int) = ((v15 >>> 3).toNat : Int) := shr32 v15 3
          have r2 : (v2.toNat : Int) / (1024 : Int) = ((v2 >>> 10).toNat : Int) := shr32 v2 10
          have r3 : (v15.toNat : Int) / (2 : Int) ^ 3 = ((v15 >>> 3).toNat : Int) := shr32 v15 3
          have r4 : (v2.toNat : Int) / (2 : Int) ^ 10 = ((v2 >>> 10).toNat : Int) := shr32 v2 10
          generalize rr v15 7 ^^^ rr v15 18 ^^^ (v15 >>> 3) = s0 at *
          generalize rr v15 7 ^^^ rr v15 18 = s0' at *
          generalize rr v2 17 ^^^ rr v2 19 ^^^ (v2 >>> 10) = s1 at *
          generalize rr v2 17 ^^^ rr v2 19 = s1' at *
          have T7 := Lib.hid (fun U => turned_any U v15 7 7 rfl turn7)
          have T18 := Lib.hid (fun U => turned_any U v15 18 18 rfl turn18)
          have T17 := Lib.hid (fun U => turned_any U v2 17 17 rfl turn17)
          have T19 := Lib.hid (fun U => turned_any U v2 19 19 rfl turn19)
          generalize v15 >>> 3 = s3 at *
          generalize v2 >>> 10 = s4 at *
          generalize rr v15 7 = u7 at *
          generalize rr v15 18 = u18 at *
          generalize rr v2 17 = u17 at *
          generalize rr v2 19 = u19 at *
          have d1 := add32m v16 v7
          have d2 := add32m (v16 + v7) s0
          have d3 := add32m (v16 + v7 + s0) s1
          have f1 := add32 v16 v7
          have f2 := add32 (v16 + v7) s0
          have f3 := add32 (v16 + v7 + s0) s1
          rw [HS.out] at d3 f3
          generalize v16 + v7 + s0 = z1 at *
          generalize v16 + v7 = z2 at *
          unfold uv at c16 c7 T7 T18 T17 T19
          clear HS
          go_upto_region 10 with (fail)
          have m1 : IntKind.i64.wrap (i16 : Int) = (i16 : Int) := IntWalk.i64_in _ (by omega)
          have m5 : IntKind.i64.wrap (i7 : Int) = (i7 : Int) := IntWalk.i64_in _ (by omega)
          have n16 : 0 ≤ (i16 : Int) := by omega
          have n7 : 0 ≤ (i7 : Int) := by omega
          clear a16 a7
          have hmx : t + 1 ≤ maxLen := by unfold maxLen; clear m1 m5; omega
          have hby : (t + 1) * 4 ≤ 140737488355328 := by clear m1 m5; omega
          have hbs2 : w.heap.size ≤ X.heap.size := KX.out.size
          go_region_held3 (fun w' => w'.cell? ⟨g, i16, none⟩ = some (.int .u32 (v16.toNat : Int)) ∧ w'.cell? ⟨g, i7, none⟩ = some (.int .u32 (v7.toNat : Int)))
            (first
              | go_keep
              | (go_split_ands
                 refine ⟨?_, ?_⟩
                 · exact hkept _ _ G16.out
                 · exact hkept _ _ G7.out))
            (first
              | (go_at_call 19; ((with_reducible refine (T7.out _).mono ?_); rintro e wk ⟨rfl, rfl⟩))
              | (go_at_call 19; ((with_reducible refine (T18.out _).mono ?_); rintro e wk ⟨rfl, rfl⟩))
              | (go_at_call 19; ((with_reducible refine (T17.out _).mono ?_); rintro e wk ⟨rfl, rfl⟩))
              | (go_at_call 19; ((with_reducible refine (T19.out _).mono ?_); rintro e wk ⟨rfl, rfl⟩))
              | (refine step_append_kept (by rfl) _ _ _ (by rfl) w.heap.size 38 i0 _ 4 Tryd.underlying39 hi hz0 hz1 hz2 rfl g t cp T (by rfl) ((HOX.out.alloc _).drew) ⟨X.heap.size, 0, none⟩ (uv st) (by rfl) (World.news_of_block (cs := #[uv st]) (t := 38) (fr := (0, 0)) (heap_alloc_new X _)) (by simp [Value.oneCell']) hmx hby (by simp only [World.size_drew, World.size_alloc]; exact Nat.le_succ_of_le hbs2) ?_; intro gg cap1 w1 hown1 hgrow hkept))
          have KP1 := Lib.hid (((KX.out.trans (Keeps.alloc [] X (.cells #[uv st] 38))).trans (Keeps.drew [] _)).owned2 ((HOX.out.alloc _).drew) hgrow)
          rw [← HTS.out] at hown1
          have HO1 := Lib.hid hown1
          clear hown1 hgrow hkept m1 m5
          go_wp2
          go_roundw
          case rel => exact ⟨t + 1, gg, cap1, by omega, by omega, by go_num, rfl, HO1, KP1⟩
          case measure => simp [intOf]; omega
        · obtain rfl : t = 64 := by omega
          obtain ⟨b', c', hv', hb', rB⟩ := Row.ofOwns HO.out (by intro e; cases e)
          have RB := Lib.hid rB
          simp only [Value.slice.injEq, Option.some.injEq, Addr.mk.injEq, and_true, true_and] at hv'
          obtain ⟨rfl, rfl⟩ := hv'
          clear rB
          go_wp2
          go_ret
          exact ⟨g, _, rfl, hb', RB.out, KP.out⟩
end Go.Proofs.YtlnmbfddhdjioaaDoor
