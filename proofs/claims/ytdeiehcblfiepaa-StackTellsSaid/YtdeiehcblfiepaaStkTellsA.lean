/-
  StackTells, walked.
-/
import Derived.Test.YtdeiehcblfiepaaStkTellsB
import Derived.Deep.CutBlock
namespace Go.Proofs.Ytdeiehcblfiepaa
open Go.RowKit Go.Deep
set_option linter.unusedVariables false

theorem elemOps8 : Try.prog.elem 22 = 36 := by kernel_rfl
theorem underOps8 : Try.prog.underlying 22 = some (.slice (Try.prog.elem 22)) := by rw [elemOps8]; exact Try.underlying22
theorem infoOp8 : (Try.prog.info? 36).map (fun i => i.size) = some 3 := by kernel_rfl
theorem sizeOp8 (w : World) : (sizeOf 36).run Try.prog w = .ok 3 w := by kernel_rfl

theorem run_cutO (w : World) (a : Option Addr) (len cap hi : Nat) (h : hi ≤ cap) : (Instr.sliceAt 22 (.slice a len cap) none (some (.int .i64 hi)) none).run Try.prog w = .ok (.slice a hi cap) w := by
  have hu := underOps8
  rw [run_sliceAt_slice _ _ _ _ _ _ hu, run_slice_h _ _ _ _ _ hu _ _ (by omega) (by omega), elemOps8, sizeOp8]
  simp [sliced, Addr.add]

set_option maxRecDepth 100000 in
set_option maxHeartbeats 16000000 in
theorem StackTells_any (w : World) (most over under takes gives : Int) (o1 : -2147483648 ≤ over) (u1 : -2147483648 ≤ under) (t0 : -9223372036854775808 ≤ takes) (t1 : takes ≤ 9223372036854775807) (g0 : -9223372036854775808 ≤ gives) (g1 : gives ≤ 9223372036854775807)
    (v : Value) (n : Nat) (hv : Ops8 w v n) :
    Calls Try.prog 3 #[.int .i64 most, .int .i32 over, .int .i32 under, v, .int .i64 takes, .int .i64 gives] w fun e w' => e = .returned (.bool true) ∧ Keeps [] w w' := by
  have hml : maxLen = 9223372036854775807 := rfl
  obtain ⟨ao, cap, rfl, hcap, hnm, hops⟩ := hv.shape
  have HOPS := Lib.hid hops
  clear hv hops
  by_cases hg : 1 ≤ most ∧ most ≤ 4096 ∧ over < 0 ∧ under < 0
  · obtain ⟨m1, m2, o2, u2⟩ := hg
    have HN := Lib.hid (fun U => StNew_ok U most over under m1 m2 o1 o2 u1 u2)
    have HR := Lib.hid (fun U => r8New_ok U most over under m1 m2 o2 u2)
    obtain ⟨K, hK⟩ : ∃ K, K = min n 100 := ⟨_, rfl⟩
    have hmn := fun w ts t => run_minU w ts t (n : Int) 100 K (by omega)
    have hcut := fun w => run_cutO w ao n cap K (by omega)
    have HKN := Lib.hid (show K ≤ n from by omega)
    have hK100 : K ≤ 100 := by omega
    clear hK
    go_enter Try.func3, Try.ntmps3
    go_upto_region 3 with (first
      | (go_at_call 9; refine (HN.out _).mono ?_; rintro e w1 ⟨g, rfl, hs, hg, hk⟩; have HS := Lib.hid hs; have K1 := Lib.hid hk; clear hs hk)
      | (go_at_call 10; refine (HR.out _).mono ?_; rintro e w2 ⟨rfl, hk⟩; have K2 := Lib.hid hk; clear hk))
    generalize hV : World.alloc w2 _ = V
    have HP := Lib.hid (show Pair w V g w2.heap.size most over under [] from by
      have kV : Keeps [] w2 V := by rw [← hV]; exact Keeps.alloc [] _ _
      have wR : Whole V w2.heap.size 30 [.slice none 0 0, .int .i64 most, .int .i32 over, .int .i32 under] := by
        rw [← hV]; exact Whole.new _ 30 [.slice none 0 0, .int .i64 most, .int .i32 over, .int .i32 under]
      have lg := HS.out.whole.lt
      have l2 := K2.out.size
      have hsV := (HS.out.keeps (K2.out.trans kV) (by simp) (by simp))
      have lV := wR.lt
      have sV : StackAt V V.heap.size g most over under (.slice none 0 0) [] := ⟨hsV.whole, ⟨by simp, .inl ⟨rfl, rfl⟩⟩, by omega, Nat.le_refl _, hsV.most1, hsV.most2, hsV.fits, hsV.over0, hsV.under0⟩
      exact ⟨_, _, none, 0, 0, 0, (K1.out.trans K2.out).trans kV, hg, by have := K1.out.size; omega, lV, by omega, sV, wR, UReads.nil _ _ _, fun h => absurd rfl h⟩)
    generalize hRR : w2.heap.size = R at *
    clear hV HS K1 K2 HN HR hRR
    go_upto_region 8 with fail
    go_loopw [59] (fun i wr => ∃ (j : Nat) (l : List (BitVec 32)), j ≤ K ∧ i = .int .i64 j ∧ Hid (Pair w wr g R most over under l)) (fun i _ => K - (intOf i).toNat)
    case atStart => exact ⟨0, [], by omega, rfl, HP⟩
    case round =>
      obtain ⟨j, l, hj, rfl, hp⟩ := hrel
      clear HP
      by_cases hlt : j < K
      · have hji : (j : Int) < K := by omega
        obtain ⟨base, v, a, c, M, o, hpa⟩ := hp.out
        obtain ⟨bO, oO, hao, hall⟩ := HOPS.out (by have := HKN.out; omega)
        obtain ⟨d, N, xa, xc, x, Mx, ox, hd, ⟨N0, N1⟩, hxr, c0, c1, c2⟩ := hall j (by have := HKN.out; omega)
        subst hao
        have q0 := hpa.kept.cell c0 (by simp)
        have q1 := hpa.kept.cell c1 (by simp)
        have q2 := hpa.kept.cell c2 (by simp)
        have HPA := Lib.hid hpa
        obtain ⟨k10, hk10⟩ : ∃ k10, k10 = min x.length 10 := ⟨_, rfl⟩
        have hmn2 := fun w ts t => run_minU w ts t (x.length : Int) 10 k10 (by omega)
        have hxc : x.length ≤ xc := by
          rcases hxr with ⟨h1, h2⟩ | ⟨ad, cc, h1, h2, _⟩
          · subst h2; simp
          · injection h1 with _ _ e; omega
        have hcut2 := fun w => run_cutU_h w xa x.length xc k10 (by omega)
        have hh := hxr.head k10 (by omega)
        have hk10l : (x.take k10).length = k10 := by simp; omega
        rw [hh.1, hk10l] at hcut2
        have hh2 := hh.2
        rw [hk10l] at hh2
        have HX := Lib.hid hh2
        have HXL := Lib.hid (show (x.take k10).length = k10 ∧ k10 ≤ 10 from ⟨hk10l, by omega⟩)
        generalize x.take k10 = X at *
        obtain ⟨dd, hdd0⟩ : ∃ dd, dd = d % 5 := ⟨_, rfl⟩
        have hdd : (d : Int) % 5 = 0 ∨ (d : Int) % 5 = 1 ∨ (d : Int) % 5 = 2 ∨ (d : Int) % 5 = 3 ∨ (d : Int) % 5 = 4 := by omega
        generalize x.length = xn at *
        clear c0 c1 c2 hpa hall hk10 hxr hh hh2 hk10l hp hdd0
        have lg := HPA.out.prog.whole.lt
        have lR := HPA.out.doc.lt
        have HOS := Lib.hid (show wr.heap.size ∉ g :: v.ownBlock.toList from by
          intro hm
          simp at hm
          rcases hm with e | hm
          · omega
          · have := (HPA.out.prog.lt _ hm).2; omega)
        have HOR := Lib.hid (show ¬ wr.heap.size = R by omega)
        go_upto_region 12 with fail
        generalize hV : World.alloc wr _ = V
        have kV : Keeps [] wr V := by rw [← hV]; exact Keeps.alloc [] _ _
        have HPV := Lib.hid (HPA.out.next kV)
        have wO : Whole V wr.heap.size 36 [.int .u8 d, .int .i64 N, .slice xa xn xc] := by rw [← hV]; exact Whole.new wr 36 [.int .u8 d, .int .i64 N, .slice xa xn xc]
        have oD := wO.cell 0
        have oN := wO.cell 1
        simp only [List.getElem?_cons_zero, List.getElem?_cons_succ] at oD oN
        clear hV kV wO q0 q1 q2 lg lR
        generalize hOO : wr.heap.size = O at *
        clear hOO
        go_upto_block 2 with fail
        go_cut [20, 21] from 60 to 189 (fun s20 s21 wc => ∃ (T : Int) (l1 : List (BitVec 32)), s20 = .int .i32 T ∧ s21 = .int .i32 T ∧ Hid (Pair w wc g R most over under l1) ∧ wc.cell? ⟨O, 1, none⟩ = some (.int .i64 N))
        case first =>
          rcases hdd with hdd | hdd | hdd | hdd | hdd
          · have e5 : (d : Int) % 5 = 0 := by omega
            clear hdd
            obtain ⟨T, hT⟩ : ∃ T, T = pushT most over l X := ⟨_, rfl⟩
            obtain ⟨l1, hl1⟩ : ∃ l1, l1 = pushL most l X := ⟨_, rfl⟩
            have HPu := Lib.hid (Push_at2 HPV.out.prog _ X Mx ox (HX.out.keeps HPV.out.kept (by simp)) (by rw [HXL.out.1]; have := HXL.out.2; omega))
            rw [← hT, ← hl1] at HPu
            have HRu := Lib.hid (fun (U : World) (hU : UReads U (.slice a l.length c) l M o) (hx : UReads U (.slice xa k10 xc) X Mx ox) => show Calls Try.prog 14 #[.agg #[.slice a l.length c, .int .i64 most, .int .i32 over, .int .i32 under], .slice xa k10 xc] U (DocPost ((X.length : Int) ≤ most - l.length) U l a c M o most over under l1 T) from by
              rw [hT, hl1]; exact r8Push_any U a c M o hU HPV.out.prog.fits m2 _ X Mx ox hx (by rw [HXL.out.1]; exact HXL.out.2))
            generalize hC : ((X.length : Int) ≤ most - l.length) = C at HPu HRu
            clear hT hl1 hC
            go_upto_region 18 with (first
              | (go_at_call 13; refine HPu.out.mono ?_; rintro e w5 ⟨v5, rfl, hs5, hk5, ho5⟩
                 have HS5 := Lib.hid hs5; have HK5 := Lib.hid hk5; have HO5 := Lib.hid ho5
                 obtain ⟨km, wm, um⟩ := HPV.out.mid hk5
                 have KM := Lib.hid km; have WM := Lib.hid wm; have UM := Lib.hid um
                 replace oN := hk5.cell oN HOS.out
                 have r0 := wm.cell 0; have r1 := wm.cell 1; have r2 := wm.cell 2; have r3 := wm.cell 3
                 simp only [List.getElem?_cons_zero, List.getElem?_cons_succ] at r0 r1 r2 r3
                 clear hs5 hk5 ho5 km wm um))
            go_wp2_with (first
              | (go_at_call 14; refine (HRu.out _ UM.out (HX.out.keeps KM.out (by simp))).mono ?_; rintro e w6 ⟨a6, c6, M6, o6, rfl, hd6⟩
                 have HD6 := Lib.hid hd6
                 have HW6 := Lib.hid (WM.out.keeps hd6.2.1 (by simp))
                 replace oN := hd6.2.1.cell oN (by simp)
                 replace r0 := hd6.2.1.cell r0 (by simp); replace r1 := hd6.2.1.cell r1 (by simp); replace r2 := hd6.2.1.cell r2 (by simp); replace r3 := hd6.2.1.cell r3 (by simp)
                 have f0 := HW6.out.frozen 0; have f1 := HW6.out.frozen 1; have f2 := HW6.out.frozen 2; have f3 := HW6.out.frozen 3
                 clear hd6))
            go_meet
            case rel =>
              refine ⟨T, l1, rfl, rfl, ?_, (sets4 w6 R _ _ _ _).cell oN (by simp; exact HOR.out)⟩
              exact Lib.hid (HPV.out.done HK5.out HS5.out HO5.out HD6.out (sets4 w6 R _ _ _ _) (by
                have := (((HW6.out.set 0 (.slice a6 l1.length c6)).set 1 (.int .i64 most)).set 2 (.int .i32 over)).set 3 (.int .i32 under)
                exact this))
          · have e5 : (d : Int) % 5 = 1 := by omega
            clear hdd
            obtain ⟨T, hT⟩ : ∃ T, T = pushT most over l X := ⟨_, rfl⟩
            obtain ⟨l1, hl1⟩ : ∃ l1, l1 = pushL most l X := ⟨_, rfl⟩
            have HPu := Lib.hid (Push_at2 HPV.out.prog _ X Mx ox (HX.out.keeps HPV.out.kept (by simp)) (by rw [HXL.out.1]; have := HXL.out.2; omega))
            rw [← hT, ← hl1] at HPu
            have HRu := Lib.hid (fun (U : World) (hU : UReads U (.slice a l.length c) l M o) (hx : UReads U (.slice xa k10 xc) X Mx ox) => show Calls Try.prog 14 #[.agg #[.slice a l.length c, .int .i64 most, .int .i32 over, .int .i32 under], .slice xa k10 xc] U (DocPost ((X.length : Int) ≤ most - l.length) U l a c M o most over under l1 T) from by
              rw [hT, hl1]; exact r8Push_any U a c M o hU HPV.out.prog.fits m2 _ X Mx ox hx (by rw [HXL.out.1]; exact HXL.out.2))
            generalize hC : ((X.length : Int) ≤ most - l.length) = C at HPu HRu
            clear hT hl1 hC
            go_upto_region 18 with (first
              | (go_at_call 13; refine HPu.out.mono ?_; rintro e w5 ⟨v5, rfl, hs5, hk5, ho5⟩
                 have HS5 := Lib.hid hs5; have HK5 := Lib.hid hk5; have HO5 := Lib.hid ho5
                 obtain ⟨km, wm, um⟩ := HPV.out.mid hk5
                 have KM := Lib.hid km; have WM := Lib.hid wm; have UM := Lib.hid um
                 replace oN := hk5.cell oN HOS.out
                 have r0 := wm.cell 0; have r1 := wm.cell 1; have r2 := wm.cell 2; have r3 := wm.cell 3
                 simp only [List.getElem?_cons_zero, List.getElem?_cons_succ] at r0 r1 r2 r3
                 clear hs5 hk5 ho5 km wm um))
            go_wp2_with (first
              | (go_at_call 14; refine (HRu.out _ UM.out (HX.out.keeps KM.out (by simp))).mono ?_; rintro e w6 ⟨a6, c6, M6, o6, rfl, hd6⟩
                 have HD6 := Lib.hid hd6
                 have HW6 := Lib.hid (WM.out.keeps hd6.2.1 (by simp))
                 replace oN := hd6.2.1.cell oN (by simp)
                 replace r0 := hd6.2.1.cell r0 (by simp); replace r1 := hd6.2.1.cell r1 (by simp); replace r2 := hd6.2.1.cell r2 (by simp); replace r3 := hd6.2.1.cell r3 (by simp)
                 have f0 := HW6.out.frozen 0; have f1 := HW6.out.frozen 1; have f2 := HW6.out.frozen 2; have f3 := HW6.out.frozen 3
                 clear hd6))
            go_meet
            case rel =>
              refine ⟨T, l1, rfl, rfl, ?_, (sets4 w6 R _ _ _ _).cell oN (by simp; exact HOR.out)⟩
              exact Lib.hid (HPV.out.done HK5.out HS5.out HO5.out HD6.out (sets4 w6 R _ _ _ _) (by
                have := (((HW6.out.set 0 (.slice a6 l1.length c6)).set 1 (.int .i64 most)).set 2 (.int .i32 over)).set 3 (.int .i32 under)
                exact this))
          · by_cases hl0 : l.length = 0
            · have e5 : (d : Int) % 5 = 2 := by omega
              clear hdd
              obtain ⟨ya, hya⟩ : ∃ ya : Int, ya = (peekX l 0).toNat := ⟨_, rfl⟩
              obtain ⟨l1, hl1⟩ : ∃ l1, l1 = l.take (l.length - 1) := ⟨_, rfl⟩
              have HPu := Lib.hid (Pop_at HPV.out.prog)
              rw [show uv (peekX l 0) = Value.int .u32 ya by rw [hya], ← hl1] at HPu
              obtain ⟨T, hT⟩ : ∃ T, T = peekT l 0 under := ⟨_, rfl⟩
              rw [← hT] at HPu
              have HRp := Lib.hid (fun (U : World) (hU : UReads U (.slice a l.length c) l M o) => show Calls Try.prog 16 #[.agg #[.slice a l.length c, .int .i64 most, .int .i32 over, .int .i32 under], .int .i64 0] U fun e w' => e = .returned (.tuple #[.int .u32 ya, .int .i32 T]) ∧ Keeps [] U w' from by
                have := r8Peek_any (most := most) (over := over) U a c M o hU (by have := HPV.out.prog.fits; omega) ⟨u1, u2⟩ 0
                rwa [← hT, show uv (peekX l 0) = Value.int .u32 ya by rw [hya]] at this)
              obtain rfl : l = [] := List.eq_nil_of_length_eq_zero hl0
              have hT0 : T = under := by rw [hT]; simp [peekT]
              obtain rfl : l1 = [] := by rw [hl1]; rfl
              subst hT0
              clear hT hl1 hl0
              go_upto_region 22 with (first
                | (go_at_call 15; refine HPu.out.mono ?_; rintro e w5 ⟨v5, rfl, hs5, hk5, ho5⟩
                   have ho5 := (fun (_ : ¬ False) => ho5)
                   have HS5 := Lib.hid hs5; have HK5 := Lib.hid hk5; have HO5 := Lib.hid ho5
                   obtain ⟨km, wm, um⟩ := HPV.out.mid hk5
                   have KM := Lib.hid km; have WM := Lib.hid wm; have UM := Lib.hid um
                   replace oN := hk5.cell oN HOS.out
                   have r0 := wm.cell 0; have r1 := wm.cell 1; have r2 := wm.cell 2; have r3 := wm.cell 3
                   simp only [List.getElem?_cons_zero, List.getElem?_cons_succ] at r0 r1 r2 r3
                   clear hs5 hk5 ho5 km wm um))
              go_wp2_with (first
                | (go_at_call 16; refine (HRp.out _ UM.out).mono ?_; rintro e w6 ⟨rfl, hkb⟩
                   have HW6 := Lib.hid (WM.out.keeps hkb (by simp))
                   have HD6 := Lib.hid (show DocIs False w5 w6 [] [] a c M o a c M o from ⟨UM.out.keeps hkb (by simp), hkb, fun h => h.elim, fun _ => ⟨rfl, rfl⟩⟩)
                   replace oN := hkb.cell oN (by simp)
                   clear hkb r0 r1 r2 r3))
              go_meet
              case rel => exact ⟨_, [], rfl, rfl, Lib.hid (HPV.out.done HK5.out HS5.out HO5.out HD6.out (Keeps.refl [R] w6) HW6.out), oN⟩
            · have e5 : (d : Int) % 5 = 2 := by omega
              clear hdd
              obtain ⟨ya, hya⟩ : ∃ ya : Int, ya = (peekX l 0).toNat := ⟨_, rfl⟩
              obtain ⟨l1, hl1⟩ : ∃ l1, l1 = l.take (l.length - 1) := ⟨_, rfl⟩
              have HPu := Lib.hid (Pop_at HPV.out.prog)
              rw [show uv (peekX l 0) = Value.int .u32 ya by rw [hya], ← hl1] at HPu
              obtain ⟨T, hT⟩ : ∃ T, T = peekT l 0 under := ⟨_, rfl⟩
              rw [← hT] at HPu
              have HRp := Lib.hid (fun (U : World) (hU : UReads U (.slice a l.length c) l M o) => show Calls Try.prog 16 #[.agg #[.slice a l.length c, .int .i64 most, .int .i32 over, .int .i32 under], .int .i64 0] U fun e w' => e = .returned (.tuple #[.int .u32 ya, .int .i32 T]) ∧ Keeps [] U w' from by
                have := r8Peek_any (most := most) (over := over) U a c M o hU (by have := HPV.out.prog.fits; omega) ⟨u1, u2⟩ 0
                rwa [← hT, show uv (peekX l 0) = Value.int .u32 ya by rw [hya]] at this)
              have hlen : l.length ≠ 0 := hl0
              have hT0 : T = 0 := by rw [hT]; unfold peekT; rw [if_pos (by omega)]
              have hlm : ((l.length : Int) - 1) = ((l.length - 1 : Nat) : Int) := by omega
              have hlb : l.length ≤ 4096 := by have := HPV.out.prog.fits; omega
              have HRu := Lib.hid (fun (U : World) (hU : UReads U (.slice a l.length c) l M o) => show Calls Try.prog 17 #[.agg #[.slice a l.length c, .int .i64 most, .int .i32 over, .int .i32 under], .int .i64 ((l.length - 1 : Nat) : Int)] U (DocPost (0 ≤ ((l.length - 1 : Nat) : Int) ∧ ((l.length - 1 : Nat) : Int) ≤ l.length) U l a c M o most over under l1 0) from by
                have := r8Cut_any (over := over) (under := under) U a c M o hU HPV.out.prog.fits m2 ((l.length - 1 : Nat) : Int)
                rw [show cutL l ((l.length - 1 : Nat) : Int) = l1 by unfold cutL; rw [if_pos (by omega), Int.toNat_natCast, hl1], show cutT l ((l.length - 1 : Nat) : Int) under = 0 by unfold cutT; rw [if_pos (by omega)]] at this
                exact this)
              generalize hC : (0 ≤ ((l.length - 1 : Nat) : Int) ∧ ((l.length - 1 : Nat) : Int) ≤ l.length) = C at HRu
              obtain ⟨nl, hnl⟩ : ∃ nl, nl = l.length := ⟨_, rfl⟩
              have HNL := Lib.hid hnl
              obtain ⟨nm, hnm'⟩ : ∃ nm, nm = l.length - 1 := ⟨_, rfl⟩
              rw [← hnm'] at HRu hlm
              rw [← hnl] at HRu HRp hlm hlb
              have hnl1 : 1 ≤ nl := by omega
              clear hT hl1 hya hC hnl hnm' hl0 hlen
              subst hT0
              go_upto_region 22 with (first
                | (go_at_call 15; refine HPu.out.mono ?_; rintro e w5 ⟨v5, rfl, hs5, hk5, ho5⟩
                   have ho5 := (fun (_ : ¬ C) => ho5)
                   have HS5 := Lib.hid hs5; have HK5 := Lib.hid hk5; have HO5 := Lib.hid ho5
                   obtain ⟨km, wm, um⟩ := HPV.out.mid hk5
                   have KM := Lib.hid km; have WM := Lib.hid wm; have UM := Lib.hid um
                   replace oN := hk5.cell oN HOS.out
                   have r0 := wm.cell 0; have r1 := wm.cell 1; have r2 := wm.cell 2; have r3 := wm.cell 3
                   simp only [List.getElem?_cons_zero, List.getElem?_cons_succ] at r0 r1 r2 r3
                   clear hs5 hk5 ho5 km wm um
                   rw [← HNL.out] at r0))
              go_upto_region 24 with (first
                | (go_at_call 16; refine (HRp.out _ (by rw [HNL.out]; exact UM.out)).mono ?_; rintro e w5b ⟨rfl, hkb⟩
                   replace HS5 := Lib.hid (HS5.out.keeps hkb (by simp) (by simp)); replace HK5 := Lib.hid (HK5.out.trans (hkb.mono (by simp)))
                   replace WM := Lib.hid (WM.out.keeps hkb (by simp)); replace UM := Lib.hid (UM.out.keeps hkb (by simp))
                   replace oN := hkb.cell oN (by simp)
                   replace r0 := hkb.cell r0 (by simp); replace r1 := hkb.cell r1 (by simp); replace r2 := hkb.cell r2 (by simp); replace r3 := hkb.cell r3 (by simp)
                   clear hkb))
              go_wp2_with (first
                | (go_at_call 17; refine (HRu.out _ (by rw [HNL.out]; exact UM.out)).mono ?_; rintro e w6 ⟨a6, c6, M6, o6, rfl, hd6⟩
                   have HD6 := Lib.hid hd6
                   have HW6 := Lib.hid (WM.out.keeps hd6.2.1 (by simp))
                   replace oN := hd6.2.1.cell oN (by simp)
                   replace r0 := hd6.2.1.cell r0 (by simp); replace r1 := hd6.2.1.cell r1 (by simp); replace r2 := hd6.2.1.cell r2 (by simp); replace r3 := hd6.2.1.cell r3 (by simp)
                   have f0 := HW6.out.frozen 0; have f1 := HW6.out.frozen 1; have f2 := HW6.out.frozen 2; have f3 := HW6.out.frozen 3
                   clear hd6))
              go_meet
              case rel =>
                refine ⟨0, l1, rfl, rfl, ?_, (sets4 w6 R _ _ _ _).cell oN (by simp; exact HOR.out)⟩
                exact Lib.hid (HPV.out.done HK5.out HS5.out HO5.out HD6.out (sets4 w6 R _ _ _ _) (by
                  have := (((HW6.out.set 0 (.slice a6 l1.length c6)).set 1 (.int .i64 most)).set 2 (.int .i32 over)).set 3 (.int .i32 under)
                  exact this))
          · have e5 : (d : Int) % 5 = 3 := by omega
            clear hdd
            obtain ⟨T, hT⟩ : ∃ T, T = peekT l N under := ⟨_, rfl⟩
            obtain ⟨l1, hl1⟩ : ∃ l1, l1 = rollL l N := ⟨_, rfl⟩
            have HPu := Lib.hid (Roll_at2 HPV.out.prog N)
            rw [← hT, ← hl1] at HPu
            have HRu := Lib.hid (fun (U : World) (hU : UReads U (.slice a l.length c) l M o) => show Calls Try.prog 19 #[.agg #[.slice a l.length c, .int .i64 most, .int .i32 over, .int .i32 under], .int .i64 N] U (DocPost (0 ≤ N ∧ N < (l.length : Int)) U l a c M o most over under l1 T) from by
              rw [hT, hl1]; exact r8Roll_any U a c M o hU HPV.out.prog.fits m2 ⟨u1, u2⟩ N)
            generalize hC : (0 ≤ N ∧ N < (l.length : Int)) = C at HPu HRu
            clear hT hl1 hC
            go_upto_region 29 with (first
              | (go_at_call 18; refine HPu.out.mono ?_; rintro e w5 ⟨v5, rfl, hs5, hk5, ho5⟩
                 have HS5 := Lib.hid hs5; have HK5 := Lib.hid hk5; have HO5 := Lib.hid ho5
                 obtain ⟨km, wm, um⟩ := HPV.out.mid hk5
                 have KM := Lib.hid km; have WM := Lib.hid wm; have UM := Lib.hid um
                 replace oN := hk5.cell oN HOS.out
                 have r0 := wm.cell 0; have r1 := wm.cell 1; have r2 := wm.cell 2; have r3 := wm.cell 3
                 simp only [List.getElem?_cons_zero, List.getElem?_cons_succ] at r0 r1 r2 r3
                 clear hs5 hk5 ho5 km wm um))
            go_wp2_with (first
              | (go_at_call 19; refine (HRu.out _ UM.out).mono ?_; rintro e w6 ⟨a6, c6, M6, o6, rfl, hd6⟩
                 have HD6 := Lib.hid hd6
                 have HW6 := Lib.hid (WM.out.keeps hd6.2.1 (by simp))
                 replace oN := hd6.2.1.cell oN (by simp)
                 replace r0 := hd6.2.1.cell r0 (by simp); replace r1 := hd6.2.1.cell r1 (by simp); replace r2 := hd6.2.1.cell r2 (by simp); replace r3 := hd6.2.1.cell r3 (by simp)
                 have f0 := HW6.out.frozen 0; have f1 := HW6.out.frozen 1; have f2 := HW6.out.frozen 2; have f3 := HW6.out.frozen 3
                 clear hd6))
            go_meet
            case rel =>
              refine ⟨T, l1, rfl, rfl, ?_, (sets4 w6 R _ _ _ _).cell oN (by simp; exact HOR.out)⟩
              exact Lib.hid (HPV.out.done HK5.out HS5.out HO5.out HD6.out (sets4 w6 R _ _ _ _) (by
                have := (((HW6.out.set 0 (.slice a6 l1.length c6)).set 1 (.int .i64 most)).set 2 (.int .i32 over)).set 3 (.int .i32 under)
                exact this))
          · have e5 : (d : Int) % 5 = 4 := by omega
            clear hdd
            obtain ⟨T, hT⟩ : ∃ T, T = cutT l N under := ⟨_, rfl⟩
            obtain ⟨l1, hl1⟩ : ∃ l1, l1 = cutL l N := ⟨_, rfl⟩
            have HPu := Lib.hid (Cut_at HPV.out.prog N)
            rw [← hT, ← hl1] at HPu
            have HRu := Lib.hid (fun (U : World) (hU : UReads U (.slice a l.length c) l M o) => show Calls Try.prog 17 #[.agg #[.slice a l.length c, .int .i64 most, .int .i32 over, .int .i32 under], .int .i64 N] U (DocPost (0 ≤ N ∧ N ≤ (l.length : Int)) U l a c M o most over under l1 T) from by
              rw [hT, hl1]; exact r8Cut_any U a c M o hU HPV.out.prog.fits m2 N)
            generalize hC : (0 ≤ N ∧ N ≤ (l.length : Int)) = C at HRu
            clear hT hl1 hC
            go_upto_region 14 with (first
              | (go_at_call 20; refine HPu.out.mono ?_; rintro e w5 ⟨v5, rfl, hs5, hk5, ho5⟩
                 have ho5 := (fun (_ : ¬ C) => ho5)
                 have HS5 := Lib.hid hs5; have HK5 := Lib.hid hk5; have HO5 := Lib.hid ho5
                 obtain ⟨km, wm, um⟩ := HPV.out.mid hk5
                 have KM := Lib.hid km; have WM := Lib.hid wm; have UM := Lib.hid um
                 replace oN := hk5.cell oN HOS.out
                 have r0 := wm.cell 0; have r1 := wm.cell 1; have r2 := wm.cell 2; have r3 := wm.cell 3
                 simp only [List.getElem?_cons_zero, List.getElem?_cons_succ] at r0 r1 r2 r3
                 clear hs5 hk5 ho5 km wm um))
            go_wp2_with (first
              | (go_at_call 17; refine (HRu.out _ UM.out).mono ?_; rintro e w6 ⟨a6, c6, M6, o6, rfl, hd6⟩
                 have HD6 := Lib.hid hd6
                 have HW6 := Lib.hid (WM.out.keeps hd6.2.1 (by simp))
                 replace oN := hd6.2.1.cell oN (by simp)
                 replace r0 := hd6.2.1.cell r0 (by simp); replace r1 := hd6.2.1.cell r1 (by simp); replace r2 := hd6.2.1.cell r2 (by simp); replace r3 := hd6.2.1.cell r3 (by simp)
                 have f0 := HW6.out.frozen 0; have f1 := HW6.out.frozen 1; have f2 := HW6.out.frozen 2; have f3 := HW6.out.frozen 3
                 clear hd6))
            go_meet
            case rel =>
              refine ⟨T, l1, rfl, rfl, ?_, (sets4 w6 R _ _ _ _).cell oN (by simp; exact HOR.out)⟩
              exact Lib.hid (HPV.out.done HK5.out HS5.out HO5.out HD6.out (sets4 w6 R _ _ _ _) (by
                have := (((HW6.out.set 0 (.slice a6 l1.length c6)).set 1 (.int .i64 most)).set 2 (.int .i32 over)).set 3 (.int .i32 under)
                exact this))
        case rest =>
          obtain ⟨T, l1, rfl, rfl, HPR, oN⟩ := hcut
          clear HX HXL HPA HPV HOS HOR oD
          generalize hwf : wc = wf at *
          clear hwf
          obtain ⟨base7, v7, a7, c7, M7, o7, hp7⟩ := HPR.out
          have HP7 := Lib.hid hp7
          obtain ⟨n1, hn1⟩ : ∃ n1, n1 = l1.length := ⟨_, rfl⟩
          have HL1 := Lib.hid hn1
          obtain ⟨y, hy⟩ : ∃ y : Int, y = (peekX l1 N).toNat := ⟨_, rfl⟩
          obtain ⟨pt, hpt⟩ : ∃ pt, pt = peekT l1 N under := ⟨_, rfl⟩
          obtain ⟨mt, hmt⟩ : ∃ mt, mt = mayT most over under l1 takes gives := ⟨_, rfl⟩
          have hfit := hp7.prog.fits
          have HPk := Lib.hid (Peek_at hp7.prog N)
          rw [← hpt, show uv (peekX l1 N) = Value.int .u32 y by rw [hy]] at HPk
          have HRk := Lib.hid (fun (U : World) (hU : Keeps [] wf U) => show Calls Try.prog 16 #[.agg #[.slice a7 n1 c7, .int .i64 most, .int .i32 over, .int .i32 under], .int .i64 N] U fun e w' => e = .returned (.tuple #[.int .u32 y, .int .i32 pt]) ∧ Keeps [] U w' from by
            have := r8Peek_any (most := most) (over := over) U a7 c7 M7 o7 (hp7.reads.keeps hU (by simp)) (by omega) ⟨u1, u2⟩ N
            rw [← hpt, show uv (peekX l1 N) = Value.int .u32 y by rw [hy], ← hn1] at this
            exact this)
          have HMy := Lib.hid (fun (U : World) (hU : Keeps [] wf U) => show Calls Try.prog 24 #[.pointer (some ⟨g, 0, none⟩), .int .i64 takes, .int .i64 gives] U fun e w' => e = .returned (.int .i32 mt) ∧ Keeps [] U w' from by
            rw [hmt]; exact May_at (hp7.next hU).prog takes gives t1 g1)
          have HRm := Lib.hid (fun (U : World) => show Calls Try.prog 25 #[.agg #[.slice a7 n1 c7, .int .i64 most, .int .i32 over, .int .i32 under], .int .i64 takes, .int .i64 gives] U fun e w' => e = .returned (.int .i32 mt) ∧ Keeps [] U w' from by
            rw [hmt, hn1]; exact r8May_any U a7 c7 hfit m2 takes gives t0 t1 g0 g1)
          have HLn := Lib.hid (fun (U : World) (hU : Keeps [] wf U) => show Calls Try.prog 11 #[.pointer (some ⟨g, 0, none⟩)] U fun e w' => e = .returned (.int .i64 (n1 : Int)) ∧ U = w' from by
            rw [hn1]; exact Len_at (hp7.next hU).prog)
          have HAl := Lib.hid (fun (U : World) (hU : Keeps [] wf U) => show Calls Try.prog 23 #[.pointer (some ⟨g, 0, none⟩)] U fun e w' => ∃ a9 c9 M9, e = .returned (.slice a9 n1 c9) ∧ UReads w' (.slice a9 n1 c9) l1 M9 0 ∧ Keeps [] U w' from by
            refine (All_at (hp7.next hU).prog).mono ?_
            rintro e w' ⟨u, rfl, ho, hk⟩
            obtain ⟨M9, hr, _⟩ := UReads.owns ho
            obtain ⟨a9, c9, rfl, _⟩ := hr.shape
            rw [← hn1] at hr ⊢
            exact ⟨a9, c9, M9, rfl, hr, hk⟩)
          have HDr := Lib.hid (fun (U : World) (hU : Keeps [] wf U) => show UReads U (.slice a7 n1 c7) l1 M7 o7 from by rw [hn1]; exact hp7.reads.keeps hU (by simp))
          have docS : ∀ U, Keeps [] wf U → (U.cell? ⟨R, 0, none⟩ = some (.slice a7 n1 c7) ∧ U.cell? ⟨R, 1, none⟩ = some (.int .i64 most) ∧ U.cell? ⟨R, 2, none⟩ = some (.int .i32 over) ∧ U.cell? ⟨R, 3, none⟩ = some (.int .i32 under)) := by
            intro U hU
            have hw := hp7.doc.keeps hU (by simp)
            rw [← hn1] at hw
            exact ⟨hw.cell 0, hw.cell 1, hw.cell 2, hw.cell 3⟩
          have DOCS := Lib.hid docS
          have hl96 : l1.length ≤ maxLen := by omega
          clear hp7 hy hpt hmt hfit hn1 docS
          go_upto_region 31 with (first
            | (go_at_call 21; refine HPk.out.mono ?_; rintro e w8 ⟨rfl, hk8⟩
               have K8 := Lib.hid hk8; replace oN := hk8.cell oN (by simp)
               obtain ⟨r0, r1, r2, r3⟩ := DOCS.out w8 hk8; clear hk8))
          go_upto_region 32 with (first
            | (go_at_call 16; refine (HRk.out _ K8.out).mono ?_; rintro e w9 ⟨rfl, hk9⟩
               have K9 := Lib.hid (K8.out.trans hk9); clear hk9 r0 r1 r2 r3))
          clear HPk HRk
          have KD := Lib.hid (K9.out.trans (Keeps.drew [] w9))
          go_region_held3 (fun w' => w'.cell? ⟨R, 0, none⟩ = some (.slice a7 n1 c7) ∧ w'.cell? ⟨R, 1, none⟩ = some (.int .i64 most) ∧ w'.cell? ⟨R, 2, none⟩ = some (.int .i32 over) ∧ w'.cell? ⟨R, 3, none⟩ = some (.int .i32 under))
            (first
              | exact DOCS.out _ K14.out
              | exact DOCS.out _ K13.out
              | exact DOCS.out _ K11.out
              | exact DOCS.out _ K10.out
              | exact DOCS.out _ KD.out)
            (first
              | (go_at_call 25; refine (HRm.out _).mono ?_; rintro e w14 ⟨rfl, hk⟩; have K14 := Lib.hid (K13.out.trans hk); clear hk)
              | (go_at_call 24; refine (HMy.out _ K11.out).mono ?_; rintro e w13 ⟨rfl, hk⟩; have K13 := Lib.hid (K11.out.trans hk); clear hk)
              | (go_at_call 11; refine (HLn.out _ K11.out).mono ?_; rintro e w' ⟨rfl, rfl⟩)
              | (go_at_call 22; refine (cells_to _ _ _ l1 l1 M9 0 M7 o7 HU10.out (HDr.out _ K10.out) hl96 true (by simp)).mono ?_; rintro e w11 ⟨rfl, hk⟩; have K11 := Lib.hid (K10.out.trans hk); clear hk)
              | (go_at_call 23; refine (HAl.out _ KD.out).mono ?_; rintro e w10 ⟨a9, c9, M9, rfl, hu, hk⟩; have K10 := Lib.hid (KD.out.trans hk); have HU10 := Lib.hid hu; clear hu hk))
          have HPE := Lib.hid (show Pair w w14 g R most over under l1 from ⟨_, _, _, _, _, _, HP7.out.next K14.out⟩)
          go_wp2
          go_roundw
          case rel => exact ⟨j + 1, l1, by omega, by go_num, HPE⟩
          case measure => simp [intOf]; omega
      · obtain rfl : j = K := by omega
        obtain ⟨_, _, _, _, _, _, hpa⟩ := hp.out
        have KK := Lib.hid hpa.kept
        clear hpa hp HOPS
        go_wp2_with (go_at_call 12; refine (awake8_any _).mono ?_; rintro e w3 ⟨rfl, hk⟩; have HK := Lib.hid hk; clear hk)
        go_ret
        exact ⟨rfl, KK.out.trans HK.out⟩
  · have HN := Lib.hid (fun U => StNew_err U most over under hg)
    have HR := Lib.hid (fun U => r8New_err U most over under hg)
    clear hg HOPS
    go_enter Try.func3, Try.ntmps3
    go_wp2_with (first
      | (go_at_call 9; refine (HN.out _).mono ?_; rintro e w' ⟨rfl, rfl⟩)
      | (go_at_call 10; refine (HR.out _).mono ?_; rintro e w2 ⟨rfl, hk⟩; have K2 := Lib.hid hk; clear hk)
      | (go_at_call 11; refine (Len_not _ none (.inl rfl)).mono ?_; rintro e w' ⟨rfl, rfl⟩)
      | (go_at_call 12; refine (awake8_any _).mono ?_; rintro e w3 ⟨rfl, hk⟩; have HK := Lib.hid hk; clear hk))
    go_ret
    exact ⟨rfl, (K2.out.trans (Keeps.alloc [] _ _)).trans HK.out⟩

theorem StackTells_all (w : World) (most over under takes gives : Int) (hm : -9223372036854775808 ≤ most ∧ most ≤ 9223372036854775807) (ho : -2147483648 ≤ over ∧ over ≤ 2147483647) (hu : -2147483648 ≤ under ∧ under ≤ 2147483647)
    (ht : -9223372036854775808 ≤ takes ∧ takes ≤ 9223372036854775807) (hg : -9223372036854775808 ≤ gives ∧ gives ≤ 9223372036854775807) (v : Value) (n : Nat) (hv : Ops8 w v n) :
    Calls Try.prog 3 #[.int .i64 most, .int .i32 over, .int .i32 under, v, .int .i64 takes, .int .i64 gives] w fun e w' => e = .returned (.bool true) ∧ Keeps [] w w' :=
  StackTells_any w most over under takes gives ho.1 hu.1 ht.1 ht.2 hg.1 hg.2 v n hv
end Go.Proofs.Ytdeiehcblfiepaa
