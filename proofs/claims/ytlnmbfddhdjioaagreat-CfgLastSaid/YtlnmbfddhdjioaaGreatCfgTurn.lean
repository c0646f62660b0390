/-
  Keys and values: the sector in use.
  Keys and values: a turn of the ring.
  Keys and values: a change.
-/
import Derived.Test.YtlnmbfddhdjioaaGreatCfgSrt
import Derived.Test.YtlnmbfddhdjioaaGreatRecTornA
import Derived.Test.YtlnmbfddhdjioaaGreatRingNoneA
import Derived.Test.YtlnmbfddhdjioaaGreatCfgMath
namespace Go.Proofs.YtlnmbfddhdjioaaGreat
open Go.RowKit

theorem szSector : (Tryz.prog.info? 75).map (·.size) = some 6 := by kernel_rfl
theorem sector_one (a : Option Addr) (n c : Nat) (s k x e : Int) (m : Option Nat) : (#[Value.slice a n c, Value.int .i64 s, Value.int .u8 k, Value.int .u32 x, Value.int .i64 e, Value.map m].all fun x => x.oneCell') = true := by kernel_rfl
theorem built_sector (a : Option Addr) (n c : Nat) (s k x e : Int) (m : Option Nat) : Tryz.prog.built 75 [(0, .slice a n c), (1, .agg #[.int .i64 s, .int .u8 k, .int .u32 x]), (2, .int .i64 e), (3, .map m)] = some #[.slice a n c, .int .i64 s, .int .u8 k, .int .u32 x, .int .i64 e, .map m] := by kernel_rfl

theorem rowL_pay (b : List UInt8) (x : Nat × R4) (h : x ∈ rowL b) : x.2.pay.length ≤ b.length := by
  have : ∀ {a : Nat} {l : List (Nat × R4)}, IsRow b a l → x ∈ l → x.2.pay.length ≤ b.length := by
    intro a l hr
    induction hr with
    | done => intro h; simp at h
    | more a h l hl ih =>
      intro hx
      rcases List.mem_cons.1 hx with rfl | hx
      · have := firstL_payLen (b.drop a); rw [List.length_drop] at this; simp only; omega
      · exact ih hx
  exact this (isRow_rowL b) h

theorem sees_next {S : List Nat} {w w' : World} {H : Nat} {a b c : Value} (h : w.cell? ⟨H, 0, none⟩ = some a ∧ w.cell? ⟨H, 1, none⟩ = some b ∧ w.cell? ⟨H, 2, none⟩ = some c) (k : Keeps S w w') (hH : H ∉ S) :
    w'.cell? ⟨H, 0, none⟩ = some a ∧ w'.cell? ⟨H, 1, none⟩ = some b ∧ w'.cell? ⟨H, 2, none⟩ = some c := ⟨k.cell h.1 hH, k.cell h.2.1 hH, k.cell h.2.2 hH⟩

abbrev secZ : List Value := [.slice none 0 0, .int .i64 0, .int .u8 0, .int .u32 0, .int .i64 0, .map none]

theorem sector_store {W : World} {g : Nat} {old : List Value} (hg : Whole W g 75 old) (cs : List Value) (hl : cs.length = old.length) (h1 : (cs.toArray.all fun x => x.oneCell') = true) : (storeCells ⟨g, 0, none⟩ cs).run Tryz.prog W = .ok () (W.setRow g cs.toArray) := by
  have := run_storeCells_from (P := Tryz.prog) g 75 cs 0 old.toArray W hg (by simp [hl]) (fun v hv => (Array.all_eq_true_iff_forall_mem.1 h1) v (by simpa using hv))
  simpa [hl] using this

theorem use_start (w : World) (first count : Int) : Keeps [] w ((w.alloc (.cells #[.int .i64 first, .int .i64 count] 25)).alloc (.cells #[.slice none 0 0, .int .i64 0, .int .u8 0, .int .u32 0, .int .i64 0, .map none] 75)) ∧
    Whole ((w.alloc (.cells #[.int .i64 first, .int .i64 count] 25)).alloc (.cells #[.slice none 0 0, .int .i64 0, .int .u8 0, .int .u32 0, .int .i64 0, .map none] 75)) w.heap.size 25 [.int .i64 first, .int .i64 count] ∧
    Whole ((w.alloc (.cells #[.int .i64 first, .int .i64 count] 25)).alloc (.cells #[.slice none 0 0, .int .i64 0, .int .u8 0, .int .u32 0, .int .i64 0, .map none] 75)) (w.heap.size + 1) 75 secZ :=
  ⟨(Keeps.alloc [] _ _).trans (Keeps.alloc [] _ _), (Whole.new w 25 [_, _]).keeps (Keeps.alloc [] _ _) (by simp), Whole.new_at _ 75 [_, _, _, _, _, _] _ (by simp)⟩

set_option maxRecDepth 100000 in
set_option maxHeartbeats 1000000 in
theorem inUse_not (w : World) (p : Option Addr) (h : NotMade w p) (first count : Int) :
    Calls Tryz.prog 31 #[.pointer p, .agg #[.int .i64 first, .int .i64 count]] w fun e w' => e = .returned (.tuple #[.agg #[.slice none 0 0, .int .i64 0, .int .u8 0, .int .u32 0, .int .i64 0, .map none], .int .i64 1]) ∧ Keeps [] w w' := by
  have HL := Lib.hid (fun U (hU : Keeps [] w U) => Look_not U p (NotMade.keeps h hU) first count)
  clear h
  obtain ⟨kV, wP, wR⟩ := use_start w first count
  have KV := Lib.hid kV
  have WR := Lib.hid wR
  clear kV wP wR
  go_enter Tryz.func31, Tryz.ntmps31
  go_wp2_with (go_at_call 19; refine (HL.out _ KV.out).mono ?_; rintro e w' ⟨rfl, rfl⟩)
  refine bodyPost_ret (results_row_tmp rfl _ _ (w.heap.size + 1) 75 #[.slice none 0 0, .int .i64 0, .int .u8 0, .int .u32 0, .int .i64 0, .map none] (0, 0) _ rfl WR.out Tryz.underlying75 rfl (by rw [szSector]; rfl) _ rfl) rfl ?_
  exact ⟨rfl, KV.out⟩

set_option maxRecDepth 100000 in
set_option maxHeartbeats 1000000 in
theorem inUse_bad {F B W M : Nat} {s : FS} (w : World) (hF : FlashAt w F B W M s) (h0 : 0 < s.wear.length) (first count : Int) (hc2 : count ≤ 9223372036854775807) (h : count < 3 ∨ first < 0 ∨ s.wear.length - count < first) :
    Calls Tryz.prog 31 #[.pointer (some ⟨F, 0, none⟩), .agg #[.int .i64 first, .int .i64 count]] w fun e w' => e = .returned (.tuple #[.agg #[.slice none 0 0, .int .i64 0, .int .u8 0, .int .u32 0, .int .i64 0, .map none], .int .i64 50]) ∧ Keeps [] w w' := by
  have HL := Lib.hid (fun U (hU : Keeps [] w U) => Look_bad U (hF.keeps hU (by simp) (by simp) (by simp) (by simp)) h0 first count hc2 h)
  clear h hF
  obtain ⟨kV, wP, wR⟩ := use_start w first count
  have KV := Lib.hid kV
  have WR := Lib.hid wR
  clear kV wP wR
  go_enter Tryz.func31, Tryz.ntmps31
  go_wp2_with (go_at_call 19; refine (HL.out _ KV.out).mono ?_; rintro e w' ⟨rfl, rfl⟩)
  refine bodyPost_ret (results_row_tmp rfl _ _ (w.heap.size + 1) 75 #[.slice none 0 0, .int .i64 0, .int .u8 0, .int .u32 0, .int .i64 0, .map none] (0, 0) _ rfl WR.out Tryz.underlying75 rfl (by rw [szSector]; rfl) _ rfl) rfl ?_
  exact ⟨rfl, KV.out⟩

set_option maxRecDepth 100000 in
set_option maxHeartbeats 1000000 in
theorem inUse_none {F B W M : Nat} {s : FS} (w : World) (hF : FlashAt w F B W M s) (hd : s.down = false) (first count : Nat) (hc : 3 ≤ count) (hfc : first + count ≤ s.wear.length)
    (hh : newestL (lookL s.bs first count) = none) :
    Calls Tryz.prog 31 #[.pointer (some ⟨F, 0, none⟩), .agg #[.int .i64 first, .int .i64 count]] w fun e w' => e = .returned (.tuple #[.agg #[.slice none 0 0, .int .i64 0, .int .u8 0, .int .u32 0, .int .i64 0, .map none], .int .i64 50]) ∧ Keeps [] w w' := by
  have hfew := hF.few
  have HL := Lib.hid (fun U (hU : Keeps [] w U) => Look_ok U (hF.keeps hU (by simp) (by simp) (by simp) (by simp)) hd first count hc hfc)
  have HH := Lib.hid hh
  obtain ⟨L, hL⟩ : ∃ L, L = lookL s.bs first count := ⟨_, rfl⟩
  rw [← hL] at HL HH
  have HLL := Lib.hid (show L.length = count by rw [hL, lookL_length])
  clear hF hh hL
  have HN := Lib.hid (fun U v (hU : HdrsAt U v L) => Newest_any U v L hU (by rw [HLL.out]; omega))
  rw [HH.out] at HN
  simp only [Option.getD_none, Option.isSome_none, hdrCells] at HN
  obtain ⟨kV, wP, wR⟩ := use_start w first count
  go_enter Tryz.func31, Tryz.ntmps31
  go_upto_region 1 with (fail)
  generalize hV : World.alloc (World.alloc w _) _ = V at *
  have q0 := (wP.cell 0).trans (show _ = some (Value.int .i64 (first : Int)) from rfl)
  have q1 := (wP.cell 1).trans (show _ = some (Value.int .i64 (count : Int)) from rfl)
  have KV := Lib.hid kV
  have WR := Lib.hid wR
  have sV := wR.lt
  clear kV wP wR hV
  go_upto_region 4 with (go_at_call 19; refine (HL.out _ KV.out).mono ?_; rintro e w1 ⟨g, cp, rfl, hg, hhd, k1⟩; have K1 := Lib.hid (KV.out.trans k1); have W1 := Lib.hid (WR.out.keeps k1 (by simp)); have HD1 := Lib.hid hhd; have s1 := k1.size; clear k1 hhd)
  go_upto_region 6 with (go_at_call 20; refine (HN.out _ _ HD1.out).mono ?_; rintro e w2 ⟨rfl, k2⟩; have K2 := Lib.hid (K1.out.trans k2); have W2 := Lib.hid (W1.out.keeps k2 (by simp)); have s2 := k2.size; clear k2)
  have W3 := (W2.out.keeps (Keeps.alloc [] _ (.cells #[.int .i64 0, .int .u8 0, .int .u32 0] 60)) (by simp)).setRow secZ
  go_wp2_with (refine wpList_store_row rfl 75 _ _ rfl (w.heap.size + 1) #[.slice none 0 0, .int .i64 0, .int .u8 0, .int .u32 0, .int .i64 0, .map none] rfl rfl 75 #[.slice none 0 0, .int .i64 0, .int .u8 0, .int .u32 0, .int .i64 0, .map none] (W2.out.keeps (Keeps.alloc [] _ _) (by simp)) (by rw [szSector]; rfl) rfl (sector_one _ _ _ _ _ _ _ _) ?_)
  refine bodyPost_ret (results_row_tmp rfl _ _ (w.heap.size + 1) 75 #[.slice none 0 0, .int .i64 0, .int .u8 0, .int .u32 0, .int .i64 0, .map none] (0, 0) _ rfl W3 Tryz.underlying75 rfl (by rw [szSector]; rfl) _ rfl) rfl ?_
  exact ⟨rfl, (K2.out.trans (Keeps.alloc [] _ _)).then (Keeps.setRow (S := [w.heap.size + 1]) _ (by simp) _) (fun x hx => .inr (by simp at hx; omega))⟩

set_option maxRecDepth 100000 in
set_option maxHeartbeats 2000000 in
theorem inUse_ok {F B W M : Nat} {s : FS} (w : World) (hF : FlashAt w F B W M s) (hd : s.down = false) (first count k : Nat) (hc : 3 ≤ count) (hfc : first + count ≤ s.wear.length) (hk : k < s.wear.length) (kd : UInt8) (x : BitVec 32)
    (hh : newestL (lookL s.bs first count) = some ⟨(k : Int), kd, x⟩) :
    Calls Tryz.prog 31 #[.pointer (some ⟨F, 0, none⟩), .agg #[.int .i64 first, .int .i64 count]] w fun e w' => ∃ g cp Bm, e = .returned (.tuple #[.agg #[.slice (some ⟨g, 0, none⟩) count cp, .int .i64 k, .int .u8 (kd.toNat : Int), .int .u32 (x.toNat : Int), .int .i64 (endK (sec s.bs k)), .map (some Bm)], .int .i64 0]) ∧
      w.heap.size ≤ g ∧ w.heap.size ≤ Bm ∧ HdrsAt w' (.slice (some ⟨g, 0, none⟩) count cp) (lookL s.bs first count) ∧ MapAt (Bm + 1) w' Bm (entB (sec s.bs k)) ∧ Keeps [] w w' := by
  have hfew := hF.few
  have hlen := hF.len
  have hsl := sec_length s.bs k (by omega)
  have HL := Lib.hid (fun U (hU : Keeps [] w U) => Look_ok U (hF.keeps hU (by simp) (by simp) (by simp) (by simp)) hd first count hc hfc)
  have HR := Lib.hid (fun U (hU : Keeps [] w U) => Read_ok U (hF.keeps hU (by simp) (by simp) (by simp) (by simp)) ((k * 256 : Nat) : Int) 256 hd (by unfold FS.has; omega))
  have HP := Lib.hid (show s.part ((k * 256 : Nat) : Int) 256 = sec s.bs k by unfold FS.part sec; rw [Int.toNat_natCast]; rfl)
  have HH := Lib.hid hh
  obtain ⟨b, hb⟩ : ∃ b, b = sec s.bs k := ⟨_, rfl⟩
  rw [← hb] at HP hsl ⊢
  rw [HP.out] at HR
  obtain ⟨L, hL⟩ : ∃ L, L = lookL s.bs first count := ⟨_, rfl⟩
  rw [← hL] at HL HH ⊢
  have HLL := Lib.hid (show L.length = count by rw [hL, lookL_length])
  have HBL := Lib.hid hsl
  have hkn : k < 256 := by omega
  have hm : (k : Int) * 256 = ((k * 256 : Nat) : Int) := by omega
  have hq : k * 256 < 100000 := by omega
  clear hF hh hL hb hsl HP
  generalize k * 256 = q at *
  have HN := Lib.hid (fun U v (hU : HdrsAt U v L) => Newest_any U v L hU (by rw [HLL.out]; omega))
  rw [HH.out] at HN
  simp only [Option.getD_some, Option.isSome_some, hdrCells] at HN
  unfold uv at HN
  generalize (kd.toNat : Int) = kz at *
  generalize (x.toNat : Int) = xz at *
  obtain ⟨kV, wP, wR⟩ := use_start w first count
  go_enter Tryz.func31, Tryz.ntmps31
  go_upto_region 1 with (fail)
  generalize hV : World.alloc (World.alloc w _) _ = V at *
  have q0 := (wP.cell 0).trans (show _ = some (Value.int .i64 (first : Int)) from rfl)
  have q1 := (wP.cell 1).trans (show _ = some (Value.int .i64 (count : Int)) from rfl)
  have KV := Lib.hid kV
  have WR := Lib.hid wR
  have sV := wR.lt
  clear kV wP wR hV
  go_upto_region 4 with (go_at_call 19; refine (HL.out _ KV.out).mono ?_; rintro e w1 ⟨g, cp, rfl, hg, hhd, k1⟩; have K1 := Lib.hid (KV.out.trans k1); have W1 := Lib.hid (WR.out.keeps k1 (by simp)); have HD1 := Lib.hid hhd; have s1 := k1.size; clear k1 hhd)
  go_upto_region 7 with (go_at_call 20; refine (HN.out _ _ HD1.out).mono ?_; rintro e w2 ⟨rfl, k2⟩; have K2 := Lib.hid (K1.out.trans k2); have W2 := Lib.hid (W1.out.keeps k2 (by simp)); have s2 := k2.size; have HD2 := Lib.hid (HD1.out.keeps k2 (by simp)); clear k2)
  generalize hU : World.alloc w2 _ = U
  have wH : Whole U w2.heap.size 60 [.int .i64 k, .int .u8 kz, .int .u32 xz] := by rw [← hU]; exact Whole.new w2 60 [_, _, _]
  have kU : Keeps [] w2 U := by rw [← hU]; exact Keeps.alloc [] _ _
  have p0 := (wH.cell 0).trans (show _ = some (Value.int .i64 (k : Int)) from rfl)
  have K3 := Lib.hid (K2.out.trans kU)
  have W3 := Lib.hid (W2.out.keeps kU (by simp))
  have HD3 := Lib.hid (HD2.out.keeps kU (by simp))
  have WH3 := Lib.hid wH
  have sH := wH.lt
  have s3 := kU.size
  clear hU kU wH K1 W1 HD1 K2 W2 HD2
  generalize w2.heap.size = H at *
  go_upto_region 10 with (go_at_call 36; refine (HR.out _ K3.out).mono ?_; rintro e w4 ⟨bb, c, rfl, hbb, rb, k4⟩; have K4 := Lib.hid (K3.out.trans k4); have W4 := Lib.hid (W3.out.keeps k4 (by simp)); have HD4 := Lib.hid (HD3.out.keeps k4 (by simp)); have WH4 := Lib.hid (WH3.out.keeps k4 (by simp)); have RB4 := Lib.hid rb; have sB := rb.lt; have s4 := k4.size; have hcc := rb.room; rw [List.length_map, HBL.out] at hcc; clear k4 rb)
  have hcc' : 20 ≤ c := by omega
  go_upto_region 11 with (first | (go_at_call 57; refine (Head_any _).mono ?_; rintro e w5 ⟨rfl, k5⟩; have K5 := Lib.hid (K4.out.trans k5); have W5 := Lib.hid (W4.out.keeps k5 (by simp)); have HD5 := Lib.hid (HD4.out.keeps k5 (by simp)); have WH5 := Lib.hid (WH4.out.keeps k5 (by simp)); have RB5 := Lib.hid (RB4.out.keeps k5 (by simp)); have s5 := k5.size; clear k5) | (go_at_call 56; have hrd := RB5.out.reads.tailN 20 (by rw [HBL.out]; decide); rw [HBL.out] at hrd; refine (Scan_any _ _ (b.drop 20) bb hrd (by rw [List.length_drop, HBL.out]; decide) (fun _ => by omega)).mono ?_; rintro e w6 ⟨ao, rp, vs, rfl, ho, hrs, k6, hlt6⟩; have RS6 := Lib.hid (RecsAt.ofScan ho hrs (by omega)); have K6 := Lib.hid (K5.out.trans k6); have W6 := Lib.hid (W5.out.keeps k6 (by simp)); have HD6 := Lib.hid (HD5.out.keeps k6 (by simp)); have WH6 := Lib.hid (WH5.out.keeps k6 (by simp)); have RB6 := Lib.hid (RB5.out.keeps k6 (by simp)); have s6 := k6.size; clear k6 ho hrs hrd))
  have hE := fun U (hU : Keeps [] w6 U) => recEnd_any U (.slice (some ⟨bb, 0, none⟩) 256 c) b bb (by have := (RB6.out.keeps hU (by simp)).reads; rwa [HBL.out] at this) (by rw [HBL.out]; decide) (fun _ => by have := hU.size; omega)
  have hEN := fun U (hU : Keeps [] w6 U) => entriesOf_any U _ _ (RS6.out.keeps hU (by simp)) (by have := rowL_count (b.drop 20); rw [List.length_drop, HBL.out] at this; omega) (fun x hx => by have := rowL_pay (b.drop 20) x hx; rw [List.length_drop, HBL.out] at this; omega)
  have HE := Lib.hid hE
  have HEN := Lib.hid hEN
  clear hE hEN
  have h0 := (WH6.out.cell 0).trans (show _ = some (Value.int .i64 (k : Int)) from rfl)
  have h1 := (WH6.out.cell 1).trans (show _ = some (Value.int .u8 kz) from rfl)
  have h2 := (WH6.out.cell 2).trans (show _ = some (Value.int .u32 xz) from rfl)
  generalize (rowL (b.drop 20)).length = n at *
  have S0 := Lib.hid (show w6.cell? ⟨H, 0, none⟩ = some (Value.int .i64 (k : Int)) ∧ w6.cell? ⟨H, 1, none⟩ = some (Value.int .u8 kz) ∧ w6.cell? ⟨H, 2, none⟩ = some (Value.int .u32 xz) from ⟨h0, h1, h2⟩)
  clear h0 h1 h2
  have hzR := Lib.hid (show w.heap.size ≤ w.heap.size + 1 by omega)
  generalize w.heap.size + 1 = R at *
  refine wp_region_held_drew (S := fun w' => w'.cell? ⟨H, 0, none⟩ = some (Value.int .i64 (k : Int)) ∧ w'.cell? ⟨H, 1, none⟩ = some (Value.int .u8 kz) ∧ w'.cell? ⟨H, 2, none⟩ = some (Value.int .u32 xz)) (by kernel_rfl) (sees_next S0.out (Keeps.drew [] _) (by simp)) (fun hS1 => ?_)
  refine wpAnyH_take (i := 0) (v := ?_) rfl (by kernel_rfl) (by kernel_rfl) (by kernel_rfl) (fun _ _ _ h => h) (Or.inl ⟨by rfl, by intro w hSw; (try dsimp only at hSw); go_simp; with_reducible rfl⟩) (by assumption) ?_
  refine wpAnyH_take (i := 1) (v := ?_) rfl (by kernel_rfl) (by kernel_rfl) (by kernel_rfl) (fun _ _ _ h => h) (Or.inl ⟨by rfl, by intro w hSw; (try dsimp only at hSw); go_simp; with_reducible rfl⟩) (by assumption) ?_
  refine wpAnyH_take (i := 2) (v := ?_) rfl (by kernel_rfl) (by kernel_rfl) (by kernel_rfl) (fun _ _ _ h => h) (Or.inl ⟨by rfl, by intro w hSw; (try dsimp only at hSw); go_simp; with_reducible rfl⟩) (by assumption) ?_
  refine wpAnyH_take (i := 4) (v := ?_) rfl (by kernel_rfl) (by kernel_rfl) (by kernel_rfl) (fun _ _ _ h => h) (Or.inl ⟨by rfl, by intro w hSw; (try dsimp only at hSw); go_simp; with_reducible rfl⟩) (by assumption) ?_
  simp only [Act.put, List.getElem_toArray, List.getElem_cons_succ, List.getElem_cons_zero, List.setIfInBounds_toArray, List.set_cons_succ, List.set_cons_zero]
  refine wpAnyH_ready (rs := [3]) (by kernel_rfl) (by simp) (AllReadyH.cons (o := { dst := some 52, op := Op.call { callee := Callee.value (Operand.func 58), args := #[Operand.tmp 51], argTypes := #[23] }, type := 3, pos := "sector.go:33", after := #[{ on := 2, ground := Ground.data }], guard := none }) rfl (fun K hK => ?_) AllReadyH.nil)
  go_simp
  go_wp2_with (go_at_call 58; refine (HE.out _ (Keeps.drew [] _)).mono ?_; rintro e w7 ⟨rfl, kk⟩; have K7 := Lib.hid ((Keeps.drew [] _).trans kk); have hS2 := sees_next S0.out K7.out (by simp); clear kk)
  refine hK.out _ _ hS2 (fun _ => ?_)
  clear hK K
  refine wpAnyH_ready (rs := [5]) (by kernel_rfl) (by simp) (AllReadyH.cons (o := { dst := some 54, op := Op.call { callee := Callee.value (Operand.func 59), args := #[Operand.tmp 53], argTypes := #[106] }, type := 73, pos := "sector.go:33", after := #[{ on := 4, ground := Ground.data }, { on := 3, ground := Ground.chain }], guard := none }) rfl (fun K hK => ?_) AllReadyH.nil)
  go_simp
  go_wp2_with (go_at_call 59; refine (HEN.out _ K7.out).mono ?_; rintro e w8 ⟨rfl, hmap, kk⟩; have HM := Lib.hid hmap; have K8 := Lib.hid (K7.out.trans kk); have hS3 := sees_next S0.out K8.out (by simp); have s78 := kk.size; have W8 := Lib.hid (W6.out.keeps K8.out (by simp)); clear kk hmap)
  refine hK.out _ _ hS3 (fun _ => ?_)
  clear hK K
  refine wpAnyH_take (i := 6) (v := ?_) rfl (by kernel_rfl) (by kernel_rfl) (by kernel_rfl) (fun _ _ _ h => h) (Or.inl ⟨by rfl, by intro w hSw; (try dsimp only at hSw); go_simp; with_reducible rfl⟩) (by assumption) ?_
  simp only [Act.put, List.getElem_toArray, List.getElem_cons_succ, List.getElem_cons_zero, List.setIfInBounds_toArray, List.set_cons_succ, List.set_cons_zero]
  refine wpAnyH_ready (rs := [7]) (by kernel_rfl) (by simp) (AllReadyH.cons (o := { dst := none, op := Op.store 75 (Operand.tmp 4) (Operand.tmp 55), type := 0, pos := "sector.go:33", after := #[{ on := 6, ground := Ground.data }, { on := 5, ground := Ground.chain }, { on := 0, ground := Ground.phase }, { on := 1, ground := Ground.phase }, { on := 2, ground := Ground.phase }, { on := 3, ground := Ground.phase }, { on := 4, ground := Ground.phase }, { on := 5, ground := Ground.phase }, { on := 6, ground := Ground.phase }], guard := none }) rfl (fun K hK => ?_) AllReadyH.nil)
  refine step_store_mid rfl 75 (.tmp 4) (.tmp 55) rfl R 0 #[.slice (some ⟨g, 0, none⟩) count cp, .int .i64 k, .int .u8 kz, .int .u32 xz, .int .i64 (endK b), .map (some w7.heap.size)] rfl rfl (W8.out.there 0 _ (by simp)) (by rw [szSector]; rfl) (sector_one _ _ _ _ _ _ _ _) ?_
  have K9 := Keeps.setCells (S := [R]) w8 (List.mem_singleton.2 rfl) 0 [.slice (some ⟨g, 0, none⟩) count cp, .int .i64 k, .int .u8 kz, .int .u32 xz, .int .i64 (endK b), .map (some w7.heap.size)]
  have W9 : Whole (w8.setCells R 0 [.slice (some ⟨g, 0, none⟩) count cp, .int .i64 k, .int .u8 kz, .int .u32 xz, .int .i64 (endK b), .map (some w7.heap.size)]) R 75 [.slice (some ⟨g, 0, none⟩) count cp, .int .i64 k, .int .u8 kz, .int .u32 xz, .int .i64 (endK b), .map (some w7.heap.size)] :=
    Whole.setCells (pre := []) (cs := secZ) (post := []) _ W8.out 0 rfl rfl
  have hS4 := sees_next hS3 K9 (by simp; omega)
  have K67 := K7.out.size
  have hwV := KV.out.size
  have hw6 := K6.out.size
  refine hK.out _ _ hS4 (fun _ => ?_)
  clear hK K
  refine wpAnyH_take (i := 8) (v := ?_) rfl (by kernel_rfl) (by kernel_rfl) (by kernel_rfl) (fun _ _ _ h => h) (Or.inl ⟨by rfl, by intro w hSw; (try dsimp only at hSw); go_simp; with_reducible rfl⟩) (by assumption) ?_
  refine wpAnyH_done (by kernel_rfl) ?_ _
  simp only [Act.put, List.getElem_toArray, List.getElem_cons_succ, List.getElem_cons_zero, List.setIfInBounds_toArray, List.set_cons_succ, List.set_cons_zero]
  go_wp2
  refine bodyPost_ret (results_row_tmp rfl _ _ R 75 #[.slice (some ⟨g, 0, none⟩) count cp, .int .i64 k, .int .u8 kz, .int .u32 xz, .int .i64 (endK b), .map (some w7.heap.size)] (0, 0) _ rfl W9 Tryz.underlying75 rfl (by rw [szSector]; rfl) _ rfl) rfl ?_
  refine ⟨g, cp, w7.heap.size, rfl, by omega, by omega, (HD6.out.keeps K8.out (by simp)).keepsBut K9 (fun g' hg' => by cases hg'; simp; omega), HM.out.keeps K9 (by simp; omega) (fun x hx => by simp at hx; omega), (K6.out.trans K8.out).then K9 (fun x hx => .inr (by simp at hx; have := hzR.out; omega))⟩
end Go.Proofs.YtlnmbfddhdjioaaGreat

namespace Go.Proofs.YtlnmbfddhdjioaaGreat
open Go.RowKit

theorem rows_nil (s : FS) (a : Nat) : s.rows a [] = (s, 0) := rfl
theorem rows_cons (s : FS) (a : Nat) (e : Ent) (r : List Ent) : s.rows a (e :: r) = if (s.write (a : Int) (payE e)).2 ≠ 0 then s.write (a : Int) (payE e) else FS.rows (s.write (a : Int) (payE e)).1 (a + wE e) r := rfl

theorem weightL_ok {k v : List UInt8} (h : OkE (k, v)) : weightL k v = wE (k, v) := by
  unfold weightL; rw [if_pos ⟨⟨h.k1, h.k16⟩, h.v64⟩]

theorem EntsAt.at {base : Nat} {w : World} {ao : Option Addr} {n cap : Nat} {es : List Ent} (h : EntsAt base w (.slice ao n cap) es) (i : Nat) (e : Ent) (he : es[i]? = some e) :
    ∃ (g : Nat) (kv vv : Value), ao = some ⟨g, 0, none⟩ ∧ base ≤ g ∧ g < w.heap.size ∧ w.cell? ⟨g, i * 2, none⟩ = some kv ∧ w.cell? ⟨g, i * 2 + 1, none⟩ = some vv ∧ BytesAt base w kv e.1 ∧ BytesAt base w vv e.2 := by
  obtain ⟨ao', cap', he', _, hc⟩ := h
  cases he'
  exact hc i e he

set_option maxRecDepth 100000 in
set_option maxHeartbeats 2000000 in
theorem turn_clean {F B W M : Nat} {s : FS} (w : World) (hF : FlashAt w F B W M s) (first n k p Bm base g cp : Nat) (kz ez : Int) (x : BitVec 32) (es : List Ent)
    (hh : HdrsAt w (.slice (some ⟨g, 0, none⟩) n cp) (lookL s.bs first n)) (hm : MapAt base w Bm es) (hok : ∀ e ∈ es, OkE e) (hwt : wtL es ≤ 236) (hb : F < base ∧ B < base ∧ W < base ∧ base ≤ w.heap.size ∧ Bm ≠ F ∧ Bm ≠ B ∧ Bm ≠ W) (hn : n ≤ 256) (hp : p < 256)
    (hpick : s.pick k (lookL s.bs first n) = some (hdrAt s.bs p)) (hw : ∀ x ∈ s.wear, 0 ≤ x ∧ x < 9223372036854775807) (s1 : FS) (hcl : s.clear p = (s1, 0)) (h0 : 0 < s.wear.length) :
    Calls Tryz.prog 80 #[.agg #[.slice (some ⟨g, 0, none⟩) n cp, .int .i64 k, .int .u8 kz, .int .u32 (x.toNat : Int), .int .i64 ez, .map (some Bm)], .pointer (some ⟨F, 0, none⟩)] w fun e w' =>
      e = .returned (.int .i64 (s.turn first n k (x + 1#32) es).2) ∧ FlashAt w' F B W M (s.turn first n k (x + 1#32) es).1 ∧ Keeps [F, B, W] w w' := by
  obtain ⟨y, hy⟩ : ∃ y, y = x + 1#32 := ⟨_, rfl⟩
  have hx1 : IntKind.u32.wrap ((x.toNat : Int) + 1) = (y.toNat : Int) := by rw [hy]; exact add32 x 1#32
  have hx2 : ((x.toNat : Int) + 1) % 4294967296 = (y.toNat : Int) := by rw [hy]; exact add32m x 1#32
  rw [← hy]
  have hturn : s.turn first n k y es = if (s1.rows (p * 256 + 20) es).2 ≠ 0 then s1.rows (p * 256 + 20) es else (s1.rows (p * 256 + 20) es).1.opened p y := by
    unfold FS.turn
    rw [hpick]
    simp only [Option.getD_some]
    rw [show (hdrAt s.bs p).sector = (p : Int) from rfl]
    simp only [Int.toNat_natCast]
    rw [hcl, if_neg (by simp)]
  obtain ⟨sT, eT, hT⟩ : ∃ sT eT, s.turn first n k y es = (sT, eT) := ⟨_, _, rfl⟩
  rw [hT]
  rw [hturn] at hT
  obtain ⟨bF, bB, bW, bw, mF, mB, mW⟩ := hb
  have hPK := fun U (hU : Keeps [] w U) => Pick_any U (hF.keeps hU (by simp) (by simp) (by simp) (by simp)) h0 _ _ (hh.keeps hU (by simp)) (by rw [lookL_length]; omega) k
  rw [hpick] at hPK
  simp only [Option.getD_some, Option.isSome_some, show (hdrAt s.bs p).sector = (p : Int) from rfl] at hPK
  have hCL := fun U (hU : Keeps [] w U) => Clear_any U (hF.keeps hU (by simp) (by simp) (by simp) (by simp)) p (by omega) hw
  rw [hcl] at hCL
  have HPK := Lib.hid hPK
  have HCL := Lib.hid hCL
  have HM := Lib.hid hm
  have HOK := Lib.hid hok
  have hlen : es.length ≤ 100000 := by have := wtL_length es; omega
  obtain ⟨m, hm'⟩ : ∃ m, m = es.length := ⟨_, rfl⟩
  have HLM := Lib.hid hm'
  have hml : m ≤ 100000 := by omega
  obtain ⟨q, hq⟩ : ∃ q : Nat, q = p * 256 := ⟨_, rfl⟩
  have hqm : (p : Int) * 256 = (q : Int) := by omega
  have hq1 : q < 100000 := by omega
  rw [← hq] at hT
  obtain ⟨a0, ha0⟩ : ∃ a0 : Nat, a0 = q + 20 := ⟨_, rfl⟩
  have hqa : (q : Int) + 20 = (a0 : Int) := by omega
  have ha1 : a0 < 100020 := by omega
  rw [← ha0] at hT
  have HT := Lib.hid hT
  clear ha0 hT
  clear hPK hCL hF hh hm hok hcl hturn hpick hm' hy hq
  generalize (x.toNat : Int) = xz at *
  obtain ⟨yz, hyz⟩ : ∃ yz : Int, yz = (y.toNat : Int) := ⟨_, rfl⟩
  rw [← hyz] at hx1 hx2
  have HYZ := Lib.hid hyz
  clear hyz
  go_enter Tryz.func80, Tryz.ntmps80
  go_upto_region 1 with (fail)
  generalize hV : World.alloc w _ = V
  have kV : Keeps [] w V := by rw [← hV]; exact Keeps.alloc [] _ _
  have wV : Whole V w.heap.size 75 [.slice (some ⟨g, 0, none⟩) n cp, .int .i64 k, .int .u8 kz, .int .u32 xz, .int .i64 ez, .map (some Bm)] := by rw [← hV]; exact Whole.new w 75 [_, _, _, _, _, _]
  have v0 := (wV.cell 0).trans (show _ = some (Value.slice (some ⟨g, 0, none⟩) n cp) from rfl)
  have v1 := (wV.cell 1).trans (show _ = some (Value.int .i64 (k : Int)) from rfl)
  have KV := Lib.hid kV
  have WV := Lib.hid wV
  have sV := wV.lt
  clear hV kV wV
  go_upto_region 2 with (go_at_call 103; refine (HPK.out _ KV.out).mono ?_; rintro e w1 ⟨rfl, k1⟩; have K1 := Lib.hid (KV.out.trans k1); have W1 := Lib.hid (WV.out.keeps k1 (by simp)); have n1 := k1.size; clear k1)
  go_upto_region 7 with (go_at_call 21; refine (HCL.out _ K1.out).mono ?_; rintro e w2 ⟨rfl, hf2, k2⟩; have HF2 := Lib.hid hf2; have K2 := Lib.hid ((K1.out.mono (by simp)).trans k2); have W2 := Lib.hid (W1.out.keeps k2 (by simp; omega)); have n2 := k2.size; clear k2 hf2)
  go_upto_region 8 with (go_at_call 57; refine (Head_any _).mono ?_; rintro e w3 ⟨rfl, k3⟩; have K3 := Lib.hid (K2.out.trans (k3.mono (by simp))); have W3 := Lib.hid (W2.out.keeps k3 (by simp)); have HF3 := Lib.hid (HF2.out.keeps k3 (by simp) (by simp) (by simp) (by simp)); have n3 := k3.size; clear k3)
  have v3 := (W3.out.cell 5).trans (show _ = some (Value.map (some Bm)) from rfl)
  have hS := sorted_any w3 Bm base es (HM.out.keeps K3.out (by simp; omega) (fun x hx => by simp at hx; omega)) (by have := K3.out.size; omega) hlen
  have HS := Lib.hid (show Calls Tryz.prog 32 #[.map (some Bm)] w3 fun e w' => ∃ ao cap, e = .returned (.slice ao m cap) ∧ m ≤ cap ∧ EntsAt base w' (.slice ao m cap) es ∧ Keeps [] w3 w' from hS.mono (by
    rintro e w' ⟨v, rfl, he, hk⟩
    obtain ⟨ao, cap, rfl, hcap⟩ := he.shape
    rw [HLM.out]
    exact ⟨ao, cap, rfl, hcap, he, hk⟩))
  clear hS
  go_wp2_with (go_at_call 32; refine HS.out.mono ?_; rintro e w4 ⟨ao, cap, rfl, hcap, he4, k4⟩; have HE4 := Lib.hid he4; have K4 := Lib.hid (K3.out.trans (k4.mono (by simp))); have W4 := Lib.hid (W3.out.keeps k4 (by simp)); have HF4 := Lib.hid (HF3.out.keeps k4 (by simp) (by simp) (by simp) (by simp)); have n4 := k4.size; clear k4 he4)
  go_loopw [8, 39] (fun at' i wr => ∃ (j aK : Nat) (sK : FS), j ≤ m ∧ i = .int .i64 j ∧ at' = .int .i64 aK ∧ Hid (FlashAt wr F B W M sK) ∧ Hid (s1.rows a0 es = sK.rows aK (es.drop j)) ∧ aK + wtL (es.drop j) = a0 + wtL es ∧ Hid (Keeps [F, B, W] w4 wr)) (fun _ i _ => m - (intOf i).toNat)
  case atStart => exact ⟨0, a0, s1, Nat.zero_le _, rfl, rfl, HF4, Lib.hid (by rw [List.drop_zero]), by rw [List.drop_zero], Lib.hid (Keeps.refl _ _)⟩
  case round =>
    obtain ⟨j, aK, sK, hj, rfl, rfl, HFK, HRK, haK, HKK⟩ := hrel
    by_cases hlt : j < m
    · obtain ⟨⟨kb, vb⟩, he⟩ : ∃ e, es[j]? = some e := ⟨_, List.getElem?_eq_getElem (by rw [← HLM.out]; exact hlt)⟩
      have hoke := HOK.out _ (List.mem_of_getElem? he)
      have hdrop : es.drop j = (kb, vb) :: es.drop (j + 1) := by
        have hj' : j < es.length := by rw [← HLM.out]; exact hlt
        rw [List.getElem?_eq_getElem hj'] at he
        rw [List.drop_eq_getElem_cons hj', Option.some.inj he]
      rw [hdrop, wtL_cons] at haK
      have hR := HRK.out
      rw [hdrop] at hR
      rw [rows_cons] at hR
      obtain ⟨g', kv, vv, rfl, hg1, hg2, c0, c1, b0, b1⟩ := HE4.out.at j _ he
      have c0 := HKK.out.cell c0 (by simp; omega)
      have c1 := HKK.out.cell c1 (by simp; omega)
      have b0 := b0.keeps HKK.out (fun x hx => by simp at hx; omega)
      have b1 := b1.keeps HKK.out (fun x hx => by simp at hx; omega)
      obtain ⟨ka, kc, rfl, hkc⟩ := b0.shape
      obtain ⟨va, vc, rfl, hvc⟩ := b1.shape
      dsimp only at hkc hvc c0 c1 b0 b1
      have hk1 := hoke.k1
      have hk16 := hoke.k16
      have hv64 := hoke.v64
      dsimp only at hk1 hk16 hv64
      obtain ⟨s', r, hsw⟩ : ∃ s' r, sK.write (aK : Int) (payE (kb, vb)) = (s', r) := ⟨_, _, rfl⟩
      rw [hsw] at hR
      simp only at hR
      have HWR := Lib.hid (fun U pv Mp (hU : FlashAt U F B W M sK) (hr : Reads U pv (payE (kb, vb)) Mp) => Write_any U hU (aK : Int) pv (payE (kb, vb)) Mp hr (by have := payE_le hoke; omega))
      rw [hsw] at HWR
      have HR := Lib.hid hR
      have HWT := Lib.hid (weightL_ok hoke)
      have B0 := Lib.hid b0
      have B1 := Lib.hid b1
      have nK := HKK.out.size
      have hgr : g' < wr.heap.size := by omega
      have d1 : decide ((m : Int) ≤ (j : Int)) = false := by simp; omega
      have d2 : decide (m ≤ j) = false := by simp; omega
      have d0 : (j : Int) < (m : Int) := by omega
      have hz1 := wE_le hoke
      obtain ⟨z, hz⟩ : ∃ z, z = wE (kb, vb) := ⟨_, rfl⟩
      rw [← hz] at haK HR HWT hz1
      obtain ⟨aN, haN⟩ : ∃ aN, aN = aK + z := ⟨_, rfl⟩
      rw [← haN] at HR
      have haN' : (aK : Int) + (z : Int) = (aN : Int) := by omega
      have haB : aN < 200000 := by omega
      have HLT := Lib.hid hlt
      have HAK := Lib.hid (show aN + wtL (es.drop (j + 1)) = a0 + wtL es by omega)
      clear he hoke hdrop hR HRK b0 b1 hsw hz haN haK
      go_upto_region 11 with (fail)
      generalize hU : World.alloc wr _ = U
      have kU : Keeps [] wr U := by rw [← hU]; exact Keeps.alloc [] _ _
      have wX : Whole U wr.heap.size 51 [.slice ka kb.length kc, .slice va vb.length vc] := by rw [← hU]; exact Whole.new wr 51 [_, _]
      have x0 := (wX.cell 0).trans (show _ = some (Value.slice ka kb.length kc) from rfl)
      have x1 := (wX.cell 1).trans (show _ = some (Value.slice va vb.length vc) from rfl)
      have WX := Lib.hid wX
      have nX := wX.lt
      have KU := Lib.hid (HKK.out.trans (kU.mono (by simp)))
      have B0U := Lib.hid (B0.out.keeps kU (by simp))
      have B1U := Lib.hid (B1.out.keeps kU (by simp))
      have HFU := Lib.hid (HFK.out.keeps kU (by simp) (by simp) (by simp) (by simp))
      have HPL : Hid (Calls Tryz.prog 29 #[.int .u8 1, .slice ka kb.length kc, .slice va vb.length vc] U fun e w' => ∃ u, e = .returned u ∧ w'.ownsRow U.heap.size 5 1 u (2 + kb.length + vb.length) ((payE (kb, vb)).map bv) ∧ Keeps [] U w') := Lib.hid (payload_any U 1 _ _ kb vb base base B0U.out B1U.out (by omega) (by omega) (by omega))
      clear hU kU wX B0 B1 HFK HKK c0 c1
      generalize wr.heap.size = X at *
      by_cases hr0 : r = 0
      · subst hr0
        go_upto_region 14 with (first
          | (go_at_call 29; refine HPL.out.mono ?_; rintro e w6 ⟨u, rfl, ho, k6⟩; have HO := Lib.hid ho; have K6 := Lib.hid (KU.out.trans (k6.mono (by simp))); have HF6 := Lib.hid (HFU.out.keeps k6 (by simp) (by simp) (by simp) (by simp)); have WX6 := Lib.hid (WX.out.keeps k6 (by simp)); have B06 := Lib.hid (B0U.out.keeps k6 (by simp)); have B16 := Lib.hid (B1U.out.keeps k6 (by simp)); have n6 := k6.size; clear k6 ho)
          | (go_at_call 47; obtain ⟨Mp, hMp, hMp2⟩ := BytesAt.owns HO.out (by omega); refine (HWR.out _ _ Mp HF6.out hMp).mono ?_; rintro e w7 ⟨rfl, hf7, k7⟩; have HF7 := Lib.hid hf7; have K7 := Lib.hid (K6.out.trans (k7.mono (by simp))); have WX7 := Lib.hid (WX6.out.keeps k7 (by simp; omega)); have B07 := Lib.hid (B06.out.keeps k7 (fun x hx => by simp at hx; omega)); have B17 := Lib.hid (B16.out.keeps k7 (fun x hx => by simp at hx; omega)); have n7 := k7.size; clear k7 hf7 hMp hMp2))
        have y0 := (WX7.out.cell 0).trans (show _ = some (Value.slice ka kb.length kc) from rfl)
        have y1 := (WX7.out.cell 1).trans (show _ = some (Value.slice va vb.length vc) from rfl)
        have HWE := Weight_any w7 _ _ kb vb base base B07.out B17.out (by omega)
        rw [HWT.out] at HWE
        have HWE := Lib.hid HWE
        go_wp2_with (go_at_call 11; refine HWE.out.mono ?_; rintro e w8 ⟨rfl, k8⟩; have K8 := Lib.hid (K7.out.trans (k8.mono (by simp))); have HF8 := Lib.hid (HF7.out.keeps k8 (by simp) (by simp) (by simp) (by simp)); clear k8)
        go_roundw
        case rel =>
          refine ⟨j + 1, aN, s', by have := HLT.out; omega, by go_num, rfl, HF8, Lib.hid ?_, HAK.out, K8⟩
          have := HR.out
          rw [if_neg (by simp)] at this
          exact this
        case measure => have := HLT.out; simp [intOf]; omega
      · go_wp2_with (first
          | (go_at_call 29; refine HPL.out.mono ?_; rintro e w6 ⟨u, rfl, ho, k6⟩; have HO := Lib.hid ho; have K6 := Lib.hid (KU.out.trans (k6.mono (by simp))); have HF6 := Lib.hid (HFU.out.keeps k6 (by simp) (by simp) (by simp) (by simp)); have n6 := k6.size; clear k6 ho)
          | (go_at_call 47; obtain ⟨Mp, hMp, hMp2⟩ := BytesAt.owns HO.out (by omega); refine (HWR.out _ _ Mp HF6.out hMp).mono ?_; rintro e w7 ⟨rfl, hf7, k7⟩; have HF7 := Lib.hid hf7; have K7 := Lib.hid (K6.out.trans (k7.mono (by simp))); clear k7 hf7 hMp hMp2))
        go_ret
        have hrr := HR.out
        rw [if_pos hr0] at hrr
        have hTT := HT.out
        rw [hrr, if_pos hr0] at hTT
        cases hTT
        exact ⟨rfl, HF7.out, K4.out.trans K7.out⟩
    · obtain rfl : j = m := by omega
      have hD : es.drop j = [] := by rw [List.drop_eq_nil_iff, HLM.out]; exact Nat.le_refl _
      have hrr := HRK.out
      rw [hD] at hrr
      rw [rows_nil] at hrr
      have hTT := HT.out
      rw [hrr, if_neg (by simp)] at hTT
      have HOP := Open_any wr HFK.out (p : Int) (by omega) y
      rw [uv, ← HYZ.out] at HOP
      have wL := W4.out.keeps HKK.out (by simp; omega)
      have v4 := (wL.cell 3).trans (show _ = some (Value.int .u32 xz) from rfl)
      rw [hTT] at HOP
      have HOP := Lib.hid HOP
      clear wL hD hrr hTT
      go_wp2_with (go_at_call 22; refine HOP.out.mono ?_; rintro e w9 ⟨rfl, hf9, k9⟩)
      go_ret
      exact ⟨rfl, hf9, (K4.out.trans HKK.out).trans (k9.mono (by simp))⟩
set_option maxRecDepth 100000 in
set_option maxHeartbeats 2000000 in
theorem turn_torn {F B W M : Nat} {s : FS} (w : World) (hF : FlashAt w F B W M s) (first n k p Bm base g cp : Nat) (kz ez : Int) (x : BitVec 32) (es : List Ent)
    (hh : HdrsAt w (.slice (some ⟨g, 0, none⟩) n cp) (lookL s.bs first n)) (hb : F < base ∧ B < base ∧ W < base ∧ base ≤ w.heap.size ∧ Bm ≠ F ∧ Bm ≠ B ∧ Bm ≠ W) (hn : n ≤ 256) (hp : p < 256)
    (hpick : s.pick k (lookL s.bs first n) = some (hdrAt s.bs p)) (hw : ∀ x ∈ s.wear, 0 ≤ x ∧ x < 9223372036854775807) (s1 : FS) (e1 : Int) (he1 : e1 ≠ 0) (hcl : s.clear p = (s1, e1)) (h0 : 0 < s.wear.length) :
    Calls Tryz.prog 80 #[.agg #[.slice (some ⟨g, 0, none⟩) n cp, .int .i64 k, .int .u8 kz, .int .u32 (x.toNat : Int), .int .i64 ez, .map (some Bm)], .pointer (some ⟨F, 0, none⟩)] w fun e w' =>
      e = .returned (.int .i64 (s.turn first n k (x + 1#32) es).2) ∧ FlashAt w' F B W M (s.turn first n k (x + 1#32) es).1 ∧ Keeps [F, B, W] w w' := by
  have hturn : s.turn first n k (x + 1#32) es = (s1, e1) := by
    unfold FS.turn
    rw [hpick]
    simp only [Option.getD_some]
    rw [show (hdrAt s.bs p).sector = (p : Int) from rfl]
    rw [hcl, if_pos he1]
  rw [hturn]
  obtain ⟨bF, bB, bW, bw, mF, mB, mW⟩ := hb
  have hPK := fun U (hU : Keeps [] w U) => Pick_any U (hF.keeps hU (by simp) (by simp) (by simp) (by simp)) h0 _ _ (hh.keeps hU (by simp)) (by rw [lookL_length]; omega) k
  rw [hpick] at hPK
  simp only [Option.getD_some, Option.isSome_some, show (hdrAt s.bs p).sector = (p : Int) from rfl] at hPK
  have hCL := fun U (hU : Keeps [] w U) => Clear_any U (hF.keeps hU (by simp) (by simp) (by simp) (by simp)) p (by omega) hw
  rw [hcl] at hCL
  have HPK := Lib.hid hPK
  have HCL := Lib.hid hCL
  clear hPK hCL hF hh hcl hturn hpick
  generalize (x.toNat : Int) = xz at *
  go_enter Tryz.func80, Tryz.ntmps80
  go_upto_region 1 with (fail)
  generalize hV : World.alloc w _ = V
  have kV : Keeps [] w V := by rw [← hV]; exact Keeps.alloc [] _ _
  have wV : Whole V w.heap.size 75 [.slice (some ⟨g, 0, none⟩) n cp, .int .i64 k, .int .u8 kz, .int .u32 xz, .int .i64 ez, .map (some Bm)] := by rw [← hV]; exact Whole.new w 75 [_, _, _, _, _, _]
  have v0 := (wV.cell 0).trans (show _ = some (Value.slice (some ⟨g, 0, none⟩) n cp) from rfl)
  have v1 := (wV.cell 1).trans (show _ = some (Value.int .i64 (k : Int)) from rfl)
  have KV := Lib.hid kV
  have WV := Lib.hid wV
  have sV := wV.lt
  clear hV kV wV
  go_upto_region 2 with (go_at_call 103; refine (HPK.out _ KV.out).mono ?_; rintro e w1 ⟨rfl, k1⟩; have K1 := Lib.hid (KV.out.trans k1); have W1 := Lib.hid (WV.out.keeps k1 (by simp)); have n1 := k1.size; clear k1)
  go_wp2_with (go_at_call 21; refine (HCL.out _ K1.out).mono ?_; rintro e w2 ⟨rfl, hf2, k2⟩; have HF2 := Lib.hid hf2; have K2 := Lib.hid ((K1.out.mono (by simp)).trans k2); clear k2 hf2)
  go_ret
  exact ⟨rfl, HF2.out, K2.out⟩

theorem turn_any {F B W M N first n k i t : Nat} {es0 : List Ent} {s : FS} (w : World) (hF : FlashAt w F B W M s) (hc : Cfg N first n k i t es0 s) (Bm base g cp : Nat) (kz ez : Int) (x : BitVec 32) (es : List Ent)
    (hh : HdrsAt w (.slice (some ⟨g, 0, none⟩) n cp) (lookL s.bs first n)) (hm : MapAt base w Bm es) (hok : ∀ e ∈ es, OkE e) (hwt : wtL es ≤ 236) (hb : F < base ∧ B < base ∧ W < base ∧ base ≤ w.heap.size ∧ Bm ≠ F ∧ Bm ≠ B ∧ Bm ≠ W) (hN : N ≤ 256) (ht : t < 1000000) :
    Calls Tryz.prog 80 #[.agg #[.slice (some ⟨g, 0, none⟩) n cp, .int .i64 k, .int .u8 kz, .int .u32 (x.toNat : Int), .int .i64 ez, .map (some Bm)], .pointer (some ⟨F, 0, none⟩)] w fun e w' =>
      e = .returned (.int .i64 (s.turn first n k (x + 1#32) es).2) ∧ FlashAt w' F B W M (s.turn first n k (x + 1#32) es).1 ∧ Keeps [F, B, W] w w' := by
  have hfit := hc.fit
  have hn3 := hc.n3
  have hwl := hc.wl
  obtain ⟨p, p1, p2, p3, hpick, _⟩ := pick_turn s first n k (by omega)
  obtain ⟨s1, e1, hcl, went, _⟩ := clear_arm p (by omega) hc.down hc.left
  have hw : ∀ x ∈ s.wear, 0 ≤ x ∧ x < 9223372036854775807 := fun x hx => by have := hc.wears x hx; omega
  rcases went.err with rfl | rfl
  · exact turn_clean w hF first n k p Bm base g cp kz ez x es hh hm hok hwt hb (by omega) (by omega) hpick hw s1 hcl (by omega)
  · exact turn_torn w hF first n k p Bm base g cp kz ez x es hh hb (by omega) (by omega) hpick hw s1 12 (by decide) hcl (by omega)
end Go.Proofs.YtlnmbfddhdjioaaGreat

namespace Go.Proofs.YtlnmbfddhdjioaaGreat
open Go.RowKit

def FS.change (s : FS) (first n k : Nat) (x : BitVec 32) (p : List UInt8) (es : List Ent) : FS × Int :=
  if 236 < wtL es then (s, 5)
  else if 256 < endK (sec s.bs k) + sizeN p.length then s.turn first n k (x + 1#32) es
  else s.write ((k * 256 + endK (sec s.bs k) : Nat) : Int) p

theorem DropFn.keeps0 {b : Nat} {w w' : World} {f : Value} {B : Nat} {k : List UInt8} (h : DropFn b w f B k) (hk : Keeps [] w w') : DropFn b w' f B k := by
  obtain ⟨bm, bk, kv, e, h1, h2, ⟨M, h3, h4⟩, h5⟩ := h.ex
  exact ⟨bm, bk, kv, e, h1.keeps hk (by simp), h2.keeps hk (by simp), ⟨M, h3.keeps hk (by simp), h4⟩, h5⟩
theorem BecFn.keeps0 {b : Nat} {w w' : World} {f : Value} {B : Nat} {g : List Ent → List Ent} (h : BecFn b w f B g) (hk : Keeps [] w w') : BecFn b w' f B g := by
  rcases h with ⟨k, v, h1, h2⟩ | ⟨k, h1, h2⟩ | h
  · exact .inl ⟨k, v, h1.keeps hk (by simp), h2⟩
  · exact .inr (.inl ⟨k, h1.keeps0 hk, h2⟩)
  · exact .inr (.inr h)

set_option maxRecDepth 100000 in
set_option maxHeartbeats 2000000 in
theorem change_any {F B W M N first n k i t : Nat} {es0 : List Ent} {s : FS} (w : World) (hF : FlashAt w F B W M s) (hc : Cfg N first n k i t es0 s) (Bm g cp : Nat) (kz : Int) (x : BitVec 32) (gf : List Ent → List Ent) (f pv : Value) (p : List UInt8)
    (hh : HdrsAt w (.slice (some ⟨g, 0, none⟩) n cp) (lookL s.bs first n)) (hm : MapAt (Bm + 1) w Bm es0) (hf : BecFn (Bm + 1) w f Bm gf) (hp : BytesAt (Bm + 1) w pv p) (hpl : p.length ≤ 200) (hg : Good (gf es0)) (hgl : wtL (gf es0) ≤ 1000)
    (hb : F < Bm ∧ B < Bm ∧ W < Bm ∧ g ≠ Bm ∧ M ≠ Bm) (hN : N ≤ 256) (ht : t < 1000000) :
    Calls Tryz.prog 50 #[.agg #[.slice (some ⟨g, 0, none⟩) n cp, .int .i64 k, .int .u8 kz, .int .u32 (x.toNat : Int), .int .i64 (endK (sec s.bs k)), .map (some Bm)], .pointer (some ⟨F, 0, none⟩), pv, f] w fun e w' =>
      e = .returned (.int .i64 (s.change first n k x p (gf es0)).2) ∧ FlashAt w' F B W M (s.change first n k x p (gf es0)).1 ∧ Keeps [F, B, W, Bm] w w' := by
  obtain ⟨V, hV⟩ : ∃ V, w.alloc (.cells #[.slice (some ⟨g, 0, none⟩) n cp, .int .i64 k, .int .u8 kz, .int .u32 (x.toNat : Int), .int .i64 (endK (sec s.bs k)), .map (some Bm)] 75) = V := ⟨_, rfl⟩
  have kV : Keeps [] w V := by rw [← hV]; exact Keeps.alloc [] _ _
  have wV : Whole V w.heap.size 75 [.slice (some ⟨g, 0, none⟩) n cp, .int .i64 k, .int .u8 kz, .int .u32 (x.toNat : Int), .int .i64 (endK (sec s.bs k)), .map (some Bm)] := by rw [← hV]; exact Whole.new w 75 [_, _, _, _, _, _]
  obtain ⟨gf', caps, rfl, hgf, hrun⟩ := (hf.keeps0 kV).run (hm.keeps kV (by simp) (by simp)) (by omega) (by have := hc.room.1; have := wtL_length es0; omega)
  have hBs := hm.lt
  have HR := Lib.hid hrun
  have KV := Lib.hid kV
  have WV := Lib.hid wV
  have HC := Lib.hid hc
  have HG := Lib.hid hg
  have hr := hc.room
  obtain ⟨E, hE⟩ : ∃ E, E = endK (sec s.bs k) := ⟨_, rfl⟩
  have HFV := Lib.hid (hF.keeps kV (by simp) (by simp) (by simp) (by simp))
  have HHV := Lib.hid (hh.keeps kV (by simp))
  have HPV := Lib.hid (hp.keeps kV (by simp))
  obtain ⟨es, hes⟩ : ∃ es, es = gf es0 := ⟨_, rfl⟩
  obtain ⟨sT, eT, hT⟩ : ∃ sT eT, s.change first n k x p es = (sT, eT) := ⟨_, _, rfl⟩
  rw [← hes] at hgl HR HG ⊢
  rw [hT]
  unfold FS.change at hT
  rw [← hE] at hT hr WV hV ⊢
  have HT := Lib.hid hT
  obtain ⟨pa, pc, rfl, hpc⟩ := hp.shape
  obtain ⟨pn, hpn⟩ : ∃ pn, pn = p.length := ⟨_, rfl⟩
  have HPN := Lib.hid hpn
  rw [← hpn] at hpl HPV ⊢
  have hk256 : k < 256 := by have := hc.top.2.1; have := hc.fit; omega
  clear hF hc hh hm hf hp hg hrun kV wV hT hes hpn hE hpc
  go_enter Tryz.func50, Tryz.ntmps50
  go_upto_region 1 with (fail)
  try rw [hV]
  have sV := WV.out.lt
  have nV := KV.out.size
  clear hV
  rcases hgf with rfl | rfl | rfl
  all_goals
   go_upto_region 2 with ((first | go_at_call 83 | go_at_call 81 | go_at_call 105); refine HR.out.mono ?_; rintro e w1 ⟨rfl, hm1, k1⟩; have HM1 := Lib.hid hm1; have K1 := Lib.hid ((KV.out.mono (by simp)).trans (k1.mono (T := [F, B, W, Bm]) (by simp))); have W1 := Lib.hid (WV.out.keeps k1 (by simp; omega)); have HF1 := Lib.hid (HFV.out.keeps k1 (by simp; omega) (by simp; omega) (by simp; omega) (by simp; omega)); have HH1 := Lib.hid (HHV.out.keepsBut k1 (fun g' hg' => by cases hg'; simp; omega)); have HP1 := Lib.hid (HPV.out.keeps k1 (fun x hx => by simp at hx; omega)); have n1 := k1.size; clear k1 hm1)
   have hW := weights_any w1 Bm (Bm + 1) es HM1.out HG.out.ok (by omega) (by omega)
   have HW := Lib.hid hW
   clear hW
   have v5 := (W1.out.cell 5).trans (show _ = some (Value.map (some Bm)) from rfl)
   by_cases h236 : 236 < wtL es
   · have d1 : (236 : Int) < (wtL es : Int) := by omega
     have hTT := HT.out
     rw [if_pos h236] at hTT
     cases hTT
     generalize wtL es = wt at *
     go_wp2_with (first
       | (go_at_call 79; refine HW.out.mono ?_; rintro e w2 ⟨rfl, k2⟩; have K2 := Lib.hid (K1.out.trans (k2.mono (by simp))); have HF2 := Lib.hid (HF1.out.keeps k2 (by simp) (by simp) (by simp) (by simp)); clear k2)
       | (go_at_call 33; refine (Room_any _).mono ?_; rintro e w3 ⟨rfl, k3⟩; have K3 := Lib.hid (K2.out.trans (k3.mono (by simp))); have HF3 := Lib.hid (HF2.out.keeps k3 (by simp) (by simp) (by simp) (by simp)); clear k3))
     go_ret
     exact ⟨rfl, HF3.out, K3.out⟩
   · have d1 : (wtL es : Int) ≤ (236 : Int) := by omega
     have d2 : ¬ (236 : Int) < (wtL es : Int) := by omega
     have hTT := HT.out
     rw [if_neg h236, ← HPN.out] at hTT
     have hz := wtL_length es
     have hZ : sizeN pn ≤ 300 := by unfold sizeN fillN; omega
     have HSZ := Lib.hid (fun U => Size_ok U pn (by omega))
     obtain ⟨wt, hwt⟩ : ∃ wt, wt = wtL es := ⟨_, rfl⟩
     have HWT := Lib.hid (show wtL es ≤ 236 by omega)
     rw [← hwt] at HW d1 d2
     obtain ⟨z, hzz⟩ : ∃ z, z = sizeN pn := ⟨_, rfl⟩
     rw [← hzz] at HSZ hTT hZ
     obtain ⟨EZ, hEZ⟩ : ∃ EZ, EZ = E + z := ⟨_, rfl⟩
     have HEZ := Lib.hid hEZ
     have hez : (E : Int) + (z : Int) = (EZ : Int) := by omega
     have hezb : EZ < 1000 := by omega
     have hezw : IntKind.i64.wrap (EZ : Int) = (EZ : Int) := IntWalk.i64_in _ (by omega)
     rw [← hEZ] at hTT
     have HTT := Lib.hid hTT
     clear hTT h236 hgl hz hwt hzz hEZ
     go_upto_region 4 with (first
       | (go_at_call 79; refine HW.out.mono ?_; rintro e w2 ⟨rfl, k2⟩; have K2 := Lib.hid (K1.out.trans (k2.mono (by simp))); have W2 := Lib.hid (W1.out.keeps k2 (by simp)); have HF2 := Lib.hid (HF1.out.keeps k2 (by simp) (by simp) (by simp) (by simp)); have HH2 := Lib.hid (HH1.out.keeps k2 (by simp)); have HP2 := Lib.hid (HP1.out.keeps k2 (by simp)); have HM2 := Lib.hid (HM1.out.keeps k2 (by simp) (by simp)); have n2 := k2.size; clear k2)
       | (go_at_call 33; refine (Room_any _).mono ?_; rintro e w3 ⟨rfl, k3⟩; have K3 := Lib.hid (K2.out.trans (k3.mono (by simp))); have W3 := Lib.hid (W2.out.keeps k3 (by simp)); have HF3 := Lib.hid (HF2.out.keeps k3 (by simp) (by simp) (by simp) (by simp)); have HH3 := Lib.hid (HH2.out.keeps k3 (by simp)); have HP3 := Lib.hid (HP2.out.keeps k3 (by simp)); have HM3 := Lib.hid (HM2.out.keeps k3 (by simp) (by simp)); have n3 := k3.size; clear k3))
     have c4 := (W3.out.cell 4).trans (show _ = some (Value.int .i64 (E : Int)) from rfl)
     have kD : Keeps [] w3 w3.drew := Keeps.drew [] w3
     have c4D := kD.cell c4 (by simp)
     have W4 := Lib.hid (W3.out.keeps kD (by simp))
     have HF4 := Lib.hid (HF3.out.keeps kD (by simp) (by simp) (by simp) (by simp))
     have HH4 := Lib.hid (HH3.out.keeps kD (by simp))
     have HP4 := Lib.hid (HP3.out.keeps kD (by simp))
     have HM4 := Lib.hid (HM3.out.keeps kD (by simp) (by simp))
     have K4 := Lib.hid (K3.out.trans (kD.mono (by simp)))
     have n4 := kD.size
     clear kD
     by_cases h256 : 256 < EZ
     · have e1 : (256 : Int) < (EZ : Int) := by omega
       have hTT := HTT.out
       rw [if_pos h256] at hTT
       have hTN := turn_any w3.drew HF4.out HC.out Bm (Bm + 1) g cp kz E x es HH4.out HM4.out HG.out.ok HWT.out ⟨by omega, by omega, by omega, by omega, by omega, by omega, by omega⟩ hN ht
       rw [hTT] at hTN
       have HTN := Lib.hid hTN
       clear hTN hTT
       have e3 : decide ((256 : Int) < (EZ : Int)) = true := by simpa using e1
       have e4 : decide (256 < EZ) = true := by simpa using h256
       generalize (x.toNat : Int) = xz at *
       go_region_held3 (fun w' => w'.cell? ⟨w.heap.size, 4, none⟩ = some (.int .i64 (E : Int))) (first | exact c4D | assumption) (first | (go_at_call 28; refine (HSZ.out _).mono ?_; rintro e w' ⟨rfl, rfl⟩))
       obtain ⟨D, hD⟩ : ∃ D, D = w3.drew := ⟨_, rfl⟩
       rw [← hD] at W4 HTN K4 ⊢
       clear hD
       have v4 := (W4.out.cell 4).trans (show _ = some (Value.int .i64 (E : Int)) from rfl)
       have v1 := (W4.out.cell 1).trans (show _ = some (Value.int .i64 (k : Int)) from rfl)
       have v0 := (W4.out.cell 0).trans (show _ = some (Value.slice (some ⟨g, 0, none⟩) n cp) from rfl)
       have v2 := (W4.out.cell 2).trans (show _ = some (Value.int .u8 kz) from rfl)
       have v3 := (W4.out.cell 3).trans (show _ = some (Value.int .u32 xz) from rfl)
       have v5' := (W4.out.cell 5).trans (show _ = some (Value.map (some Bm)) from rfl)
       go_wp2_with (go_at_call 80; refine HTN.out.mono ?_; rintro e w5 ⟨rfl, hf5, k5⟩; have HF5 := Lib.hid hf5; have K5 := Lib.hid (K4.out.trans (k5.mono (T := [F, B, W, Bm]) (by simp))); clear hf5 k5)
       go_ret
       exact ⟨rfl, HF5.out, K5.out⟩
     · have e1 : (EZ : Int) ≤ (256 : Int) := by omega
       have e2 : ¬ (256 : Int) < (EZ : Int) := by omega
       have hTT := HTT.out
       rw [if_neg h256] at hTT
       obtain ⟨q, hq⟩ : ∃ q, q = k * 256 := ⟨_, rfl⟩
       rw [← hq] at hTT
       obtain ⟨A, hA⟩ : ∃ A, A = q + E := ⟨_, rfl⟩
       have hAm : (k : Int) * 256 + (E : Int) = (A : Int) := by omega
       have hqb : q < 100000 := by omega
       have hAb : A < 101000 := by omega
       rw [← hA] at hTT
       obtain ⟨Mp, hMp, _⟩ := HP4.out
       have hWR := Write_any w3.drew HF4.out (A : Int) _ p Mp hMp (by rw [← HPN.out]; omega)
       rw [hTT] at hWR
       have HWR := Lib.hid hWR
       clear hWR hTT hq hA hMp
       have e3 : decide ((256 : Int) < (EZ : Int)) = false := by simpa using e1
       have e4 : decide (256 < EZ) = false := by simpa using h256
       go_region_held3 (fun w' => w'.cell? ⟨w.heap.size, 4, none⟩ = some (.int .i64 (E : Int))) (first | exact c4D | assumption) (first | (go_at_call 28; refine (HSZ.out _).mono ?_; rintro e w' ⟨rfl, rfl⟩))
       obtain ⟨D, hD⟩ : ∃ D, D = w3.drew := ⟨_, rfl⟩
       rw [← hD] at W4 HWR K4 ⊢
       clear hD
       have v4 := (W4.out.cell 4).trans (show _ = some (Value.int .i64 (E : Int)) from rfl)
       have v1 := (W4.out.cell 1).trans (show _ = some (Value.int .i64 (k : Int)) from rfl)
       go_wp2_with (go_at_call 47; (try rw [hAm]); refine HWR.out.mono ?_; rintro e w5 ⟨rfl, hf5, k5⟩; have HF5 := Lib.hid hf5; have K5 := Lib.hid (K4.out.trans (k5.mono (T := [F, B, W, Bm]) (by simp))); clear hf5 k5)
       go_ret
       exact ⟨rfl, HF5.out, K5.out⟩
end Go.Proofs.YtlnmbfddhdjioaaGreat
