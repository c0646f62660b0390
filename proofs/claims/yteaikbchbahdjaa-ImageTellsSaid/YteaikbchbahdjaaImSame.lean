/-
  Words as bytes: the law's own functions: words that are the same, lists of words that are, lists that are right.
-/
import Derived.Test.YteaikbchbahdjaaImEnc
import Derived.Deep.RegionWith
import Derived.Deep.RegionHeld3
namespace Go.Proofs.Yteaikbchbahdjaa
open Go.RowKit Go.Deep
set_option linter.unusedVariables false

theorem str_ne (a b : List UInt8) : ((ByteArray.mk a.toArray).toList == (ByteArray.mk b.toArray).toList) = (a == b) := by
  rw [ByteArray.toList_mk, ByteArray.toList_mk]

theorem sameB_name {x y : Wd} (h : (x.name == y.name) = false) : sameB x y = false := by unfold sameB; rw [h]; rfl
theorem sameB_flags {x y : Wd} (h : x.flags ≠ y.flags) : sameB x y = false := by
  rw [Bool.eq_false_iff]; intro e; exact h (congrArg Wd.flags ((same_iff x y).1 e))
theorem sameB_code {x y : Wd} (h : x.code ≠ y.code) : sameB x y = false := by
  rw [Bool.eq_false_iff]; intro e; exact h (congrArg Wd.code ((same_iff x y).1 e))
theorem sameB_all {x y : Wd} (h1 : (x.name == y.name) = true) (h2 : x.flags = y.flags) (h3 : x.code = y.code) : sameB x y = true := by
  unfold sameB; rw [h1, h2, h3]; simp

set_option maxRecDepth 100000 in
set_option maxHeartbeats 2000000 in
theorem Same_any (w : World) (x y : Wd) (ax : Option Addr) (cx Mx ox : Nat) (ay : Option Addr) (cy My oy : Nat) (hx : UReads w (.slice ax x.code.length cx) x.code Mx ox) (hy : UReads w (.slice ay y.code.length cy) y.code My oy) (hm : x.code.length ≤ maxLen) (r : Bool) (hr : sameB x y = r) :
    Calls Try.prog 23 #[wvl x ax cx, wvl y ay cy] w fun e w' => e = .returned (.bool r) ∧ Keeps [] w w' := by
  have HR := Lib.hid hr
  clear hr
  have hne := str_ne x.name y.name
  have HN := Lib.hid fun h => sameB_name (x := x) (y := y) h
  have HF := Lib.hid fun h => sameB_flags (x := x) (y := y) h
  have HC := Lib.hid fun h => sameB_code (x := x) (y := y) h
  have HA := Lib.hid fun h1 h2 h3 => sameB_all (x := x) (y := y) h1 h2 h3
  have HU := Lib.hid hx
  have HV := Lib.hid hy
  have hfe : x.flags = y.flags ↔ (x.flags.toNat : Int) = (y.flags.toNat : Int) := by rw [← UInt8.toNat_inj]; omega
  have HFE := Lib.hid hfe
  unfold maxLen at hm
  clear hx hy hfe
  unfold wvl str bv at *
  generalize ByteArray.mk x.name.toArray = s at *
  generalize ByteArray.mk y.name.toArray = t at *
  generalize (x.flags.toNat : Int) = f at *
  generalize (y.flags.toNat : Int) = g at *
  generalize hn : x.code.length = n at *
  generalize hn2 : y.code.length = m at *
  have HL := Lib.hid hn
  have HM := Lib.hid hn2
  clear hn hn2
  cases hq : (x.name == y.name) with
  | false =>
    rw [hq] at hne
    have HQ := Lib.hid (HN.out hq)
    have hne2 : (s.toList == t.toList) = false := hne
    clear hq hne
    go_enter Try.func23, Try.ntmps23
    go_wp2
    go_ret
    exact ⟨by rw [← HR.out, HQ.out]; rfl, (Keeps.alloc [] _ _).trans (Keeps.alloc [] _ _)⟩
  | true =>
  rw [hq] at hne
  have HQ := Lib.hid hq
  have hne2 : (s.toList == t.toList) = true := hne
  clear hq hne
  by_cases hfg : ¬ f = g
  · have hf1 : (f != g) = true := by simpa using hfg
    have HQ2 := Lib.hid (HF.out (fun e => hfg (HFE.out.1 e)))
    clear hfg
    go_enter Try.func23, Try.ntmps23
    go_wp2
    go_ret
    exact ⟨by rw [← HR.out, HQ2.out]; rfl, (Keeps.alloc [] _ _).trans (Keeps.alloc [] _ _)⟩
  have hfg : f = g := Classical.not_not.1 hfg
  have HFG := Lib.hid (HFE.out.2 hfg)
  subst hfg
  by_cases hnm : ¬ n = m
  · have hn1 : ((n : Int) != (m : Int)) = true := by rw [bne_iff_ne]; omega
    have HQ2 := Lib.hid (HC.out (fun e => hnm (by rw [← HL.out, ← HM.out, e])))
    clear hnm
    go_enter Try.func23, Try.ntmps23
    go_wp2
    go_ret
    exact ⟨by rw [← HR.out, HQ2.out]; rfl, (Keeps.alloc [] _ _).trans (Keeps.alloc [] _ _)⟩
  have hnm : n = m := Classical.not_not.1 hnm
  subst hnm
  go_enter Try.func23, Try.ntmps23
  go_upto_region 1 with fail
  generalize hV : World.alloc (World.alloc w _) _ = V
  have WA := Lib.hid (show Whole V w.heap.size 27 [.string s, .int .u8 f, .slice ax n cx] by rw [← hV]; exact (Whole.new w 27 _).keeps (Keeps.alloc [] _ _) (by simp))
  have WB := Lib.hid (show Whole V (w.heap.size + 1) 27 [.string t, .int .u8 f, .slice ay n cy] by rw [← hV]; exact Whole.new_at (w.alloc _) 27 _ _ (by simp))
  have KV := Lib.hid (show Keeps [] w V by rw [← hV]; exact (Keeps.alloc [] _ _).trans (Keeps.alloc [] _ _))
  have p0 := WA.out.cell 0
  have p1 := WA.out.cell 1
  have p2 := WA.out.cell 2
  have q0 := WB.out.cell 0
  have q1 := WB.out.cell 1
  have q2 := WB.out.cell 2
  simp only [List.getElem?_cons_zero, List.getElem?_cons_succ] at p0 p1 p2 q0 q1 q2
  clear hV
  go_wp2
  go_loopw [5, 30] (fun _ i wr => ∃ k : Nat, k ≤ n ∧ i = .int .i64 k ∧ x.code.take k = y.code.take k ∧ Keeps [] V wr) (fun _ i _ => n - (intOf i).toNat)
  case atStart => exact ⟨0, Nat.zero_le _, rfl, by simp, Keeps.refl _ _⟩
  case round =>
    obtain ⟨k, hk, rfl, he, hkw⟩ := hrel
    have HE := Lib.hid he
    have KJ := Lib.hid (KV.out.trans hkw)
    have KW := Lib.hid hkw
    have p2 := hkw.cell p2 (by simp)
    have q2 := hkw.cell q2 (by simp)
    clear he p0 p1 q0 q1 hkw
    by_cases hlt : k < n
    · have hnx : x.code ≠ [] := by intro e; have := HL.out; rw [e] at this; simp at this; omega
      have hny : y.code ≠ [] := by intro e; have := HM.out; rw [e] at this; simp at this; omega
      obtain ⟨c1, hv1, hk1, hc1⟩ := HU.out.cells hnx
      obtain ⟨c2, hv2, hk2, hc2⟩ := HV.out.cells hny
      injection hv1 with e1 _ _
      injection hv2 with e2 _ _
      subst e1 e2
      obtain ⟨u, hu⟩ : ∃ u, x.code[k]? = some u := ⟨_, List.getElem?_eq_getElem (by have := HL.out; omega)⟩
      obtain ⟨v, hv⟩ : ∃ v, y.code[k]? = some v := ⟨_, List.getElem?_eq_getElem (by have := HM.out; omega)⟩
      have cu := KJ.out.cell (hc1 k u hu) (by simp)
      have cv := KJ.out.cell (hc2 k v hv) (by simp)
      have HT := Lib.hid (show u = v → x.code.take (k + 1) = y.code.take (k + 1) by intro e; rw [List.take_add_one, List.take_add_one, hu, hv, HE.out, e])
      have HD := Lib.hid (show u ≠ v → x.code ≠ y.code by intro h e; rw [e, hv] at hu; injection hu with hu; exact h hu.symm)
      have huv : u = v ↔ (u.toNat : Int) = (v.toNat : Int) := by
        rw [← BitVec.toNat_inj]; omega
      have HUV := Lib.hid huv
      clear hc1 hc2 hu hv hnx hny huv
      unfold uv at cu cv
      generalize (u.toNat : Int) = a at *
      generalize (v.toNat : Int) = b at *
      by_cases hab : a = b
      · have hb1 : (a != b) = false := by simpa using hab
        have HAB := Lib.hid (HT.out (HUV.out.2 hab))
        clear hab
        go_wp2_with (go_quiet (fail))
        go_roundw
        case rel => exact ⟨k + 1, by omega, by go_num, HAB.out, KW.out.trans (Keeps.drewN _ _ _)⟩
        case measure => simp [intOf]; omega
      · have hb1 : (a != b) = true := by simpa using hab
        have HAB := Lib.hid (HC.out (HD.out (fun e => hab (HUV.out.1 e))))
        clear hab
        go_wp2_with (go_quiet (fail))
        go_ret
        exact ⟨by rw [← HR.out, HAB.out]; rfl, KJ.out.trans (Keeps.drewN _ _ _)⟩
    · have hkn : k = n := by omega
      have HZ := Lib.hid (HA.out HQ.out HFG.out (by have := HE.out; rw [List.take_of_length_le (by rw [HL.out]; omega), List.take_of_length_le (by rw [HM.out]; omega)] at this; exact this))
      subst hkn
      go_wp2
      go_ret
      exact ⟨by rw [← HR.out, HZ.out]; rfl, KJ.out⟩

theorem allB_len {l m : List Wd} (h : l.length ≠ m.length) : allB l m = false := by
  rw [Bool.eq_false_iff]; intro e; exact h (congrArg List.length ((all_iff l m).1 e))
theorem allB_at {l m : List Wd} {k : Nat} {x y : Wd} (hx : l[k]? = some x) (hy : m[k]? = some y) (h : sameB x y = false) : allB l m = false := by
  rw [Bool.eq_false_iff]; intro e
  have := (all_iff l m).1 e
  subst this
  rw [hx] at hy
  injection hy with hy
  subst hy
  rw [(same_iff x x).2 rfl] at h
  cases h

set_option maxRecDepth 100000 in
set_option maxHeartbeats 2000000 in
theorem All_any (w : World) (P Q : Nat → Prop) (v u : Value) (l m : List Wd) (hl : WordsIn w P v l) (hm : WordsIn w Q u m) (r : Bool) (hr : allB l m = r) :
    Calls Try.prog 19 #[v, u] w fun e w' => e = .returned (.bool r) ∧ Keeps [] w w' := by
  have HR := Lib.hid hr
  have HLN := Lib.hid fun h => allB_len (l := l) (m := m) h
  have HAL := Lib.hid ((all_iff l m).2)
  obtain ⟨a, cap, B, o, rfl, hcap, hmx, hn, hx⟩ := hl
  obtain ⟨a2, cap2, B2, o2, rfl, hcap2, hmx2, hn2, hx2⟩ := hm
  have HX := Lib.hid hx
  have HX2 := Lib.hid hx2
  have HN := Lib.hid hn
  have HN2 := Lib.hid hn2
  unfold maxLen at hmx
  clear hr hx hx2 hn hn2 hmx2
  obtain ⟨n, hn⟩ : ∃ n, n = l.length := ⟨_, rfl⟩
  obtain ⟨n2, hn2⟩ : ∃ n, n = m.length := ⟨_, rfl⟩
  rw [← hn] at hmx hcap ⊢
  rw [← hn2] at hcap2 ⊢
  have HL := Lib.hid hn
  have HL2 := Lib.hid hn2
  clear hn hn2
  by_cases hnn : ¬ n = n2
  · have hb : ((n : Int) != (n2 : Int)) = true := by rw [bne_iff_ne]; omega
    have HQ := Lib.hid (HLN.out (by rw [← HL.out, ← HL2.out]; exact hnn))
    clear hnn
    go_enter Try.func19, Try.ntmps19
    go_wp2
    go_ret
    exact ⟨by rw [← HR.out, HQ.out]; rfl, Keeps.refl _ _⟩
  have hnn : n = n2 := Classical.not_not.1 hnn
  subst hnn
  go_enter Try.func19, Try.ntmps19
  go_wp2
  go_loopw [5, 13] (fun _ i wr => ∃ k : Nat, k ≤ n ∧ i = .int .i64 k ∧ l.take k = m.take k ∧ Keeps [] w wr) (fun _ i _ => n - (intOf i).toNat)
  case atStart => exact ⟨0, Nat.zero_le _, rfl, by simp, Keeps.refl _ _⟩
  case round =>
    obtain ⟨k, hk, rfl, he, hkw⟩ := hrel
    have HE := Lib.hid he
    have KW := Lib.hid hkw
    clear he hkw
    by_cases hlt : k < n
    · have hnx : l ≠ [] := by intro e; have := HL.out; rw [e] at this; simp at this; omega
      have hny : m ≠ [] := by intro e; have := HL2.out; rw [e] at this; simp at this; omega
      obtain ⟨e1, _⟩ := HN.out hnx
      obtain ⟨e2, _⟩ := HN2.out hny
      subst e1 e2
      obtain ⟨x, hx⟩ : ∃ x, l[k]? = some x := ⟨_, List.getElem?_eq_getElem (by have := HL.out; omega)⟩
      obtain ⟨y, hy⟩ : ∃ x, m[k]? = some x := ⟨_, List.getElem?_eq_getElem (by have := HL2.out; omega)⟩
      obtain ⟨ax, cx, Mx, ox, p0, p1, p2, ux, _, _, hxm⟩ := HX.out k x hx
      obtain ⟨ay, cy, My, oy, q0, q1, q2, uy, _, _, _⟩ := HX2.out k y hy
      have HT := Lib.hid (show x = y → l.take (k + 1) = m.take (k + 1) by intro e; rw [List.take_add_one, List.take_add_one, hx, hy, HE.out, e])
      have HD := Lib.hid fun h => allB_at hx hy h
      have HI := Lib.hid (same_iff x y)
      have HS := Lib.hid fun (W : World) (hk : Keeps [] wr W) => Same_any W x y ax cx Mx ox ay cy My oy (ux.keeps (KW.out.trans hk) (by simp)) (uy.keeps (KW.out.trans hk) (by simp)) hxm _ rfl
      have p0 := KW.out.cell p0 (by simp)
      have p1 := KW.out.cell p1 (by simp)
      have p2 := KW.out.cell p2 (by simp)
      have q0 := KW.out.cell q0 (by simp)
      have q1 := KW.out.cell q1 (by simp)
      have q2 := KW.out.cell q2 (by simp)
      clear hx hy ux uy hnx hny hxm
      unfold wvl str bv at *
      generalize ByteArray.mk x.name.toArray = s at *
      generalize ByteArray.mk y.name.toArray = t at *
      generalize (x.flags.toNat : Int) = f at *
      generalize (y.flags.toNat : Int) = g at *
      generalize x.code.length = c at *
      generalize y.code.length = d at *
      have hki : (k : Int) < (n : Int) := by omega
      have hk0 : (0 : Int) ≤ (k : Int) := by omega
      cases hq : sameB x y with
      | true =>
        rw [hq] at HS
        have HQ := Lib.hid (HT.out (HI.out.1 hq))
        clear hq
        go_wp2
        go_region_held3 (fun W' => Keeps [] wr W' ∧ W'.cell? ⟨B, o + k * 3, none⟩ = some (.string s) ∧ W'.cell? ⟨B, o + k * 3 + 1, none⟩ = some (.int .u8 f) ∧ W'.cell? ⟨B, o + k * 3 + 2, none⟩ = some (.slice ax c cx) ∧ W'.cell? ⟨B2, o2 + k * 3, none⟩ = some (.string t) ∧ W'.cell? ⟨B2, o2 + k * 3 + 1, none⟩ = some (.int .u8 g) ∧ W'.cell? ⟨B2, o2 + k * 3 + 2, none⟩ = some (.slice ay d cy)) (first | exact ⟨Keeps.refl _ _, p0, p1, p2, q0, q1, q2⟩ | exact ⟨Keeps.drew _ _, p0, p1, p2, q0, q1, q2⟩ | assumption | exact ⟨(Keeps.drew _ _).trans hk7, ((Keeps.drew [] _).trans hk7).cell p0 (by simp), ((Keeps.drew [] _).trans hk7).cell p1 (by simp), ((Keeps.drew [] _).trans hk7).cell p2 (by simp), ((Keeps.drew [] _).trans hk7).cell q0 (by simp), ((Keeps.drew [] _).trans hk7).cell q1 (by simp), ((Keeps.drew [] _).trans hk7).cell q2 (by simp)⟩) (first | (go_at_call 23; refine (HS.out _ (by first | exact Keeps.drew _ _ | exact Keeps.refl _ _)).mono ?_; rintro e w7 ⟨rfl, hk7⟩))
        go_wp2
        go_roundw
        case rel => exact ⟨k + 1, by omega, by go_num, HQ.out, KW.out.trans ((Keeps.drew [] _).trans hk7)⟩
        case measure => simp [intOf]; omega
      | false =>
        rw [hq] at HS
        have HQ := Lib.hid (HD.out hq)
        clear hq
        go_wp2
        go_region_held3 (fun W' => Keeps [] wr W' ∧ W'.cell? ⟨B, o + k * 3, none⟩ = some (.string s) ∧ W'.cell? ⟨B, o + k * 3 + 1, none⟩ = some (.int .u8 f) ∧ W'.cell? ⟨B, o + k * 3 + 2, none⟩ = some (.slice ax c cx) ∧ W'.cell? ⟨B2, o2 + k * 3, none⟩ = some (.string t) ∧ W'.cell? ⟨B2, o2 + k * 3 + 1, none⟩ = some (.int .u8 g) ∧ W'.cell? ⟨B2, o2 + k * 3 + 2, none⟩ = some (.slice ay d cy)) (first | exact ⟨Keeps.refl _ _, p0, p1, p2, q0, q1, q2⟩ | exact ⟨Keeps.drew _ _, p0, p1, p2, q0, q1, q2⟩ | assumption | exact ⟨(Keeps.drew _ _).trans hk7, ((Keeps.drew [] _).trans hk7).cell p0 (by simp), ((Keeps.drew [] _).trans hk7).cell p1 (by simp), ((Keeps.drew [] _).trans hk7).cell p2 (by simp), ((Keeps.drew [] _).trans hk7).cell q0 (by simp), ((Keeps.drew [] _).trans hk7).cell q1 (by simp), ((Keeps.drew [] _).trans hk7).cell q2 (by simp)⟩) (first | (go_at_call 23; refine (HS.out _ (by first | exact Keeps.drew _ _ | exact Keeps.refl _ _)).mono ?_; rintro e w7 ⟨rfl, hk7⟩))
        go_wp2
        go_ret
        exact ⟨by rw [← HR.out, HQ.out]; rfl, KW.out.trans ((Keeps.drew [] _).trans hk7)⟩
    · have hkn : k = n := by omega
      have HZ := Lib.hid (HAL.out (by have := HE.out; rw [List.take_of_length_le (by rw [← HL.out]; omega), List.take_of_length_le (by rw [← HL2.out]; omega)] at this; exact this))
      subst hkn
      go_wp2
      go_ret
      exact ⟨by rw [← HR.out, HZ.out]; rfl, KW.out⟩

set_option maxRecDepth 100000 in
set_option maxHeartbeats 1000000 in
theorem right10_any (w : World) (P : Nat → Prop) (v : Value) (l : List Wd) (h : WordsIn w P v l) (r : Bool) (hr : rightL l = r) :
    Calls Try.prog 22 #[v] w fun e w' => e = .returned (.bool r) ∧ Keeps [] w w' := by
  obtain ⟨a, cap, B, o, rfl, hcap, hm, hn, hx⟩ := h
  have HX := Lib.hid hx
  have HN := Lib.hid hn
  have HR := Lib.hid hr
  have HALL := Lib.hid (List.take_length (l := l))
  clear hx hn hr
  obtain ⟨n, hn⟩ : ∃ n, n = l.length := ⟨_, rfl⟩
  rw [← hn] at hm hcap ⊢
  have HL := Lib.hid hn
  clear hn
  unfold maxLen at hm
  go_enter Try.func22, Try.ntmps22
  go_wp2
  go_loopw [4, 7] (fun _ i wr => ∃ k : Nat, k ≤ n ∧ i = .int .i64 k ∧ rightL (l.take k) = true ∧ Keeps [] w wr) (fun _ i _ => n - (intOf i).toNat)
  case atStart => exact ⟨0, Nat.zero_le _, rfl, rfl, Keeps.refl _ _⟩
  case round =>
    obtain ⟨k, hk, rfl, hrt, hkp⟩ := hrel
    have HK := Lib.hid hkp
    have HRT := Lib.hid hrt
    clear hkp hrt
    by_cases hlt : k < n
    · have hne : l ≠ [] := by intro e; have := HL.out; rw [e] at this; simp at this; omega
      obtain ⟨ha, _⟩ := HN.out hne
      subst ha
      obtain ⟨x, hget⟩ : ∃ x, l[k]? = some x := ⟨_, List.getElem?_eq_getElem (by have := HL.out; omega)⟩
      obtain ⟨ao, cp, M, off, c0, c1, c2, _⟩ := HX.out k _ hget
      have c0 := HK.out.cell c0 (by simp)
      have c1 := HK.out.cell c1 (by simp)
      have c2 := HK.out.cell c2 (by simp)
      have HS := Lib.hid fun w => Right_any w x ao cp _ rfl
      have HRB := Lib.hid fun h => rightL_bad hget h
      have HRK := Lib.hid (rightL_take hget)
      clear hget hne
      unfold wvl str bv at *
      generalize ByteArray.mk x.name.toArray = s at *
      generalize (x.flags.toNat : Int) = f at *
      generalize x.code.length = m at *
      cases hr : rightW x with
      | true =>
        rw [hr] at HS HRK
        clear hr
        go_wp2_with (go_at_call 11; refine (HS.out _).mono ?_; rintro e w2 ⟨rfl, hk2⟩; have HK2 := Lib.hid hk2; clear hk2)
        go_roundw
        case rel => exact ⟨k + 1, by omega, by go_num, by rw [HRK.out, HRT.out]; rfl, (HK.out.trans (Keeps.alloc [] _ _)).trans HK2.out⟩
        case measure => simp [intOf]; omega
      | false =>
        rw [hr] at HS
        have HZ := Lib.hid (HRB.out hr)
        clear hr
        go_wp2_with (go_at_call 11; refine (HS.out _).mono ?_; rintro e w2 ⟨rfl, hk2⟩; have HK2 := Lib.hid hk2; clear hk2)
        go_ret
        exact ⟨by rw [← HR.out, HZ.out]; rfl, (HK.out.trans (Keeps.alloc [] _ _)).trans HK2.out⟩
    · have hjk : k = n := by omega
      have e : l.take k = l := by rw [hjk, HL.out]; exact HALL.out
      rw [e] at HRT
      go_wp2
      go_ret
      exact ⟨by rw [← HR.out, HRT.out]; rfl, HK.out⟩
end Go.Proofs.Yteaikbchbahdjaa
