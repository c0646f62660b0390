/-
  Keys and values: the weight of a map's entries.
  Keys and values: a map's values, in whatever order, collected.
  Keys and values: a map's values, collected in a slice.
  Keys and values: two keys compared; the closure that the sort calls.
-/
import Derived.Test.YtlnmbfddhdjioaaGreatCfgBase
import Derived.Test.YtlnmbfddhdjioaaGreatRangeP
import Derived.Lib.Bytealg
import Derived.Lib.BytesEntry
import Derived.Shelf.SlSortCmp.NoneTotal
namespace Go.Proofs.YtlnmbfddhdjioaaGreat
open Go.RowKit

/-- those that are still to come -/
def leftZ (left : Lit → Bool) (zs : KVs) : KVs := zs.filter fun z => left (.string z.1)

theorem leftZ_perm {left : Lit → Bool} {z : List UInt8 × (List UInt8 × Value)} : ∀ {zs : KVs}, (zs.Pairwise fun a b => a.1 ≠ b.1) → z ∈ zs → left (.string z.1) = true →
    (leftZ left zs).Perm (z :: leftZ (fun x => left x && !x.sameKey (.string z.1)) zs)
  | y :: r, hp, hm, hl => by
    obtain ⟨h1, h2⟩ := List.pairwise_cons.1 hp
    have other : ∀ l : KVs, (∀ x ∈ l, x.1 ≠ z.1) → leftZ (fun x => left x && !x.sameKey (.string z.1)) l = leftZ left l := by
      intro l hl
      unfold leftZ
      apply List.filter_congr
      intro x hx
      have : (Lit.string x.1).sameKey (.string z.1) = false := by simpa [Lit.sameKey] using hl x hx
      show (left (.string x.1) && !(Lit.string x.1).sameKey (.string z.1)) = left (.string x.1)
      rw [this]; simp
    rcases List.mem_cons.1 hm with rfl | hm
    · have e1 : leftZ left (z :: r) = z :: leftZ left r := by simp [leftZ, hl]
      have e2 : leftZ (fun x => left x && !x.sameKey (.string z.1)) (z :: r) = leftZ (fun x => left x && !x.sameKey (.string z.1)) r := by
        simp [leftZ, Lit.sameKey]
      rw [e1, e2, other r (fun x hx e => h1 x hx e.symm)]
    · have ih := leftZ_perm h2 hm hl
      have hy : (Lit.string y.1).sameKey (.string z.1) = false := by simpa [Lit.sameKey] using h1 z hm
      by_cases hly : left (.string y.1) = true
      · have e1 : leftZ left (y :: r) = y :: leftZ left r := by simp [leftZ, hly]
        have e2 : leftZ (fun x => left x && !x.sameKey (.string z.1)) (y :: r) = y :: leftZ (fun x => left x && !x.sameKey (.string z.1)) r := by
          unfold leftZ; rw [List.filter_cons_of_pos]; show (left (.string y.1) && !(Lit.string y.1).sameKey (.string z.1)) = true; rw [hly, hy]; rfl
        rw [e1, e2]
        exact (ih.cons y).trans (List.Perm.swap _ _ _)
      · have e1 : leftZ left (y :: r) = leftZ left r := by simp [leftZ, hly]
        have e2 : leftZ (fun x => left x && !x.sameKey (.string z.1)) (y :: r) = leftZ (fun x => left x && !x.sameKey (.string z.1)) r := by
          unfold leftZ; rw [List.filter_cons_of_neg]; show ¬ (left (.string y.1) && !(Lit.string y.1).sameKey (.string z.1)) = true; simp [hly]
        rw [e1, e2]
        exact ih

theorem leftZ_start {zs : KVs} (D : DataW Value) (hD : D = dat (mapK Prod.snd zs)) : leftZ (Maps.has D) zs = zs := by
  unfold leftZ
  rw [List.filter_eq_self]
  intro z hz
  rw [hD, dat_has, mapK_get]
  cases h : getK z.1 zs with
  | none => exact absurd rfl (get_none.1 h z hz)
  | some v => rfl
theorem leftZ_end {left : Lit → Bool} (h : ∀ kl, left kl = false) (zs : KVs) : leftZ left zs = [] := by
  unfold leftZ; rw [List.filter_eq_nil_iff]; intro z _; rw [h]; simp

/-- what a step of the range hands out -/
theorem kvs_came {zs : KVs} {kl : Lit} {key v : Value} {y : DataW Value × List MemPlace}
    (hkey : keyOf Tryz.prog 9 key = some kl) (hv : tokE v = some y) (hat : ∀ zd, (dat (mapK Prod.snd zs)).atKey kl zd = y.1) : ∃ z ∈ zs, kl = .string z.1 ∧ v = z.2.2 := by
  obtain ⟨s, rfl, rfl, _⟩ := WideMaps.string_of_keyOf Tryz.underlying9 hkey
  have h0 := hat (.held (.int .i64 0))
  have h1 := hat .nil
  unfold tokE at hv
  obtain rfl := Option.some.inj hv
  rw [dat_at] at h0 h1
  cases hg : getK s.data.toList (mapK Prod.snd zs) with
  | none => rw [hg] at h1; simp at h1
  | some u =>
    rw [hg] at h1
    simp at h1
    subst h1
    rw [mapK_get] at hg
    obtain ⟨p, hp, rfl⟩ := Option.map_eq_some_iff.1 hg
    exact ⟨_, get_mem hp, rfl, rfl⟩

def wtZ (zs : KVs) : Nat := wtL (mapK Prod.fst zs)
theorem wtZ_perm {zs ys : KVs} (h : zs.Perm ys) : wtZ zs = wtZ ys := wtL_perm (h.map _)
theorem wtZ_cons (z : List UInt8 × (List UInt8 × Value)) (zs : KVs) : wtZ (z :: zs) = wE (z.1, z.2.1) + wtZ zs := rfl

theorem ranges_keeps {S : List Nat} {w w' : World} {B r n cnt : Nat} {D : DataW Value} {left : Lit → Bool} (h : w.ranges Tryz.prog 9 tokE B r n D left cnt) (hk : Keeps S w w') (hB : B ∉ S) (hr : r ∉ S) : w'.ranges Tryz.prog 9 tokE B r n D left cnt := by
  have h1 := h.owns.lt
  have h2 := h.lt
  obtain ⟨es, clock, since, seen, c0, hb, F, hs, hD, hr', rest⟩ := h
  exact ⟨es, clock, since, seen, c0, (hk.block B h1 hB).trans hb, F, hs, hD, (hk.block r h2 hr).trans hr', rest⟩

theorem wpList_next_tok (w : World) {ops : Array Oper} {rest : List Oper} {o : Oper} {a : Act} {Q : Exit → Act → World → Prop} (hg : o.guard = none) (it : Operand) (hop : o.op = Op.next it false)
    (b r n : Nat) (D : DataW Value) (left : Lit → Bool) (cnt : Nat) (hit : a.eval it = .pointer (some ⟨r, 0, none⟩)) (h : w.ranges Tryz.prog 9 tokE b r n D left cnt)
    (hDone : cnt = 0 → (∀ kl, left kl = false) → wpList Tryz.prog ops Q rest (a.put o.dst (.tuple #[.bool false])) w)
    (hMore : ∀ (key v : Value) (kl : Lit) (y : DataW Value × List MemPlace) (w' : World) (cnt' : Nat), keyOf Tryz.prog 9 key = some kl → left kl = true → tokE v = some y → (∀ zd, D.atKey kl zd = y.1) → w'.ranges Tryz.prog 9 tokE b r n D (fun z => left z && !z.sameKey kl) cnt' → cnt' < cnt →
      w.grownBy w' (some r) → w'.heap.size = w.heap.size → (Instr.entry (.pointer (some ⟨r, 0, none⟩))).run Tryz.prog w' = .ok (.tuple #[key, v]) w' → wpList Tryz.prog ops Q rest (a.put o.dst (.tuple #[.bool true, key, v])) w') :
    wpList Tryz.prog ops Q (o :: rest) a w :=
  wpList_next_ranges w hg it hop 9 strKeyed tokE (fun v => v) (fun v => v) (fun key _ _ => ⟨key, rfl⟩) (fun v _ _ => ⟨v, rfl⟩) b r n D left cnt hit h hDone hMore

set_option maxRecDepth 100000 in
set_option maxHeartbeats 2000000 in
theorem weights_any (w : World) (B base : Nat) (es : List Ent) (hm : MapAt base w B es) (hok : ∀ e ∈ es, OkE e) (hn : wtL es ≤ 1000000) (hB : base ≤ w.heap.size) :
    Calls Tryz.prog 79 #[.map (some B)] w fun e w' => e = .returned (.int .i64 (wtL es)) ∧ Keeps [] w w' := by
  obtain ⟨zs, hz, he⟩ := hm
  have hwz : wtZ zs = wtL es := by unfold wtZ; rw [he]
  have hokz : ∀ z ∈ zs, OkE (z.1, z.2.1) := fun z hz => hok _ (by rw [← he]; exact List.mem_map.2 ⟨z, hz, rfl⟩)
  rw [← hwz] at hn ⊢
  have HZ := Lib.hid hz
  have HOK := Lib.hid hokz
  have HB := Lib.hid hB
  clear hwz he hok hz hokz hB
  generalize hW : wtZ zs = W at *
  have HW := Lib.hid hW
  clear hW
  go_enter Tryz.func79, Tryz.ntmps79
  go_wp2_with (first
    | (at_range; refine wpList_range_own _ rfl _ 73 rfl 9 51 strKeyed Tryz.underlying73 tokE B _ _ rfl HZ.out.own ?_; intro w0 hrg0 hg0 hs0)
    | fail)
  have hkw0 : Keeps [] w w0 := Keeps.grown hg0 (fun k hk => by cases hk)
  clear hg0 hs0
  go_frame
  go_loopw [3] (fun s wr => ∃ (left : Lit → Bool) (cnt t : Nat), s = .int .i64 t ∧ t + wtZ (leftZ left zs) = W ∧ wr.ranges Tryz.prog 9 tokE B w.heap.size zs.length (dat (mapK Prod.snd zs)) left cnt ∧ Keeps [] w wr) (fun _ wr => wr.rangeLeft B w.heap.size)
  case atStart => exact ⟨_, _, 0, rfl, by rw [leftZ_start _ rfl, Nat.zero_add]; exact HW.out, hrg0, hkw0⟩
  case round =>
    obtain ⟨left, cnt, t, rfl, hsum, hrg, hkm⟩ := hrel
    have HSUM := Lib.hid hsum
    have HK := Lib.hid hkm
    clear hsum hkm
    go_wp2_with (first
      | (at_next; refine wpList_next_tok _ rfl _ rfl B w.heap.size _ _ _ _ rfl hrg ?_ ?_)
      | fail)
    · intro _ hl0
      have e : t = W := by have := HSUM.out; rw [leftZ_end hl0] at this; exact this
      subst e
      go_wp2
      go_ret
      exact ⟨rfl, HK.out⟩
    · intro key v kl yd yp w1 cnt1 hkey hlk hv hat hrg1 hlt hg1 hs1 hen
      obtain ⟨z, hz, rfl, rfl⟩ := kvs_came (y := (yd, yp)) hkey hv hat
      obtain ⟨kv, vv, hzv, bk, bv1⟩ := HZ.out.ent z hz
      have hok := HOK.out z hz
      have hperm := leftZ_perm HZ.out.rise.ne hz hlk
      have hw1 := wtZ_perm hperm
      rw [wtZ_cons] at hw1
      have hsum := HSUM.out
      rw [hw1] at hsum
      have hr0 : w.heap.size ≤ w.heap.size := Nat.le_refl _
      have k1 : Keeps [] w w1 := HK.out.then (Keeps.grown (S := [w.heap.size]) hg1 (fun k hk => by cases hk; simp)) (fun x hx => .inr (by simp at hx; omega))
      obtain ⟨ak, ck, rfl, _⟩ := bk.shape
      obtain ⟨av, cv, rfl, _⟩ := bv1.shape
      have hpos : 0 < w1.heap.size := by have := HZ.out.lt; have := k1.size; omega
      have HWT := Lib.hid (fun U (hU : Keeps [] w1 U) => Weight_any U _ _ z.1 z.2.1 base base (bk.keeps (k1.trans hU) (by simp)) (bv1.keeps (k1.trans hU) (by simp)) (by have := hU.size; omega))
      have hwe : weightL z.1 z.2.1 = wE (z.1, z.2.1) := by unfold weightL; rw [if_pos ⟨⟨hok.k1, hok.k16⟩, hok.v64⟩]
      rw [hwe] at HWT
      have K1 := Lib.hid k1
      have HRG := Lib.hid hrg
      have HRG1 := Lib.hid hrg1
      have HS := Lib.hid hsum
      generalize wE (z.1, z.2.1) = q at *
      have hq : q ≤ 1000000 := by have := HS.out; omega
      have ht : t ≤ 1000000 := by have := HS.out; omega
      rw [hzv] at hen ⊢
      clear hzv bk bv1 hok hperm hw1 hsum hg1 hs1 hat hv hkey hrg hrg1 hlk k1 hr0
      go_wp2_with (go_at_call 11; refine (HWT.out _ (Keeps.alloc [] w1 _)).mono ?_; rintro e w2 ⟨rfl, k2⟩; have K2 := Lib.hid ((Keeps.alloc [] w1 (.cells #[.slice ak z.1.length ck, .slice av z.2.1.length cv] 51)).trans k2); clear k2)
      go_roundw
      case rel =>
        have hB1 := HRG1.out.owns.lt
        exact ⟨_, cnt1, t + q, by go_num, by rw [Nat.add_assoc]; exact HS.out, ranges_keeps HRG1.out K2.out (by simp) (by simp), K1.out.trans K2.out⟩
      case measure => rw [(ranges_keeps HRG1.out K2.out (by simp) (by simp)).left_eq, HRG.out.left_eq]; omega
end Go.Proofs.YtlnmbfddhdjioaaGreat

namespace Go.Proofs.YtlnmbfddhdjioaaGreat
open Go.RowKit

def StepZ (zs : KVs) (pre : KVs) (z : List UInt8 × (List UInt8 × Value)) : Prop := ∃ rest, zs.Perm (pre ++ z :: rest)
def FinZ (zs : KVs) (pre : KVs) : Prop := zs.Perm pre
def EncZ (z : List UInt8 × (List UInt8 × Value)) (args : Array Value) (_W : World) : Prop := args = #[z.2.2]

theorem KeptP.ranges {n0 m : Nat} {S : List Nat} {w w' : World} {B r n cnt : Nat} {D : DataW Value} {left : Lit → Bool} (h : w.ranges Tryz.prog 9 tokE B r n D left cnt) (hk : KeptP n0 S m w w') : w'.ranges Tryz.prog 9 tokE B r n D left cnt := by
  obtain ⟨es, clock, since, seen, c0, hb, F, hs, hD, hr', rest⟩ := h
  exact ⟨es, clock, since, seen, c0, hk.2 _ _ hb rfl, F, hs, hD, hk.2 _ _ hr' rfl, rest⟩
theorem ranges_turn {w w' : World} {B r n cnt n0 : Nat} {D : DataW Value} {left : Lit → Bool} (h : w.ranges Tryz.prog 9 tokE B r n D left cnt) (hr : n0 ≤ r) (hg : w.grownBy w' (some r)) : Turn n0 w w' := by
  obtain ⟨es, clock, since, seen, c0, hb, F, hs, hD, hr', rest⟩ := h
  exact ⟨r, _, hr, hr', rfl, hg⟩

set_option maxRecDepth 100000 in
set_option maxHeartbeats 800000 in
theorem values_yields (n n0 : Nat) (S : List Nat) (w : World) (B bm base : Nat) (zs : KVs) (hz : MapZ base w B zs) (hb : w.cell? ⟨bm, 0, none⟩ = some (.map (some B))) (hbm : bm < n0 ∧ bm ∉ S) :
    YieldsP Tryz.prog n 90 #[.pointer (some ⟨bm, 0, none⟩)] EncZ n0 S (StepZ zs) (FinZ zs) w := by
  intro l J W hW hn0 hJ hJt hY hJ0
  refine callsIn_wide.2 ?_
  have HB := Lib.hid (hW.cell hb (by simp))
  have HZ := Lib.hid hz
  have HZW := Lib.hid (hz.keeps hW (by simp) (by simp))
  have HJ := Lib.hid hJ
  have HJT := Lib.hid hJt
  have HY := Lib.hid hY
  have HJ0 := Lib.hid hJ0
  have hbW := HB.out
  clear hb hz hW hJ hY hJ0 hJt
  show Calls Tryz.prog 90 #[.func (.yield l) #[] #[], .pointer (some ⟨bm, 0, none⟩)] W _
  go_enter Tryz.func90, Tryz.ntmps90
  go_wp2_with (first
    | (at_range; refine wpList_range_own _ rfl _ 73 rfl 9 51 strKeyed Tryz.underlying73 tokE B _ _ rfl HZW.out.own ?_; intro w0 hrg0 hg0 hs0)
    | fail)
  have hkw0 : Keeps [] W w0 := Keeps.grown hg0 (fun k hk => by cases hk)
  clear hg0 hs0
  go_frame
  go_loopw [7] (fun _ wr => ∃ (pre : KVs) (left : Lit → Bool) (cnt : Nat), zs.Perm (pre ++ leftZ left zs) ∧ J pre wr ∧ wr.ranges Tryz.prog 9 tokE B W.heap.size zs.length (dat (mapK Prod.snd zs)) left cnt ∧ wr.cell? ⟨bm, 0, none⟩ = some (.map (some B)) ∧ W.heap.size ≤ wr.heap.size) (fun _ wr => wr.rangeLeft B W.heap.size)
  case atStart => exact ⟨[], _, _, by rw [leftZ_start _ rfl]; exact List.Perm.refl _, HJ.out [] W w0 hkw0.below HJ0.out, hrg0, hkw0.cell HB.out (by simp), hkw0.size⟩
  case round =>
    obtain ⟨pre, left, cnt, hperm, hj, hrg, hbc, hsz⟩ := hrel
    have HPM := Lib.hid hperm
    have HJP := Lib.hid hj
    have HBC := Lib.hid hbc
    clear hperm hj hbc
    go_wp2_with (first
      | (at_next; refine wpList_next_tok _ rfl _ rfl B W.heap.size _ _ _ _ rfl hrg ?_ ?_)
      | fail)
    · intro _ hl0
      have hfin : FinZ zs pre := by have := HPM.out; rwa [leftZ_end hl0, List.append_nil] at this
      have HF := Lib.hid hfin
      clear hfin hl0
      go_wp2
      go_end0
      exact ⟨⟨_, rfl⟩, pre, HF.out, HJP.out⟩
    · intro key v kl yd yp w1 cnt1 hkey hlk hv hat hrg1 hlt hg1 hs1 hen
      obtain ⟨z, hz, rfl, rfl⟩ := kvs_came (y := (yd, yp)) hkey hv hat
      obtain ⟨kv, vv, hzv, bk, bv1⟩ := HZW.out.ent z hz
      have hp2 := leftZ_perm HZ.out.rise.ne hz hlk
      have hp3 : zs.Perm (pre ++ z :: leftZ (fun x => left x && !x.sameKey (.string z.1)) zs) := HPM.out.trans (hp2.append_left pre)
      have hstep : StepZ zs pre z := ⟨_, hp3⟩
      have hj1 := HJT.out pre _ _ (ranges_turn hrg hn0 hg1) HJP.out
      obtain ⟨ak, ck, rfl, _⟩ := bk.shape
      obtain ⟨av, cv, rfl, _⟩ := bv1.shape
      have k1 : Keeps [W.heap.size] wr w1 := Keeps.grown hg1 (fun k hk => by cases hk; simp)
      have hb1 := k1.cell HBC.out (by simp; omega)
      have HB1 := Lib.hid hb1
      have HJ1 := Lib.hid hj1
      have HST := Lib.hid hstep
      have HP3 := Lib.hid hp3
      have HRG := Lib.hid hrg
      have HRG1 := Lib.hid hrg1
      have HZV := Lib.hid hzv
      have hsz1 : W.heap.size ≤ w1.heap.size := by omega
      have HLT := Lib.hid hlt
      rw [hzv] at hen ⊢
      clear bk bv1 hp2 hp3 hstep hj1 hb1 k1 hg1 hs1 hat hv hkey hrg hrg1 hlk hlt hzv
      go_upto_region 3 with (fail)
      have hbU : Below w1.heap.size w1 (w1.alloc (.cells #[.slice ak z.1.length ck, .slice av z.2.1.length cv] 51)) := (Below.refl _ w1).alloc (Nat.le_refl _) _
      have wU : Whole (w1.alloc (.cells #[.slice ak z.1.length ck, .slice av z.2.1.length cv] 51)) w1.heap.size 51 [.slice ak z.1.length ck, .slice av z.2.1.length cv] := Whole.new w1 _ [_, _]
      obtain ⟨fn, tmps, assign, body, hy, hr⟩ := HY.out pre z #[.agg #[.slice ak z.1.length ck, .slice av z.2.1.length cv]] w1 _ HST.out HJ1.out hsz1 hbU (by unfold EncZ; rw [HZV.out])
      have HRU := Lib.hid (ranges_keeps HRG1.out (Keeps.ofBelow (S := []) hbU) (by simp) (by simp))
      have HBU := Lib.hid ((Keeps.ofBelow (S := []) hbU).cell HB1.out (by simp))
      have sU := hbU.size
      generalize World.alloc w1 _ = U at *
      have d0 := (wU.cell 0).trans (show _ = some (Value.slice ak z.1.length ck) from rfl)
      have d1 := (wU.cell 1).trans (show _ = some (Value.slice av z.2.1.length cv) from rfl)
      have HR := Lib.hid hr
      clear hr hbU wU
      refine (wpIn_wide (n := n)).1 ?_
      gi_wp2
      refine ⟨(fun h => by cases h), HR.out.mono ?_⟩
      rintro e W3 ⟨rfl, hJ3, hk3⟩
      have HJ3 := Lib.hid hJ3
      have HB3 := Lib.hid (hk3.1.cell HBU.out (.inl hbm))
      have HR3 := Lib.hid (hk3.ranges HRU.out)
      have h31 := hk3.1.1
      clear hJ3 hk3 d0 d1
      gi_wp2
      go_wp2
      go_roundw
      case rel => exact ⟨pre ++ [z], _, cnt1, by rw [List.append_assoc]; exact HP3.out, HJ3.out, HR3.out, HB3.out, by omega⟩
      case measure => rw [HR3.out.left_eq, HRG.out.left_eq]; exact HLT.out
end Go.Proofs.YtlnmbfddhdjioaaGreat

namespace Go.Proofs.YtlnmbfddhdjioaaGreat
open Go.RowKit
attribute [local go_sem] Oper.semAt_some

/-- An entry's two cells. -/
def entCells : Value → List Value
  | .agg cs => match cs.toList with
    | [.slice a n c, .slice b m d] => [.slice a n c, .slice b m d]
    | _ => [.slice none 0 0, .slice none 0 0]
  | _ => [.slice none 0 0, .slice none 0 0]
theorem entCells_length (v : Value) : (entCells v).length = 2 := by
  unfold entCells; split
  · split <;> rfl
  · rfl
theorem entCells_one (v : Value) : ∀ u ∈ entCells v, u.oneCell' = true := by
  unfold entCells; split
  · split
    · intro u hu; simp at hu; rcases hu with rfl | rfl <;> rfl
    · intro u hu; simp at hu; subst hu; rfl
  · intro u hu; simp at hu; subst hu; rfl
def rowZ (zs : KVs) : List Value := zs.flatMap fun z => entCells z.2.2
theorem rowZ_length (zs : KVs) : (rowZ zs).length = zs.length * 2 := by
  unfold rowZ
  induction zs with
  | nil => rfl
  | cons z r ih => simp [List.flatMap_cons, entCells_length, ih]; omega
theorem rowZ_snoc (zs : KVs) (z : List UInt8 × (List UInt8 × Value)) : rowZ (zs ++ [z]) = rowZ zs ++ entCells z.2.2 := by simp [rowZ]

theorem infoEntry : (Tryz.prog.info? 51).map (fun i => (i.zero, i.size, i.bytes)) = some (some (.agg #[.slice none 0 0, .slice none 0 0]), 2, 48) := by kernel_rfl

/-- What has been collected so far. -/
def CollZ (w : World) (n0 bl : Nat) (pre : KVs) (W : World) : Prop :=
  Keeps [] w W ∧ ∃ (ao : Option Addr) (cp : Nat), Whole W bl 31 [.slice ao pre.length cp] ∧ W.ownsRow n0 51 2 (.slice ao pre.length cp) pre.length (rowZ pre)

theorem CollZ.stays {w : World} {n0 bl : Nat} {pre : KVs} : Stays (CollZ w n0 bl pre) := by
  rintro A B hb ⟨hk, ao, cp, h1, h2⟩
  have hkb : Keeps [] A B := Keeps.ofBelow hb
  exact ⟨hk.trans hkb, ao, cp, h1.keeps hkb (by simp), World.ownsRow.keeps h2 hkb (by simp)⟩
theorem CollZ.turn {w : World} {n0 bl : Nat} {pre : KVs} (hn : w.heap.size ≤ n0) (A B : World) (ht : Turn n0 A B) (h : CollZ w n0 bl pre A) : CollZ w n0 bl pre B := by
  obtain ⟨hk, ao, cp, h1, h2⟩ := h
  obtain ⟨r, o, hr, ho, hm, hg⟩ := ht
  have hkr : Keeps [r] A B := Keeps.grown hg (fun k hk => by cases hk; simp)
  refine ⟨hk.then hkr (fun x hx => .inr (by simp at hx; omega)), ao, cp, h1.keeps hkr (fun hx => ?_), World.ownsRow.keeps h2 hkr (fun g hg' hx => ?_)⟩
  · simp at hx; subst hx
    unfold Whole at h1; rw [ho] at h1; cases h1; cases hm
  · simp at hx; subst hx
    obtain ⟨cur, hcur⟩ := owns_heap h2 hg'
    rw [ho] at hcur; cases hcur; cases hm
theorem CollZ.put {w : World} {n0 bl : Nat} {pre : KVs} {W : World} {lp : Nat} {o o' : Obj} (hl : w.heap.size ≤ lp) (ho : W.heap[lp]? = some o) (hc : o.isCells = false) (h : CollZ w n0 bl pre W) : CollZ w n0 bl pre (W.putObj lp o') := by
  obtain ⟨hk, ao, cp, h1, h2⟩ := h
  exact ⟨keeps_putObj hk hl, ao, cp, putObj_cells ho hc h1 rfl, owns_putObj ho hc h2⟩

theorem StepZ.mem {zs pre : KVs} {z : List UInt8 × (List UInt8 × Value)} (h : StepZ zs pre z) : z ∈ zs ∧ pre.length < zs.length := by
  obtain ⟨rest, hp⟩ := h
  exact ⟨hp.mem_iff.2 (by simp), by rw [hp.length_eq]; simp⟩

theorem ent_shape {base : Nat} {w : World} {v : Value} {e : Ent} (h : EntAt base w v e) : ∃ a n c b m d, v = .agg #[.slice a n c, .slice b m d] := by
  obtain ⟨kv, vv, rfl, h1, h2⟩ := h
  obtain ⟨a, c, rfl, _⟩ := h1.shape
  obtain ⟨b, d, rfl, _⟩ := h2.shape
  exact ⟨_, _, _, _, _, _, rfl⟩

set_option maxRecDepth 100000 in
set_option maxHeartbeats 1000000 in
theorem AppendSeq_any (w : World) (B bm base : Nat) (zs : KVs) (hz : MapZ base w B zs) (hb : w.cell? ⟨bm, 0, none⟩ = some (.map (some B))) (hbm : bm < w.heap.size) (hn : zs.length ≤ 100000) :
    Calls Tryz.prog 106 #[.slice none 0 0, .func (.func 90) #[] #[.pointer (some ⟨bm, 0, none⟩)]] w fun e w' => ∃ ys v, zs.Perm ys ∧ e = .returned v ∧ w'.ownsRow w.heap.size 51 2 v ys.length (rowZ ys) ∧ Keeps [] w w' := by
  have HZ := Lib.hid hz
  have HB := Lib.hid hb
  clear hz hb
  refine (callsIn_wide (n := 3)).1 ?_
  refine callsIn_of_wp_marks Tryz.func106 rfl trivial ?_ rfl
  simp only [Tryz.ntmps106, List.size_toArray, List.length_cons, List.length_nil, Nat.reduceAdd, Nat.reduceSub, Array.replicate_succ, Array.replicate_zero, List.push_toArray, List.append_toArray, List.nil_append, List.cons_append]
  refine wpIn_wide.2 ?_
  go_wp2_with fail
  generalize hU : World.alloc w _ = U
  have kU : Keeps [] w U := by rw [← hU]; exact Keeps.alloc [] _ _
  have wU : Whole U w.heap.size 31 [.slice none 0 0] := by rw [← hU]; exact Whole.new w _ [_]
  have sU : U.heap.size = w.heap.size + 1 := by rw [← hU]; simp
  have hys := values_yields 2 U.heap.size [w.heap.size] U B bm base zs (HZ.out.keeps kU (by simp) (by simp)) (kU.cell HB.out (by simp)) ⟨by omega, by simp; omega⟩
  have KU := Lib.hid kU
  have WU := Lib.hid wU
  clear hU kU wU
  refine (wpIn_wide (n := 3)).1 ?_
  refine wpIn_range_some (n := 3) (gf := 90) (lb := #[.pointer (some ⟨bm, 0, none⟩)]) rfl (enters_of Tryz.func90 (by kernel_rfl) rfl) hys (Keeps.refl _ _)
    (fun x args W h => by rw [h]; rfl)
    (fun pre W => CollZ w U.heap.size w.heap.size pre W) (fun k => CollZ.stays) (fun k A B ht h => CollZ.turn (by omega) A B ht h)
    (fun k W lp o o' hl ho hc h => CollZ.put (by omega) ho hc h)
    ⟨KU.out, none, 0, WU.out, ⟨rfl, .inl ⟨rfl, rfl⟩⟩⟩
    (fun x args W0 a' W' => ∃ (rb : Nat) (a : Option Addr) (n c : Nat) (b : Option Addr) (m d : Nat), x.2.2 = .agg #[.slice a n c, .slice b m d] ∧ W0.heap.size ≤ rb ∧ Whole W' rb 51 [.slice a n c, .slice b m d] ∧
      a' = { tmps := #[.slice none 0 0, .func (.func 90) #[] #[.pointer (some ⟨bm, 0, none⟩)], .pointer (some ⟨w.heap.size, 0, none⟩), undef, .slice none 0 0, .pointer (some ⟨rb, 0, none⟩), .func (.func 90) #[] #[.pointer (some ⟨bm, 0, none⟩)], .agg #[.slice a n c, .slice b m d], undef, undef, undef, undef, undef], defers := [] }) ?assign ?out ?body ?done
  case out =>
    rintro x args W0 a' W' lp o o' ho hc ⟨rb, a, n, c, b, m, d, h1, h2, h3, h4⟩
    exact ⟨rb, a, n, c, b, m, d, h1, h2, putObj_cells ho hc h3 rfl, h4⟩
  case assign =>
    rintro l k ⟨key, val, x⟩ args W0 W1 K hx hb01 henc hK
    obtain ⟨hmem, _⟩ := hx.mem
    obtain ⟨a, n, c, b, m, d, hsh⟩ := ent_shape (HZ.out.ent _ hmem)
    unfold EncZ at henc
    simp only at hsh henc
    subst hsh
    subst henc
    have HK := Lib.hid hK
    clear hK hx
    gi_wp2
    exact HK.out _ _ ((Below.refl _ W1).alloc (Nat.le_refl _) _) ⟨W1.heap.size, a, n, c, b, m, d, rfl, hb01.size, Whole.new W1 _ [_, _], rfl⟩
  case body =>
    rintro l pre ⟨key, val, x⟩ args W0 a' W' hx ⟨_, ao, cp, w0, ho0⟩ hsz hle ⟨kW, _⟩ ⟨rb, a, n, c, b, m, d, hsh, hrb, wrb, rfl⟩ hcU
    obtain ⟨i0, hi, hz0, hz1, hz2⟩ := info_parts infoEntry
    obtain ⟨hmem, hlt⟩ := hx.mem
    simp only at hsh
    subst hsh
    have w1 : Whole W' w.heap.size 31 [.slice ao pre.length cp] := hcU _ _ w0.lt w0 (.inl rfl)
    have ho1 := owns_cellsKept (fun j o hj ho hc => hcU j o hj ho (.inl hc)) (Nat.le_refl _) ho0
    have c0 := (w1.cell 0).trans (show _ = some (Value.slice ao pre.length cp) from rfl)
    have d0 := (wrb.cell 0).trans (show _ = some (Value.slice a n c) from rfl)
    have d1 := (wrb.cell 1).trans (show _ = some (Value.slice b m d) from rfl)
    have hbl : w.heap.size < W0.heap.size := w0.lt
    have H1 := Lib.hid ho1
    have W1 := Lib.hid w1
    have HLT := Lib.hid (fun g hg => ho0.lt g hg)
    have KW := Lib.hid kW
    have HS := Lib.hid (show rowZ (pre ++ [(key, val, Value.agg #[.slice a n c, .slice b m d])]) = rowZ pre ++ [.slice a n c, .slice b m d] from rowZ_snoc _ _)
    obtain ⟨N, hN⟩ : ∃ N, N = pre.length := ⟨_, rfl⟩
    have HN := Lib.hid hN
    rw [← hN] at c0 H1 W1 HLT hlt
    clear hx w0 ho0 ho1 w1 kW wrb hcU hmem hN
    gi_wp2_with (gi_at_builtin; refine wpListIn_append_own _ rfl _ _ 31 rfl U.heap.size 51 i0 (.agg #[.slice none 0 0, .slice none 0 0]) 2 48 Tryz.underlying31 hi hz0 hz1 hz2 rfl (by decide) (.slice ao N cp) N (rowZ pre) rfl (H1.out.alloc _) ⟨W'.heap.size, 0, none⟩ 1 1 [.slice a n c, .slice b m d] rfl rfl ?c1 ?c2 ?c3 ?c4 ?c5 ?_)
    case c1 =>
      intro i u hu
      rw [Addr.add_off, Nat.zero_add, cell_alloc_new]
      simpa using hu
    case c2 => intro u hu; simp at hu; rcases hu with rfl | rfl <;> rfl
    case c3 => unfold maxLen; omega
    case c4 => omega
    case c5 => simp; omega
    intro v3 w3 hown3 hg3 _
    obtain ⟨ao3, cp3, rfl⟩ := owns_shape2 hown3
    have kA : Keeps [] W' (W'.alloc (.cells #[Value.slice a n c, Value.slice b m d] 51)) := Keeps.alloc [] _ _
    have k3 := Keeps.grown (S := (Value.slice ao N cp).ownBlock.toList) hg3 (fun j hj => .inl (by rw [hj]; simp))
    have k13 : Keeps (Value.slice ao N cp).ownBlock.toList W' w3 := (kA.mono (by simp)).trans k3
    have hng : w.heap.size ∉ (Value.slice ao N cp).ownBlock.toList := fun hm => by
      have := (HLT.out w.heap.size (by simpa using hm)).1
      omega
    have w13 := W1.out.keeps k13 hng
    have q0 := (w13.cell 0).trans (show _ = some (Value.slice ao N cp) from rfl)
    have q1 := w13.frozen 0
    have H3 := Lib.hid hown3
    have K13 := Lib.hid k13
    have W13 := Lib.hid w13
    clear hown3 hg3 kA k3 k13 w13 c0 d0 d1
    gi_wp2
    have wX := W13.out.set 0 (.slice ao3 (N + 1) cp3)
    have kS : Keeps [w.heap.size] w3 (w3.setCell ⟨w.heap.size, 0, none⟩ (.slice ao3 (N + 1) cp3)) := Keeps.setCell _ (by simp) _
    have kX : Keeps (w.heap.size :: (Value.slice ao N cp).ownBlock.toList) W' (w3.setCell ⟨w.heap.size, 0, none⟩ (.slice ao3 (N + 1) cp3)) :=
      (K13.out.mono (fun x hx => by simp [hx])).trans (kS.mono (fun x hx => by simp at hx; simp [hx]))
    have hcell : ∀ (x : Nat) (o : Obj), x ∈ (w.heap.size :: (Value.slice ao N cp).ownBlock.toList) → W'.heap[x]? = some o → o.isCells = true := by
      intro x o hx ho
      rcases List.mem_cons.1 hx with h | h
      · subst h
        have := W1.out
        unfold Whole at this
        rw [this] at ho; cases ho; rfl
      · obtain ⟨cur, hcur⟩ := owns_heap H1.out (g := x) (by simpa using h)
        rw [hcur] at ho; cases ho; rfl
    have hlen : (pre ++ [(key, val, Value.agg #[.slice a n c, .slice b m d])]).length = N + 1 := by rw [HN.out]; simp
    refine ⟨⟨kX.size, fun j o hj ho hc => kX.obj ho (fun hm => ?_)⟩, ⟨Kept.ofKeeps kX (fun x hx => ?_), fun j o ho hc => kX.obj ho (fun hm => ?_)⟩, KW.out.then kX (fun x hx => ?_), ao3, cp3, ?_, ?_⟩
    · rw [hcell j o hm ho] at hc; cases hc
    · rcases List.mem_cons.1 hx with h | h
      · subst h; exact ⟨.inr (by simp), hbl⟩
      · have := HLT.out x (by simpa using h)
        exact ⟨.inl this.1, this.2⟩
    · have := hcell j o hm ho
      cases o <;> simp [mapish, Obj.isCells] at this hc
    · rcases List.mem_cons.1 hx with h | h
      · subst h; exact .inr (Nat.le_refl _)
      · have := HLT.out x (by simpa using h)
        exact .inr (by omega)
    · rw [hlen]; exact wX
    · rw [hlen, HS.out, sU]
      exact World.ownsRow.keeps H3.out kS (fun g hg hm => by
        have := (H3.out.lt g hg).1
        simp at hm; omega)
  case done =>
    rintro D W ys hfin hD ⟨hkW, ao, cp, hw, ho⟩ hdef
    have c0 := (hw.cell 0).trans (show _ = some (Value.slice ao ys.length cp) from rfl)
    have HO := Lib.hid ho
    have HKW := Lib.hid hkW
    have HD := Lib.hid hdef
    have HF := Lib.hid hfin
    clear hw ho hkW hdef hfin
    obtain ⟨nn, hnn⟩ : ∃ nn, nn = ys.length := ⟨_, rfl⟩
    have HNN := Lib.hid hnn
    rw [← hnn] at c0 HO
    clear hnn
    go_wp2
    refine ⟨by simp, .inl ⟨_, _, rfl, run_takeDeferred HD.out, ?_⟩⟩
    refine ⟨.slice ao nn cp, by simp [results, Tryz.results106, go_sem], ?_⟩
    refine ⟨ys, _, HF.out, rfl, ?_, keeps_putObj HKW.out (by omega)⟩
    rw [← HNN.out]
    exact owns_putObj HD.out rfl (World.ownsRow.mono HO.out (by omega))
end Go.Proofs.YtlnmbfddhdjioaaGreat

namespace Go.Proofs.YtlnmbfddhdjioaaGreat
open Go.RowKit Go.Sort Go.Shelf

theorem run_loadBytes_own {P : Program} (w : World) : ∀ (l : List UInt8) (a : Addr) (acc : ByteArray), (∀ i c, l[i]? = some c → w.cell? (a.add i) = some (bv c)) →
    (Extern.Bytes.loadBytes a l.length acc).run P w = .ok ⟨acc.data ++ l.toArray⟩ w
  | [], a, acc, _ => by
    simp only [List.length_nil, Extern.Bytes.loadBytes, Sem.run_pure]
    congr 1
  | c :: r, a, acc, h => by
    have h0 := h 0 c rfl
    rw [show a.add 0 = a from rfl] at h0
    have ih := run_loadBytes_own (P := P) w r (a.add 1) (acc.push c) (fun i x hx => by
      have := h (i + 1) x (by simpa using hx)
      rw [Deep.add_add, Nat.add_comm]; exact this)
    have e : ((c.toNat : Int)).toNat.toUInt8 = c := by
      show UInt8.ofNat (c.toNat : Int).toNat = c
      apply UInt8.toNat_inj.1; simp
    simp only [List.length_cons, Extern.Bytes.loadBytes, Sem.run_bind, run_load, h0, Result.andThen, bv, e]
    rw [ih]
    congr 1
    apply ByteArray.ext
    simp [ByteArray.push]

theorem run_bytesOf_reads {P : Program} {w : World} {v : Value} {l : List UInt8} {M : Nat} (h : Reads w v l M) : (Extern.Bytes.bytesOf v).run P w = .ok ⟨l.toArray⟩ w := by
  rcases h with ⟨rfl, rfl⟩ | ⟨ad, cap, rfl, _, _, hc⟩
  · rfl
  · show (Extern.Bytes.loadBytes ad l.length .empty).run P w = _
    rw [run_loadBytes_own w l ad .empty hc]
    congr 1
    apply ByteArray.ext
    show (#[] : Array UInt8) ++ l.toArray = l.toArray
    simp

theorem run_compareReads {P : Program} {w : World} {va vb : Value} {a b : List UInt8} {Ma Mb : Nat} (ha : Reads w va a Ma) (hb : Reads w vb b Mb) :
    (Extern.BytealgCompare.compare #[va, vb]).run P w = .ok (.int .i64 (Lib.compareBytes a b)) w := by
  change Sem.run P (do pure (goInt (Extern.BytealgCompare.cmp (← Extern.Bytes.bytesOf va) (← Extern.Bytes.bytesOf vb)))) w = _
  simp only [Sem.run_bind, Sem.run_pure, run_bytesOf_reads ha, run_bytesOf_reads hb, Result.andThen]
  rw [Lib.cmp_eq]
  rfl

theorem compare_before : ∀ a b : List UInt8, decide (Lib.compareBytes a b < 0) = bytesBefore a b
  | [], [] => rfl
  | [], _ :: _ => rfl
  | _ :: _, [] => rfl
  | a :: ar, b :: br => by
    unfold Lib.compareBytes bytesBefore
    by_cases h : a < b
    · simp [h]
    · by_cases h2 : b < a
      · have : ¬ a = b := fun e => by subst e; exact absurd h2 h
        simp [h, h2, this]
      · have : a = b := by
          apply UInt8.toNat_inj.1
          rw [UInt8.lt_iff_toNat_lt] at h h2; omega
        subst this
        simp [h, compare_before ar br]

set_option maxRecDepth 100000 in
set_option maxHeartbeats 400000 in
theorem Compare_any (w : World) (va vb : Value) (a b : List UInt8) (Ma Mb : Nat) (ha : Reads w va a Ma) (hb : Reads w vb b Mb) :
    Calls Tryz.prog 61 #[va, vb] w fun e w' => e = .returned (.int .i64 (Lib.compareBytes a b)) ∧ w = w' := by
  have hr : (callFunc 87 #[va, vb]).run Tryz.prog w = .ok (.value (.int .i64 (Lib.compareBytes a b))) w := by
    rw [run_callFunc_extern Tryz.func87 (by kernel_rfl) (by kernel_rfl) (by kernel_rfl) (e := Extern.BytealgCompare.compare) (by kernel_rfl), run_compareReads ha hb]
    rfl
  obtain ⟨a1, c1, rfl, _⟩ := ha.shape
  obtain ⟨a2, c2, rfl, _⟩ := hb.shape
  clear ha hb
  generalize Lib.compareBytes a b = q at *
  go_enter Tryz.func61, Tryz.ntmps61
  go_wp2
  go_ret
  exact ⟨rfl, rfl⟩

set_option maxRecDepth 100000 in
set_option maxHeartbeats 1000000 in
theorem byKey_any (W : World) (a1 : Option Addr) (n1 c1 : Nat) (b1 : Option Addr) (m1 d1 : Nat) (a2 : Option Addr) (n2 c2 : Nat) (b2 : Option Addr) (m2 d2 : Nat) (k1 k2 : List UInt8) (M1 M2 : Nat)
    (h1 : Reads W (.slice a1 n1 c1) k1 M1) (h2 : Reads W (.slice a2 n2 c2) k2 M2) :
    Calls Tryz.prog 60 #[.agg #[.slice a1 n1 c1, .slice b1 m1 d1], .agg #[.slice a2 n2 c2, .slice b2 m2 d2]] W fun e w' => e = .returned (.int .i64 (Lib.compareBytes k1 k2)) ∧ ∃ q os', w' = grow (W.drewN q) os' := by
  have HC := Lib.hid (fun U (hU : Keeps [] W U) => Compare_any U _ _ _ _ M1 M2 (h1.keeps hU (by simp)) (h2.keeps hU (by simp)))
  clear h1 h2
  generalize Lib.compareBytes k1 k2 = q at *
  go_enter Tryz.func60, Tryz.ntmps60
  go_wp2_with (go_at_call 61; refine (HC.out _ ((Keeps.alloc [] W _).trans (Keeps.alloc [] _ _))).mono ?_; rintro e w' ⟨rfl, rfl⟩)
  go_ret
  exact ⟨rfl, 0, _, by rw [alloc_eq_grow, alloc_eq_grow, grow_grow]; rfl⟩
end Go.Proofs.YtlnmbfddhdjioaaGreat
