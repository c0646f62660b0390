/-
  Keys and values: a key looked up; All and Get.
  Keys and values: Set and Delete.
  Keys and values: Delete.
  Keys and values: Make; a flash with a ring.
-/
import Derived.Test.YtlnmbfddhdjioaaGreatCfgTurn
namespace Go.Proofs.YtlnmbfddhdjioaaGreat
open Go.RowKit

theorem EntsAt.mono {b b' : Nat} {w : World} {v : Value} {es : List Ent} (h : EntsAt b w v es) (hb : b' ≤ b) : EntsAt b' w v es := by
  obtain ⟨ao, cap, e, hc, h⟩ := h
  refine ⟨ao, cap, e, hc, fun i x hx => ?_⟩
  obtain ⟨g, kv, vv, h1, h2, h3, h4, h5, h6, h7⟩ := h i x hx
  exact ⟨g, kv, vv, h1, by omega, h3, h4, h5, h6.mono hb, h7.mono hb⟩

/-- A flash whose mask lies in a block that is there, or that has none. -/
def FlashE (w : World) (F B W : Nat) (s : FS) : Prop := ∃ M, FlashAt w F B W M s ∧ (s.mask = [] ∨ M < w.heap.size)

theorem FlashE.keeps {S : List Nat} {w w' : World} {F B W : Nat} {s : FS} (h : FlashE w F B W s) (hk : Keeps S w w') (hF : F ∉ S) (hB : B ∉ S) (hW : W ∉ S) (hS : ∀ x ∈ S, w.heap.size ≤ x) : FlashE w' F B W s := by
  obtain ⟨M, h1, h2⟩ := h
  have hs := hk.size
  by_cases hM : M ∈ S
  · rcases h2 with h2 | h2
    · obtain ⟨M', hM', hn⟩ : ∃ M', M' ∉ S ∧ (M' ≠ F ∧ M' ≠ B ∧ M' ≠ W) := by
        refine ⟨S.sum + F + B + W + 1, fun hin => ?_, by omega, by omega, by omega⟩
        have : ∀ l : List Nat, ∀ x ∈ l, x ≤ l.sum := by
          intro l; induction l with
          | nil => intro x hx; simp at hx
          | cons y r ih =>
            intro x hx
            rw [List.sum_cons]
            rcases List.mem_cons.1 hx with rfl | hx
            · omega
            · have := ih x hx; omega
        have := this S _ hin
        omega
      obtain ⟨cb, cw, mv, a1, a2, a3, a4⟩ := h1.here
      have h1' : FlashAt w F B W M' s := { h1 with nM := hn, here := ⟨cb, cw, mv, a1, a2, a3, by rw [h2] at a4 ⊢; exact a4.anyBlock M'⟩ }
      exact ⟨M', h1'.keeps hk hF hB hW hM', .inl h2⟩
    · have := hS M hM; omega
  · exact ⟨M, h1.keeps hk hF hB hW hM, h2.imp_right (fun h => by omega)⟩

theorem FlashE.keepsNil {S : List Nat} {w w' : World} {F B W : Nat} {s : FS} (h : FlashE w F B W s) (hm : s.mask = []) (hk : Keeps S w w') (hF : F ∉ S) (hB : B ∉ S) (hW : W ∉ S) : FlashE w' F B W s := by
  obtain ⟨M, h1, _⟩ := h
  obtain ⟨M', hM', hn⟩ : ∃ M', M' ∉ S ∧ (M' ≠ F ∧ M' ≠ B ∧ M' ≠ W) := by
    refine ⟨S.sum + F + B + W + 1, fun hin => ?_, by omega, by omega, by omega⟩
    have : ∀ l : List Nat, ∀ x ∈ l, x ≤ l.sum := by
      intro l; induction l with
      | nil => intro x hx; simp at hx
      | cons y r ih =>
        intro x hx
        rw [List.sum_cons]
        rcases List.mem_cons.1 hx with rfl | hx
        · omega
        · have := ih x hx; omega
    have := this S _ hin
    omega
  obtain ⟨cb, cw, mv, a1, a2, a3, a4⟩ := h1.here
  have h1' : FlashAt w F B W M' s := { h1 with nM := hn, here := ⟨cb, cw, mv, a1, a2, a3, by rw [hm] at a4 ⊢; exact a4.anyBlock M'⟩ }
  exact ⟨M', h1'.keeps hk hF hB hW hM', .inl hm⟩

theorem FlashE.away {w : World} {F B W : Nat} {s : FS} (h : FlashE w F B W s) (X : Nat) (hX : w.heap.size ≤ X) : ∃ M, FlashAt w F B W M s ∧ (s.mask = [] ∨ M < w.heap.size) ∧ M ≠ X := by
  obtain ⟨M, h1, h2⟩ := h
  by_cases hM : M = X
  · rcases h2 with h2 | h2
    · obtain ⟨cb, cw, mv, a1, a2, a3, a4⟩ := h1.here
      have hn : F + B + W + X + 1 ≠ F ∧ F + B + W + X + 1 ≠ B ∧ F + B + W + X + 1 ≠ W := ⟨by omega, by omega, by omega⟩
      exact ⟨F + B + W + X + 1, { h1 with nM := hn, here := ⟨cb, cw, mv, a1, a2, a3, by rw [h2] at a4 ⊢; exact a4.anyBlock _⟩ }, .inl h2, by omega⟩
    · omega
  · exact ⟨M, h1, h2, hM⟩

theorem FlashE.of {w : World} {F B W M : Nat} {s : FS} (h : FlashAt w F B W M s) (hm : s.mask = [] ∨ M < w.heap.size) : FlashE w F B W s := ⟨M, h, hm⟩
theorem FlashE.lt {w : World} {F B W : Nat} {s : FS} (h : FlashE w F B W s) : F < w.heap.size ∧ B < w.heap.size ∧ W < w.heap.size := by
  obtain ⟨M, h1, _⟩ := h; exact h1.lt

/-- A key looked up. -/
theorem look_any {base : Nat} {w : World} {B : Nat} {es : List Ent} (hm : MapAt base w B es) (k : List UInt8) (hk : k.length ≤ maxLen) :
    ∃ (ka : Option Addr) (kn kc : Nat) (va : Option Addr) (vn vc : Nat),
      (Instr.lookup 73 (.map (some B)) (.string ⟨k.toArray⟩) true).run Tryz.prog w = .ok (.tuple #[.agg #[.slice ka kn kc, .slice va vn vc], .bool (getK k es).isSome]) w ∧
      BytesAt base w (.slice va vn vc) ((getK k es).getD []) := by
  obtain ⟨zs, hz, rfl⟩ := hm
  obtain ⟨v, ps, hrun, hv⟩ := hz.own.look_ok strKeyed Tryz.underlying73 (zeroEntry w) (show tokE (.agg #[.slice none 0 0, .slice none 0 0]) = some (.held _, []) from rfl) (strKey k hk)
  rw [dat_has] at hrun
  rw [dat_at] at hv
  have hs : (getK k (mapK Prod.fst zs)).isSome = (getK k (mapK Prod.snd zs)).isSome := by rw [mapK_get, mapK_get]; simp
  rw [hs]
  rw [mapK_get] at hv ⊢
  rw [mapK_get]
  cases hg : getK k zs with
  | none =>
    rw [hg] at hv
    simp only [Option.map_none, Option.getD_none] at hv
    have : v = .agg #[.slice none 0 0, .slice none 0 0] := by unfold tokE at hv; simp at hv; exact hv.1
    subst this
    refine ⟨none, 0, 0, none, 0, 0, ?_, BytesAt.nil _ _⟩
    rw [hrun, mapK_get, hg]
  | some x =>
    rw [hg] at hv
    simp only [Option.map_some, Option.getD_some] at hv
    have : v = x.2 := by unfold tokE at hv; simp at hv; exact hv.1
    subst this
    obtain ⟨kv, vv, he, h1, h2⟩ := hz.ent (k, x) (get_mem hg)
    dsimp only at he h1 h2
    obtain ⟨ka, kc, rfl, _⟩ := h1.shape
    obtain ⟨va, vc, rfl, _⟩ := h2.shape
    refine ⟨ka, k.length, kc, va, x.1.length, vc, ?_, h2⟩
    rw [hrun, mapK_get, hg, he]

set_option maxRecDepth 100000 in
set_option maxHeartbeats 2000000 in
theorem All_ok {F B W N first n k i t : Nat} {es : List Ent} {s : FS} (w : World) (hF : FlashE w F B W s) (hc : Cfg N first n k i t es s) :
    Calls Tryz.prog 13 #[.pointer (some ⟨F, 0, none⟩), .agg #[.int .i64 first, .int .i64 n]] w fun e w' => ∃ v, e = .returned (.tuple #[v, .int .i64 0]) ∧ EntsAt w.heap.size w' v es ∧ Keeps [] w w' := by
  obtain ⟨M, hF, _⟩ := hF
  have hfit := hc.fit
  have hwl := hc.wl
  have hk := hc.top.2.1
  have hIU := fun U (hU : Keeps [] w U) => inUse_ok U (hF.keeps hU (by simp) (by simp) (by simp) (by simp)) hc.down first n k hc.n3 (by omega) (by omega) 1 (BitVec.ofNat 32 i) hc.new
  rw [hc.ents] at hIU
  have HIU := Lib.hid hIU
  have HC := Lib.hid hc
  clear hIU hF hc
  generalize ((BitVec.ofNat 32 i).toNat : Int) = xz at *
  generalize endK (sec s.bs k) = E at *
  go_enter Tryz.func13, Tryz.ntmps13
  go_upto_region 1 with (fail)
  generalize hV : World.alloc w _ = V
  have kV : Keeps [] w V := by rw [← hV]; exact Keeps.alloc [] _ _
  have wV : Whole V w.heap.size 25 [.int .i64 first, .int .i64 n] := by rw [← hV]; exact Whole.new w 25 [_, _]
  have v0 := (wV.cell 0).trans (show _ = some (Value.int .i64 (first : Int)) from rfl)
  have v1 := (wV.cell 1).trans (show _ = some (Value.int .i64 (n : Int)) from rfl)
  have KV := Lib.hid kV
  have nV := kV.size
  clear hV kV wV
  go_upto_region 2 with (go_at_call 31; refine (HIU.out _ KV.out).mono ?_; rintro e w1 ⟨g, cp, Bm, rfl, hg, hBm, hh1, hm1, k1⟩; have HM1 := Lib.hid hm1; have K1 := Lib.hid (KV.out.trans k1); have n1 := k1.size; clear k1 hh1 hm1)
  generalize hU : World.alloc w1 _ = U
  have kU : Keeps [] w1 U := by rw [← hU]; exact Keeps.alloc [] _ _
  have wU : Whole U w1.heap.size 75 [.slice (some ⟨g, 0, none⟩) n cp, .int .i64 k, .int .u8 1, .int .u32 xz, .int .i64 E, .map (some Bm)] := by rw [← hU]; exact Whole.new w1 75 [_, _, _, _, _, _]
  have v5 := (wU.cell 5).trans (show _ = some (Value.map (some Bm)) from rfl)
  have KU := Lib.hid (K1.out.trans kU)
  have HMU := Lib.hid (HM1.out.keeps kU (by simp) (by simp))
  have WU := Lib.hid wU
  have nU := kU.size
  have sU := wU.lt
  clear hU kU wU K1 HM1
  have hlen : es.length ≤ 100000 := by have := wtL_length es; have := HC.out.room.1; omega
  have HS := Lib.hid (fun X (hX : Keeps [] U X) => sorted_any X Bm (Bm + 1) es (HMU.out.keeps hX (by simp) (by simp)) (by have := hX.size; have := HMU.out.lt; omega) hlen)
  go_wp2_with (go_at_call 32; refine (HS.out _ (Keeps.refl [] _)).mono ?_; rintro e w2 ⟨v, rfl, he2, k2⟩; have HE2 := Lib.hid he2; have K2 := Lib.hid (KU.out.trans k2); clear he2 k2)
  go_ret2
  exact ⟨_, rfl, HE2.out.mono (by omega), K2.out⟩

set_option maxRecDepth 100000 in
set_option maxHeartbeats 2000000 in
theorem Get_ok {F B W N first n k i t : Nat} {es : List Ent} {s : FS} (w : World) (hF : FlashE w F B W s) (hc : Cfg N first n k i t es s) (kv : Value) (ky : List UInt8) (Mk : Nat) (hky : Reads w kv ky Mk) (hkl : ky.length ≤ maxLen) :
    Calls Tryz.prog 15 #[.pointer (some ⟨F, 0, none⟩), .agg #[.int .i64 first, .int .i64 n], kv] w fun e w' => ∃ va vn vc, e = .returned (.tuple #[.slice va vn vc, .bool (getK ky es).isSome, .int .i64 0]) ∧ BytesAt w.heap.size w' (.slice va vn vc) ((getK ky es).getD []) ∧ Keeps [] w w' := by
  obtain ⟨M, hF, _⟩ := hF
  have hfit := hc.fit
  have hwl := hc.wl
  have hk := hc.top.2.1
  have hIU := fun U (hU : Keeps [] w U) => inUse_ok U (hF.keeps hU (by simp) (by simp) (by simp) (by simp)) hc.down first n k hc.n3 (by omega) (by omega) 1 (BitVec.ofNat 32 i) hc.new
  rw [hc.ents] at hIU
  have HIU := Lib.hid hIU
  obtain ⟨ka0, kc0, rfl, _⟩ := hky.shape
  have HKY := Lib.hid hky
  obtain ⟨ok, hok⟩ : ∃ ok, ok = (getK ky es).isSome := ⟨_, rfl⟩
  have HOK := Lib.hid hok
  rw [← hok]
  clear hIU hF hc hky hok
  generalize ((BitVec.ofNat 32 i).toNat : Int) = xz at *
  generalize endK (sec s.bs k) = E at *
  go_enter Tryz.func15, Tryz.ntmps15
  go_upto_region 1 with (fail)
  generalize hV : World.alloc w _ = V
  have kV : Keeps [] w V := by rw [← hV]; exact Keeps.alloc [] _ _
  have wV : Whole V w.heap.size 25 [.int .i64 first, .int .i64 n] := by rw [← hV]; exact Whole.new w 25 [_, _]
  have v0 := (wV.cell 0).trans (show _ = some (Value.int .i64 (first : Int)) from rfl)
  have v1 := (wV.cell 1).trans (show _ = some (Value.int .i64 (n : Int)) from rfl)
  have KV := Lib.hid kV
  have nV := kV.size
  clear hV kV wV
  go_upto_region 2 with (go_at_call 31; refine (HIU.out _ KV.out).mono ?_; rintro e w1 ⟨g, cp, Bm, rfl, hg, hBm, hh1, hm1, k1⟩; have HM1 := Lib.hid hm1; have K1 := Lib.hid (KV.out.trans k1); have n1 := k1.size; clear k1 hh1 hm1)
  generalize hU : World.alloc w1 _ = U
  have kU : Keeps [] w1 U := by rw [← hU]; exact Keeps.alloc [] _ _
  have wU : Whole U w1.heap.size 75 [.slice (some ⟨g, 0, none⟩) n cp, .int .i64 k, .int .u8 1, .int .u32 xz, .int .i64 E, .map (some Bm)] := by rw [← hU]; exact Whole.new w1 75 [_, _, _, _, _, _]
  have v5 := (wU.cell 5).trans (show _ = some (Value.map (some Bm)) from rfl)
  have KU := Lib.hid (K1.out.trans kU)
  have HMU := Lib.hid (HM1.out.keeps kU (by simp) (by simp))
  have WU := Lib.hid wU
  have nU := kU.size
  have sU := wU.lt
  clear hU kU wU K1 HM1
  obtain ⟨ka, kn, kc, va, vn, vc, hrun, hbv⟩ := look_any HMU.out ky hkl
  have hcv := conv_reads ((HKY.out).keeps KU.out (by simp))
  have HBV := Lib.hid hbv
  clear hbv
  rw [← HOK.out] at hrun
  go_wp2
  go_ret3
  exact ⟨va, vn, vc, rfl, (HBV.out.keeps (S := []) (Keeps.alloc [] _ _) (by simp)).mono (by omega), KU.out.trans (Keeps.alloc [] _ _)⟩
end Go.Proofs.YtlnmbfddhdjioaaGreat

namespace Go.Proofs.YtlnmbfddhdjioaaGreat
open Go.RowKit

theorem six_cells {w : World} {Z : Nat} {T : TypeId} {a b c d e f : Value} (h : Whole w Z T [a, b, c, d, e, f]) : w.cell? ⟨Z, 0, none⟩ = some a ∧ w.cell? ⟨Z, 1, none⟩ = some b ∧ w.cell? ⟨Z, 2, none⟩ = some c ∧ w.cell? ⟨Z, 3, none⟩ = some d ∧ w.cell? ⟨Z, 4, none⟩ = some e ∧ w.cell? ⟨Z, 5, none⟩ = some f :=
  ⟨h.cell 0, h.cell 1, h.cell 2, h.cell 3, h.cell 4, h.cell 5⟩

theorem sub4 {F B W Bm z : Nat} (h : z ≤ Bm) : ∀ x ∈ [F, B, W, Bm], x ∈ [F, B, W] ∨ z ≤ x := by
  intro x hx
  by_cases hB : x = Bm
  · exact .inr (by omega)
  · left; simp at hx ⊢; omega

theorem map_no_cell {base : Nat} {w : World} {B : Nat} {es : List Ent} (h : MapAt base w B es) (i : Nat) : w.cell? ⟨B, i, none⟩ = none := by
  obtain ⟨zs, hz, _⟩ := h
  obtain ⟨es', clock, hb, _⟩ := hz.own
  unfold World.cell?
  rw [show w.heap[(⟨B, i, none⟩ : Addr).block]? = some (.map es' clock) from hb]

theorem hdrs_not_map {base : Nat} {w : World} {g n cp B : Nat} {hs : List Hdr} {es : List Ent} (h : HdrsAt w (.slice (some ⟨g, 0, none⟩) n cp) hs) (hn : 0 < hs.length) (hm : MapAt base w B es) : g ≠ B := by
  obtain ⟨ao, cap, he, _, hc⟩ := h
  obtain ⟨x, hx⟩ : ∃ x, hs[0]? = some x := ⟨_, List.getElem?_eq_getElem hn⟩
  obtain ⟨g', h1, _, h2, _⟩ := hc 0 x hx
  cases he
  cases h1
  rintro rfl
  rw [map_no_cell hm] at h2
  cases h2

theorem Cfg.change_mask {N first n k i t : Nat} {es : List Ent} {s : FS} (h : Cfg N first n k i t es s) (x : BitVec 32) (p : List UInt8) (hp : p.length ≤ 200) (es' : List Ent) (hg : Good es') :
    (s.change first n k x p es').1.mask = s.mask ∨ (s.change first n k x p es').1.mask = [] := by
  unfold FS.change
  split
  · exact .inl rfl
  · split
    · obtain ⟨s', e, q, d, h1, h2, _⟩ := h.turn es' hg (by omega) (x + 1#32)
      rw [h1]; exact h2.went.mask
    · obtain ⟨s', e, h1, h2, _⟩ := h.append p hp (by omega)
      rw [h1]; exact h2.mask

/-- A change, of a flash whose mask may lie anywhere. -/
theorem change_ok {F B W N first n k i t : Nat} {es : List Ent} {s : FS} (w : World) (hF : FlashE w F B W s) (hc : Cfg N first n k i t es s) (hN : N ≤ 256) (ht : t < 1000000) (p : List UInt8) (hpl : p.length ≤ 200) (gf : List Ent → List Ent) (hg : Good (gf es)) (hgl : wtL (gf es) ≤ 1000) (x : BitVec 32)
    (U : World) (g cp Bm : Nat) (f pv : Value) (hU : Keeps [] w U) (hb : w.heap.size ≤ Bm) (hgB : g ≠ Bm) (hh : HdrsAt U (.slice (some ⟨g, 0, none⟩) n cp) (lookL s.bs first n)) (hm : MapAt (Bm + 1) U Bm es) (hf : BecFn (Bm + 1) U f Bm gf) (hp : BytesAt (Bm + 1) U pv p) :
    Calls Tryz.prog 50 #[.agg #[.slice (some ⟨g, 0, none⟩) n cp, .int .i64 k, .int .u8 1, .int .u32 (x.toNat : Int), .int .i64 (endK (sec s.bs k)), .map (some Bm)], .pointer (some ⟨F, 0, none⟩), pv, f] U fun e w' =>
      e = .returned (.int .i64 (s.change first n k x p (gf es)).2) ∧ FlashE w' F B W (s.change first n k x p (gf es)).1 ∧ Keeps [F, B, W, Bm] U w' := by
  have hlt := hF.lt
  obtain ⟨M, hM, hM2, hM3⟩ := hF.away Bm hb
  refine (change_any U (hM.keeps hU (by simp) (by simp) (by simp) (by simp)) hc Bm g cp 1 x gf f pv p hh hm hf hp hpl hg hgl ⟨by omega, by omega, by omega, hgB, hM3⟩ hN ht).mono ?_
  rintro e w' ⟨he, h1, h2⟩
  refine ⟨he, ⟨M, h1, ?_⟩, h2⟩
  have := hU.size
  have := h2.size
  rcases hM2 with h | h
  · rcases hc.change_mask x p hpl (gf es) hg with h3 | h3
    · exact .inl (by rw [h3, h])
    · exact .inl h3
  · exact .inr (by omega)

set_option maxRecDepth 100000 in
set_option maxHeartbeats 2000000 in
theorem Set_arg {F B W N first n k i t : Nat} {es : List Ent} {s : FS} (w : World) (hF : FlashE w F B W s) (hc : Cfg N first n k i t es s) (kv vv : Value) (ky vl : List UInt8) (hk0 : BytesAt 0 w kv ky) (hv0 : BytesAt 0 w vv vl) (h0 : weightL ky vl = 0) :
    Calls Tryz.prog 26 #[.pointer (some ⟨F, 0, none⟩), .agg #[.int .i64 first, .int .i64 n], kv, vv] w fun e w' => e = .returned (.int .i64 2) ∧ Keeps [] w w' := by
  have hFE := hF
  obtain ⟨M, hF, _⟩ := hF
  have hfit := hc.fit
  have hwl := hc.wl
  have hk := hc.top.2.1
  have hIU := fun U (hU : Keeps [] w U) => inUse_ok U (hF.keeps hU (by simp) (by simp) (by simp) (by simp)) hc.down first n k hc.n3 (by omega) (by omega) 1 (BitVec.ofNat 32 i) hc.new
  rw [hc.ents] at hIU
  have HIU := Lib.hid hIU
  have HFE := Lib.hid hFE
  obtain ⟨ka0, kc0, rfl, _⟩ := hk0.shape
  obtain ⟨va0, vc0, rfl, _⟩ := hv0.shape
  have HK0 := Lib.hid hk0
  have HV0 := Lib.hid hv0
  have HWT := Lib.hid (fun U (hU : Keeps [] w U) (hz : 0 < U.heap.size) => Weight_any U _ _ ky vl 0 0 (hk0.keeps hU (by simp)) (hv0.keeps hU (by simp)) hz)
  rw [h0] at HWT
  clear hIU hF hc hFE hk0 hv0
  generalize ((BitVec.ofNat 32 i).toNat : Int) = xz at *
  generalize endK (sec s.bs k) = E at *
  go_enter Tryz.func26, Tryz.ntmps26
  go_upto_region 1 with (fail)
  generalize hV : World.alloc w _ = V
  have kV : Keeps [] w V := by rw [← hV]; exact Keeps.alloc [] _ _
  have wV : Whole V w.heap.size 25 [.int .i64 first, .int .i64 n] := by rw [← hV]; exact Whole.new w 25 [_, _]
  have v0 := (wV.cell 0).trans (show _ = some (Value.int .i64 (first : Int)) from rfl)
  have v1 := (wV.cell 1).trans (show _ = some (Value.int .i64 (n : Int)) from rfl)
  have KV := Lib.hid kV
  have nV := kV.size
  clear hV kV wV
  go_upto_region 2 with (go_at_call 31; refine (HIU.out _ KV.out).mono ?_; rintro e w1 ⟨g, cp, Bm, rfl, hg, hBm, hh1, hm1, k1⟩; have HM1 := Lib.hid hm1; have K1 := Lib.hid (KV.out.trans k1); have n1 := k1.size; clear k1 hh1 hm1)
  generalize hU : World.alloc w1 _ = U
  have kU : Keeps [] w1 U := by rw [← hU]; exact Keeps.alloc [] _ _
  have wU : Whole U w1.heap.size 75 [.slice (some ⟨g, 0, none⟩) n cp, .int .i64 k, .int .u8 1, .int .u32 xz, .int .i64 E, .map (some Bm)] := by rw [← hU]; exact Whole.new w1 75 [_, _, _, _, _, _]
  have v5 := (wU.cell 5).trans (show _ = some (Value.map (some Bm)) from rfl)
  have KU := Lib.hid (K1.out.trans kU)
  have HMU := Lib.hid (HM1.out.keeps kU (by simp) (by simp))
  have WU := Lib.hid wU
  have nU := kU.size
  have sU := wU.lt
  clear hU kU wU K1 HM1
  go_wp2_with (go_at_call 11; refine (HWT.out _ KU.out (by omega)).mono ?_; rintro e w2 ⟨rfl, k2⟩; have K2 := Lib.hid (KU.out.trans k2); have K2U := Lib.hid k2; have n2 := k2.size; clear k2)
  go_ret
  exact ⟨rfl, K2.out⟩

set_option maxRecDepth 100000 in
set_option maxHeartbeats 2000000 in
theorem Set_same {F B W N first n k i t : Nat} {es : List Ent} {s : FS} (w : World) (hF : FlashE w F B W s) (hc : Cfg N first n k i t es s) (kv vv : Value) (ky vl : List UInt8) (hk0 : BytesAt 0 w kv ky) (hv0 : BytesAt 0 w vv vl) (h0 : weightL ky vl ≠ 0) (hs : getK ky es = some vl) :
    Calls Tryz.prog 26 #[.pointer (some ⟨F, 0, none⟩), .agg #[.int .i64 first, .int .i64 n], kv, vv] w fun e w' => e = .returned (.int .i64 0) ∧ Keeps [] w w' := by
  have hFE := hF
  obtain ⟨M, hF, _⟩ := hF
  have hfit := hc.fit
  have hwl := hc.wl
  have hk := hc.top.2.1
  have hIU := fun U (hU : Keeps [] w U) => inUse_ok U (hF.keeps hU (by simp) (by simp) (by simp) (by simp)) hc.down first n k hc.n3 (by omega) (by omega) 1 (BitVec.ofNat 32 i) hc.new
  rw [hc.ents] at hIU
  have HIU := Lib.hid hIU
  have HFE := Lib.hid hFE
  obtain ⟨ka0, kc0, rfl, _⟩ := hk0.shape
  obtain ⟨va0, vc0, rfl, _⟩ := hv0.shape
  have HK0 := Lib.hid hk0
  have HV0 := Lib.hid hv0
  have HWT := Lib.hid (fun U (hU : Keeps [] w U) (hz : 0 < U.heap.size) => Weight_any U _ _ ky vl 0 0 (hk0.keeps hU (by simp)) (hv0.keeps hU (by simp)) hz)
  have hkl : ky.length ≤ maxLen := by unfold weightL at h0; split at h0 <;> simp_all <;> unfold maxLen <;> omega
  obtain ⟨wl, hwl'⟩ : ∃ wl, wl = weightL ky vl := ⟨_, rfl⟩
  rw [← hwl'] at HWT h0
  have hwz : ((wl : Int) == 0) = false := by simp; omega
  have hwz2 : (wl == 0) = false := by simp; omega
  have HS := Lib.hid hs
  clear hIU hF hc hFE hk0 hv0 hwl' hs
  generalize ((BitVec.ofNat 32 i).toNat : Int) = xz at *
  generalize endK (sec s.bs k) = E at *
  go_enter Tryz.func26, Tryz.ntmps26
  go_upto_region 1 with (fail)
  generalize hV : World.alloc w _ = V
  have kV : Keeps [] w V := by rw [← hV]; exact Keeps.alloc [] _ _
  have wV : Whole V w.heap.size 25 [.int .i64 first, .int .i64 n] := by rw [← hV]; exact Whole.new w 25 [_, _]
  have v0 := (wV.cell 0).trans (show _ = some (Value.int .i64 (first : Int)) from rfl)
  have v1 := (wV.cell 1).trans (show _ = some (Value.int .i64 (n : Int)) from rfl)
  have KV := Lib.hid kV
  have nV := kV.size
  clear hV kV wV
  go_upto_region 2 with (go_at_call 31; refine (HIU.out _ KV.out).mono ?_; rintro e w1 ⟨g, cp, Bm, rfl, hg, hBm, hh1, hm1, k1⟩; have HM1 := Lib.hid hm1; have K1 := Lib.hid (KV.out.trans k1); have n1 := k1.size; clear k1 hh1 hm1)
  generalize hU : World.alloc w1 _ = U
  have kU : Keeps [] w1 U := by rw [← hU]; exact Keeps.alloc [] _ _
  have wU : Whole U w1.heap.size 75 [.slice (some ⟨g, 0, none⟩) n cp, .int .i64 k, .int .u8 1, .int .u32 xz, .int .i64 E, .map (some Bm)] := by rw [← hU]; exact Whole.new w1 75 [_, _, _, _, _, _]
  have v5 := (wU.cell 5).trans (show _ = some (Value.map (some Bm)) from rfl)
  have KU := Lib.hid (K1.out.trans kU)
  have HMU := Lib.hid (HM1.out.keeps kU (by simp) (by simp))
  have WU := Lib.hid wU
  have nU := kU.size
  have sU := wU.lt
  clear hU kU wU K1 HM1
  go_upto_region 6 with (go_at_call 11; refine (HWT.out _ KU.out (by omega)).mono ?_; rintro e w2 ⟨rfl, k2⟩; have K2 := Lib.hid (KU.out.trans k2); have K2U := Lib.hid k2; have n2 := k2.size; clear k2)
  have v5 := (WU.out.keeps K2U.out (by simp) |>.cell 5).trans (show _ = some (Value.map (some Bm)) from rfl)
  obtain ⟨ka, kn, kc, va, vn, vc, hrun, hbv⟩ := look_any (HMU.out.keeps K2U.out (by simp) (by simp)) ky hkl
  rw [HS.out] at hrun hbv
  simp only [Option.isSome_some, Option.getD_some] at hrun hbv
  obtain ⟨Mk, hMk, _⟩ := HK0.out
  have hcv := conv_reads (hMk.keeps K2.out (by simp))
  have HBV := Lib.hid hbv
  clear hbv hMk
  go_wp2_with (go_at_call 52; obtain ⟨M1, r1, _⟩ := HBV.out.keeps (S := []) (Keeps.alloc [] w2 _) (by simp); obtain ⟨M2, r2, _⟩ := (HV0.out.keeps K2.out (by simp)).keeps (S := []) (Keeps.alloc [] w2 _) (by simp); refine (Equal_any _ _ _ vl vl M1 M2 r1 r2).mono ?_; rintro e w3 ⟨rfl, rfl⟩; clear r1 r2)
  go_ret
  exact ⟨rfl, K2.out.trans (Keeps.alloc [] _ _)⟩

set_option maxRecDepth 100000 in
set_option maxHeartbeats 2000000 in
theorem Set_change {F B W N first n k i t : Nat} {es : List Ent} {s : FS} (w : World) (hF : FlashE w F B W s) (hc : Cfg N first n k i t es s) (hN : N ≤ 256) (ht : t < 1000000) (kv vv : Value) (ky vl : List UInt8) (hk0 : BytesAt 0 w kv ky) (hv0 : BytesAt 0 w vv vl) (h0 : weightL ky vl ≠ 0) (hs : getK ky es ≠ some vl) :
    Calls Tryz.prog 26 #[.pointer (some ⟨F, 0, none⟩), .agg #[.int .i64 first, .int .i64 n], kv, vv] w fun e w' => e = .returned (.int .i64 (s.change first n k (BitVec.ofNat 32 i) (payL 1 ky vl) (putK ky vl es)).2) ∧ FlashE w' F B W (s.change first n k (BitVec.ofNat 32 i) (payL 1 ky vl) (putK ky vl es)).1 ∧ Keeps [F, B, W] w w' := by
  have hFE := hF
  obtain ⟨M, hF, _⟩ := hF
  have hfit := hc.fit
  have hwl := hc.wl
  have hk := hc.top.2.1
  have hIU := fun U (hU : Keeps [] w U) => inUse_ok U (hF.keeps hU (by simp) (by simp) (by simp) (by simp)) hc.down first n k hc.n3 (by omega) (by omega) 1 (BitVec.ofNat 32 i) hc.new
  rw [hc.ents] at hIU
  have HIU := Lib.hid hIU
  have HFE := Lib.hid hFE
  obtain ⟨ka0, kc0, rfl, _⟩ := hk0.shape
  obtain ⟨va0, vc0, rfl, _⟩ := hv0.shape
  have HK0 := Lib.hid hk0
  have HV0 := Lib.hid hv0
  have HWT := Lib.hid (fun U (hU : Keeps [] w U) (hz : 0 < U.heap.size) => Weight_any U _ _ ky vl 0 0 (hk0.keeps hU (by simp)) (hv0.keeps hU (by simp)) hz)
  have hoke : OkE (ky, vl) := by
    unfold weightL at h0
    split at h0
    · rename_i h; exact ⟨h.1.1, h.1.2, h.2⟩
    · simp at h0
  have hk16 := hoke.k16
  have hv64 := hoke.v64
  dsimp only at hk16 hv64
  have hkl : ky.length ≤ maxLen := by unfold maxLen; omega
  obtain ⟨wl, hwl'⟩ : ∃ wl, wl = weightL ky vl := ⟨_, rfl⟩
  rw [← hwl'] at HWT h0
  have hwz : ((wl : Int) == 0) = false := by simp; omega
  have hwz2 : (wl == 0) = false := by simp; omega
  have HS := Lib.hid hs
  have HLK := Lib.hid (lookL_length s.bs first n)
  have hn3 := hc.n3
  have hCH := change_ok w hFE hc hN ht (payL 1 ky vl) (payE_le hoke) (putK ky vl) (hc.good.put hoke) (by rw [wtL_put]; have h1 := wtL_del_le ky es; have h2 := hc.room.1; have h3 := wE_le hoke; omega) (BitVec.ofNat 32 i)
  obtain ⟨sT, eT, hT⟩ : ∃ sT eT, s.change first n k (BitVec.ofNat 32 i) (payL 1 ky vl) (putK ky vl es) = (sT, eT) := ⟨_, _, rfl⟩
  rw [hT] at hCH ⊢
  dsimp only at hCH ⊢
  have HCH := Lib.hid hCH
  have HPL := Lib.hid (show ∀ U, Keeps [] w U → 0 < U.heap.size → Calls Tryz.prog 29 #[.int .u8 1, .slice ka0 ky.length kc0, .slice va0 vl.length vc0] U fun e w' => ∃ u, e = .returned u ∧ w'.ownsRow U.heap.size 5 1 u (2 + ky.length + vl.length) ((payL 1 ky vl).map bv) ∧ Keeps [] U w' from
    fun U hU hz => payload_any U 1 _ _ ky vl 0 0 (hk0.keeps hU (by simp)) (hv0.keeps hU (by simp)) (by omega) (by omega) hz)
  have HPU := Lib.hid (show ∀ U, Keeps [] w U → ∀ Bm, Calls Tryz.prog 53 #[.map (some Bm), .slice ka0 ky.length kc0, .slice va0 vl.length vc0] U fun e w' => ∃ f, e = .returned f ∧ PutFn U.heap.size w' f Bm ky vl ∧ Keeps [] U w' from fun U hU Bm => by obtain ⟨Mk, rk, _⟩ := hk0; obtain ⟨Mv, rv, _⟩ := hv0; exact put_any U Bm _ _ ky vl Mk Mv (rk.keeps hU (by simp)) (rv.keeps hU (by simp)) (by omega) (by omega))
  clear hIU hF hc hFE hk0 hv0 hwl' hs hCH hT hoke
  generalize ((BitVec.ofNat 32 i).toNat : Int) = xz at *
  generalize endK (sec s.bs k) = E at *
  go_enter Tryz.func26, Tryz.ntmps26
  go_upto_region 1 with (fail)
  generalize hV : World.alloc w _ = V
  have kV : Keeps [] w V := by rw [← hV]; exact Keeps.alloc [] _ _
  have wV : Whole V w.heap.size 25 [.int .i64 first, .int .i64 n] := by rw [← hV]; exact Whole.new w 25 [_, _]
  have v0 := (wV.cell 0).trans (show _ = some (Value.int .i64 (first : Int)) from rfl)
  have v1 := (wV.cell 1).trans (show _ = some (Value.int .i64 (n : Int)) from rfl)
  have KV := Lib.hid kV
  have nV := kV.size
  clear hV kV wV
  go_upto_region 2 with (go_at_call 31; refine (HIU.out _ KV.out).mono ?_; rintro e w1 ⟨g, cp, Bm, rfl, hg, hBm, hh1, hm1, k1⟩; have hgB := hdrs_not_map hh1 (by rw [HLK.out]; omega) hm1; have hBZ := hm1.lt; have HM1 := Lib.hid hm1; have HH1 := Lib.hid hh1; have K1 := Lib.hid (KV.out.trans k1); have n1 := k1.size; clear k1 hh1 hm1)
  generalize hU : World.alloc w1 _ = U
  have kU : Keeps [] w1 U := by rw [← hU]; exact Keeps.alloc [] _ _
  have wU : Whole U w1.heap.size 75 [.slice (some ⟨g, 0, none⟩) n cp, .int .i64 k, .int .u8 1, .int .u32 xz, .int .i64 E, .map (some Bm)] := by rw [← hU]; exact Whole.new w1 75 [_, _, _, _, _, _]
  have v5 := (wU.cell 5).trans (show _ = some (Value.map (some Bm)) from rfl)
  have KU := Lib.hid (K1.out.trans kU)
  have HMU := Lib.hid (HM1.out.keeps kU (by simp) (by simp))
  have WU := Lib.hid wU
  have HHU := Lib.hid (HH1.out.keeps kU (by simp))
  have nU := kU.size
  have sU := wU.lt
  clear hU kU wU K1 HM1 HH1
  go_upto_region 6 with (go_at_call 11; refine (HWT.out _ KU.out (by omega)).mono ?_; rintro e w2 ⟨rfl, k2⟩; have K2 := Lib.hid (KU.out.trans k2); have K2U := Lib.hid k2; have n2 := k2.size; clear k2)
  have v5 := (WU.out.keeps K2U.out (by simp) |>.cell 5).trans (show _ = some (Value.map (some Bm)) from rfl)
  obtain ⟨ka, kn, kc, va, vn, vc, hrun, hbv⟩ := look_any (HMU.out.keeps K2U.out (by simp) (by simp)) ky hkl
  obtain ⟨Mk, hMk, _⟩ := HK0.out
  have hcv := conv_reads (hMk.keeps K2.out (by simp))
  have HBV := Lib.hid hbv
  clear hbv hMk
  go_upto_region 7 with (fail)
  generalize hX : World.alloc w2 _ = X
  have kX : Keeps [] w2 X := by rw [← hX]; exact Keeps.alloc [] _ _
  have wX : Whole X w2.heap.size 51 [.slice ka kn kc, .slice va vn vc] := by rw [← hX]; exact Whole.new w2 51 [_, _]
  have x1 := (wX.cell 1).trans (show _ = some (Value.slice va vn vc) from rfl)
  have KX := Lib.hid (K2.out.trans kX)
  have KUX := Lib.hid (K2U.out.trans kX)
  have HBX := Lib.hid (HBV.out.keeps kX (by simp))
  have nX := kX.size
  clear hX kX wX hrun
  have HWX := Lib.hid (WU.out.keeps KUX.out (by simp))
  have HMX := Lib.hid (HMU.out.keeps KUX.out (by simp) (by simp))
  have HHX := Lib.hid (HHU.out.keeps KUX.out (by simp))
  have hne : getK ky es = none ∨ ∃ v0, getK ky es = some v0 ∧ (v0 == vl) = false := by
    cases hg : getK ky es with
    | none => exact .inl rfl
    | some v0 => exact .inr ⟨v0, rfl, by have := HS.out; rw [hg] at this; simpa using this⟩
  obtain ⟨ok, hok⟩ : ∃ ok, ok = (getK ky es).isSome := ⟨_, rfl⟩
  rw [← hok]
  obtain ⟨gv, hgv⟩ : ∃ gv, gv = (getK ky es).getD [] := ⟨_, rfl⟩
  rw [← hgv] at HBX
  have hok2 : ok = false ∨ (ok = true ∧ (gv == vl) = false) := by
    rcases hne with h | ⟨v0, h, h2⟩
    · left; rw [hok, h]; rfl
    · right; rw [hok, hgv, h]; exact ⟨rfl, h2⟩
  clear hok hgv hne HBV
  rcases hok2 with rfl | ⟨rfl, hgne⟩
  all_goals
   go_upto_region 9 with (go_at_call 52; obtain ⟨M1, r1, _⟩ := HBX.out; obtain ⟨M2, r2, _⟩ := HV0.out.keeps KX.out (by simp); refine (Equal_any _ _ _ gv vl M1 M2 r1 r2).mono ?_; rintro e w3 ⟨rfl, rfl⟩; clear r1 r2; rw [hgne])
   have kD : Keeps [] X X.drew := Keeps.drew [] X
   have KD := Lib.hid (KX.out.trans kD)
   have HWD := Lib.hid (HWX.out.keeps kD (by simp))
   have HMD := Lib.hid (HMX.out.keeps kD (by simp) (by simp))
   have HHD := Lib.hid (HHX.out.keeps kD (by simp))
   have nD := kD.size
   clear kD
   generalize w1.heap.size = Z at *
   have S0 := Lib.hid (six_cells HWD.out)
   go_region_held3 (fun w' => w'.cell? ⟨Z, 0, none⟩ = some (.slice (some ⟨g, 0, none⟩) n cp) ∧ w'.cell? ⟨Z, 1, none⟩ = some (.int .i64 (k : Int)) ∧ w'.cell? ⟨Z, 2, none⟩ = some (.int .u8 1) ∧ w'.cell? ⟨Z, 3, none⟩ = some (.int .u32 xz) ∧ w'.cell? ⟨Z, 4, none⟩ = some (.int .i64 (E : Int)) ∧ w'.cell? ⟨Z, 5, none⟩ = some (.map (some Bm)))
     (first | exact S0.out | exact S4.out | exact S5.out | exact S6.out)
     (first
      | (go_at_call 29; refine (HPL.out _ KD.out (by omega)).mono ?_; rintro e w4 ⟨u, rfl, ho, k4⟩; obtain ⟨ua, uc, rfl, huc⟩ := BytesAt.shape (BytesAt.owns ho (by have := k4.size; omega)); have HP4 := Lib.hid ((BytesAt.owns ho (by have := k4.size; omega)).mono (b' := Bm + 1) (by have := HMD.out.lt; omega)); have K4 := Lib.hid (KD.out.trans k4); have HW4 := Lib.hid (HWD.out.keeps k4 (by simp)); have S4 := Lib.hid (six_cells HW4.out); have HM4 := Lib.hid (HMD.out.keeps k4 (by simp) (by simp)); have HH4 := Lib.hid (HHD.out.keeps k4 (by simp)); have n4 := k4.size; clear k4 ho)
      | (go_at_call 53; refine (HPU.out _ K4.out Bm).mono ?_; rintro e w5 ⟨f, rfl, hf5, k5⟩; have HF5 := Lib.hid (show BecFn (Bm + 1) w5 f Bm (putK ky vl) from .inl ⟨ky, vl, hf5.mono (by have := HM4.out.lt; omega), by omega, rfl⟩); have K5 := Lib.hid (K4.out.trans k5); have HW5 := Lib.hid (HW4.out.keeps k5 (by simp)); have S5 := Lib.hid (six_cells HW5.out); have HM5 := Lib.hid (HM4.out.keeps k5 (by simp) (by simp)); have HH5 := Lib.hid (HH4.out.keeps k5 (by simp)); have HP5 := Lib.hid (HP4.out.keeps k5 (by simp)); have n5 := k5.size; clear k5 hf5)
      | (go_at_call 50; refine (HCH.out _ g cp Bm _ _ K5.out (by omega) hgB HH5.out HM5.out HF5.out HP5.out).mono ?_; rintro e w6 ⟨rfl, hf6, k6⟩; have HF6 := Lib.hid hf6; have K6 := Lib.hid k6; have HW6 := Lib.hid (HW5.out.keeps k6 (by have := HFE.out.lt; simp; omega)); have S6 := Lib.hid (six_cells HW6.out); clear k6 hf6))
   go_wp2
   go_ret
   exact ⟨rfl, HF6.out, (K5.out.mono (T := [F, B, W]) (by simp)).then K6.out (sub4 (by omega))⟩
end Go.Proofs.YtlnmbfddhdjioaaGreat

namespace Go.Proofs.YtlnmbfddhdjioaaGreat
open Go.RowKit

set_option maxRecDepth 100000 in
set_option maxHeartbeats 2000000 in
theorem Del_arg {F B W N first n k i t : Nat} {es : List Ent} {s : FS} (w : World) (hF : FlashE w F B W s) (hc : Cfg N first n k i t es s) (kv : Value) (ky : List UInt8) (hk0 : BytesAt 0 w kv ky) (h0 : ¬ (1 ≤ ky.length ∧ ky.length ≤ 16)) :
    Calls Tryz.prog 25 #[.pointer (some ⟨F, 0, none⟩), .agg #[.int .i64 first, .int .i64 n], kv] w fun e w' => e = .returned (.int .i64 2) ∧ Keeps [] w w' := by

  have hFE := hF
  obtain ⟨M, hF, _⟩ := hF
  have hfit := hc.fit
  have hwl := hc.wl
  have hk := hc.top.2.1
  have hIU := fun U (hU : Keeps [] w U) => inUse_ok U (hF.keeps hU (by simp) (by simp) (by simp) (by simp)) hc.down first n k hc.n3 (by omega) (by omega) 1 (BitVec.ofNat 32 i) hc.new
  rw [hc.ents] at hIU
  have HIU := Lib.hid hIU
  obtain ⟨ka0, kc0, rfl, _⟩ := hk0.shape
  obtain ⟨Mk0, rk0, _⟩ := hk0
  have HAL := Lib.hid (fun U (hU : Keeps [] w U) => allowed_any U _ ky Mk0 (rk0.keeps hU (by simp)))
  have hd0 : decide (1 ≤ ky.length ∧ ky.length ≤ 16) = false := by simpa using h0
  rw [hd0] at HAL
  clear hIU hF hc hFE rk0 hd0
  generalize ((BitVec.ofNat 32 i).toNat : Int) = xz at *
  generalize endK (sec s.bs k) = E at *
  go_enter Tryz.func25, Tryz.ntmps25
  go_upto_region 1 with (fail)
  generalize hV : World.alloc w _ = V
  have kV : Keeps [] w V := by rw [← hV]; exact Keeps.alloc [] _ _
  have wV : Whole V w.heap.size 25 [.int .i64 first, .int .i64 n] := by rw [← hV]; exact Whole.new w 25 [_, _]
  have v0 := (wV.cell 0).trans (show _ = some (Value.int .i64 (first : Int)) from rfl)
  have v1 := (wV.cell 1).trans (show _ = some (Value.int .i64 (n : Int)) from rfl)
  have KV := Lib.hid kV
  have nV := kV.size
  clear hV kV wV
  go_upto_region 2 with (go_at_call 31; refine (HIU.out _ KV.out).mono ?_; rintro e w1 ⟨g, cp, Bm, rfl, hg, hBm, hh1, hm1, k1⟩; have HM1 := Lib.hid hm1; have K1 := Lib.hid (KV.out.trans k1); have n1 := k1.size; clear k1 hh1 hm1)
  generalize hU : World.alloc w1 _ = U
  have kU : Keeps [] w1 U := by rw [← hU]; exact Keeps.alloc [] _ _
  have wU : Whole U w1.heap.size 75 [.slice (some ⟨g, 0, none⟩) n cp, .int .i64 k, .int .u8 1, .int .u32 xz, .int .i64 E, .map (some Bm)] := by rw [← hU]; exact Whole.new w1 75 [_, _, _, _, _, _]
  have v5 := (wU.cell 5).trans (show _ = some (Value.map (some Bm)) from rfl)
  have KU := Lib.hid (K1.out.trans kU)
  have HMU := Lib.hid (HM1.out.keeps kU (by simp) (by simp))
  have WU := Lib.hid wU
  have nU := kU.size
  have sU := wU.lt
  clear hU kU wU K1 HM1
  go_wp2_with (go_at_call 27; refine (HAL.out _ KU.out).mono ?_; rintro e w2 ⟨rfl, rfl⟩)
  go_ret
  exact ⟨rfl, KU.out⟩

set_option maxRecDepth 100000 in
set_option maxHeartbeats 2000000 in
theorem Del_key {F B W N first n k i t : Nat} {es : List Ent} {s : FS} (w : World) (hF : FlashE w F B W s) (hc : Cfg N first n k i t es s) (kv : Value) (ky : List UInt8) (hk0 : BytesAt 0 w kv ky) (h0 : 1 ≤ ky.length ∧ ky.length ≤ 16) (hs : getK ky es = none) :
    Calls Tryz.prog 25 #[.pointer (some ⟨F, 0, none⟩), .agg #[.int .i64 first, .int .i64 n], kv] w fun e w' => e = .returned (.int .i64 60) ∧ Keeps [] w w' := by

  have hFE := hF
  obtain ⟨M, hF, _⟩ := hF
  have hfit := hc.fit
  have hwl := hc.wl
  have hk := hc.top.2.1
  have hIU := fun U (hU : Keeps [] w U) => inUse_ok U (hF.keeps hU (by simp) (by simp) (by simp) (by simp)) hc.down first n k hc.n3 (by omega) (by omega) 1 (BitVec.ofNat 32 i) hc.new
  rw [hc.ents] at hIU
  have HIU := Lib.hid hIU
  obtain ⟨ka0, kc0, rfl, _⟩ := hk0.shape
  have HK0 := Lib.hid hk0
  have hkl : ky.length ≤ maxLen := by unfold maxLen; omega
  have HAL := Lib.hid (show ∀ U, Keeps [] w U → Calls Tryz.prog 27 #[.slice ka0 ky.length kc0] U fun e w' => e = .returned (.bool true) ∧ U = w' from fun U hU => by obtain ⟨Mk0, rk0, _⟩ := hk0; have := allowed_any U _ ky Mk0 (rk0.keeps hU (by simp)); rw [decide_eq_true h0] at this; exact this)
  have HS := Lib.hid hs
  clear hIU hF hc hFE hk0 hs
  generalize ((BitVec.ofNat 32 i).toNat : Int) = xz at *
  generalize endK (sec s.bs k) = E at *
  go_enter Tryz.func25, Tryz.ntmps25
  go_upto_region 1 with (fail)
  generalize hV : World.alloc w _ = V
  have kV : Keeps [] w V := by rw [← hV]; exact Keeps.alloc [] _ _
  have wV : Whole V w.heap.size 25 [.int .i64 first, .int .i64 n] := by rw [← hV]; exact Whole.new w 25 [_, _]
  have v0 := (wV.cell 0).trans (show _ = some (Value.int .i64 (first : Int)) from rfl)
  have v1 := (wV.cell 1).trans (show _ = some (Value.int .i64 (n : Int)) from rfl)
  have KV := Lib.hid kV
  have nV := kV.size
  clear hV kV wV
  go_upto_region 2 with (go_at_call 31; refine (HIU.out _ KV.out).mono ?_; rintro e w1 ⟨g, cp, Bm, rfl, hg, hBm, hh1, hm1, k1⟩; have HM1 := Lib.hid hm1; have K1 := Lib.hid (KV.out.trans k1); have n1 := k1.size; clear k1 hh1 hm1)
  generalize hU : World.alloc w1 _ = U
  have kU : Keeps [] w1 U := by rw [← hU]; exact Keeps.alloc [] _ _
  have wU : Whole U w1.heap.size 75 [.slice (some ⟨g, 0, none⟩) n cp, .int .i64 k, .int .u8 1, .int .u32 xz, .int .i64 E, .map (some Bm)] := by rw [← hU]; exact Whole.new w1 75 [_, _, _, _, _, _]
  have v5 := (wU.cell 5).trans (show _ = some (Value.map (some Bm)) from rfl)
  have KU := Lib.hid (K1.out.trans kU)
  have HMU := Lib.hid (HM1.out.keeps kU (by simp) (by simp))
  have WU := Lib.hid wU
  have nU := kU.size
  have sU := wU.lt
  clear hU kU wU K1 HM1
  go_upto_region 6 with (go_at_call 27; refine (HAL.out _ KU.out).mono ?_; rintro e w2 ⟨rfl, rfl⟩)
  obtain ⟨ka, kn, kc, va, vn, vc, hrun, hbv⟩ := look_any HMU.out ky hkl
  obtain ⟨Mk, hMk, _⟩ := HK0.out
  have hcv := conv_reads (hMk.keeps KU.out (by simp))
  rw [HS.out] at hrun
  simp only [Option.isSome_none] at hrun
  clear hbv hMk
  go_wp2
  go_ret
  exact ⟨rfl, KU.out.trans (Keeps.alloc [] _ _)⟩

set_option maxRecDepth 100000 in
set_option maxHeartbeats 2000000 in
theorem Del_change {F B W N first n k i t : Nat} {es : List Ent} {s : FS} (w : World) (hF : FlashE w F B W s) (hc : Cfg N first n k i t es s) (hN : N ≤ 256) (ht : t < 1000000) (kv : Value) (ky : List UInt8) (hk0 : BytesAt 0 w kv ky) (h0 : 1 ≤ ky.length ∧ ky.length ≤ 16) (hs : getK ky es ≠ none) :
    Calls Tryz.prog 25 #[.pointer (some ⟨F, 0, none⟩), .agg #[.int .i64 first, .int .i64 n], kv] w fun e w' => e = .returned (.int .i64 (s.change first n k (BitVec.ofNat 32 i) (payL 2 ky []) (delK ky es)).2) ∧ FlashE w' F B W (s.change first n k (BitVec.ofNat 32 i) (payL 2 ky []) (delK ky es)).1 ∧ Keeps [F, B, W] w w' := by

  have hFE := hF
  obtain ⟨M, hF, _⟩ := hF
  have hfit := hc.fit
  have hwl := hc.wl
  have hk := hc.top.2.1
  have hIU := fun U (hU : Keeps [] w U) => inUse_ok U (hF.keeps hU (by simp) (by simp) (by simp) (by simp)) hc.down first n k hc.n3 (by omega) (by omega) 1 (BitVec.ofNat 32 i) hc.new
  rw [hc.ents] at hIU
  have HIU := Lib.hid hIU
  have HFE := Lib.hid hFE
  obtain ⟨ka0, kc0, rfl, _⟩ := hk0.shape
  have HK0 := Lib.hid hk0
  have hkl : ky.length ≤ maxLen := by unfold maxLen; omega
  have HAL := Lib.hid (show ∀ U, Keeps [] w U → Calls Tryz.prog 27 #[.slice ka0 ky.length kc0] U fun e w' => e = .returned (.bool true) ∧ U = w' from fun U hU => by obtain ⟨Mk0, rk0, _⟩ := hk0; have := allowed_any U _ ky Mk0 (rk0.keeps hU (by simp)); rw [decide_eq_true h0] at this; exact this)
  have HS := Lib.hid (show (getK ky es).isSome = true by cases hg : getK ky es with
    | none => exact absurd hg hs
    | some _ => rfl)
  have HLK := Lib.hid (lookL_length s.bs first n)
  have hn3 := hc.n3
  have hCH := change_ok w hFE hc hN ht (payL 2 ky []) (by rw [payL_length]; simp; omega) (delK ky) (hc.good.del ky) (by have h1 := wtL_del_le ky es; have h2 := hc.room.1; omega) (BitVec.ofNat 32 i)
  obtain ⟨sT, eT, hT⟩ : ∃ sT eT, s.change first n k (BitVec.ofNat 32 i) (payL 2 ky []) (delK ky es) = (sT, eT) := ⟨_, _, rfl⟩
  rw [hT] at hCH ⊢
  dsimp only at hCH ⊢
  have HCH := Lib.hid hCH
  have HPL := Lib.hid (show ∀ U, Keeps [] w U → 0 < U.heap.size → Calls Tryz.prog 29 #[.int .u8 2, .slice ka0 ky.length kc0, .slice none 0 0] U fun e w' => ∃ u, e = .returned u ∧ w'.ownsRow U.heap.size 5 1 u (2 + ky.length + 0) ((payL 2 ky []).map bv) ∧ Keeps [] U w' from
    fun U hU hz => payload_any U 2 _ _ ky [] 0 0 (hk0.keeps hU (by simp)) (BytesAt.nil 0 U) (by omega) (by simp) hz)
  have HDR := Lib.hid (show ∀ U, Keeps [] w U → ∀ Bm, w.heap.size ≤ Bm → Calls Tryz.prog 51 #[.map (some Bm), .slice ka0 ky.length kc0] U fun e w' => ∃ f, e = .returned f ∧ DropFn U.heap.size w' f Bm ky ∧ Keeps [] U w' from fun U hU Bm hB => by
    obtain ⟨Mk, rk, hMk⟩ := hk0; exact drop_any U Bm _ ky Mk (rk.keeps hU (by simp)) (fun hne => by have := (hMk hne).2; omega))
  clear hIU hF hc hFE hk0 hs hCH hT
  generalize ((BitVec.ofNat 32 i).toNat : Int) = xz at *
  generalize endK (sec s.bs k) = E at *
  go_enter Tryz.func25, Tryz.ntmps25
  go_upto_region 1 with (fail)
  generalize hV : World.alloc w _ = V
  have kV : Keeps [] w V := by rw [← hV]; exact Keeps.alloc [] _ _
  have wV : Whole V w.heap.size 25 [.int .i64 first, .int .i64 n] := by rw [← hV]; exact Whole.new w 25 [_, _]
  have v0 := (wV.cell 0).trans (show _ = some (Value.int .i64 (first : Int)) from rfl)
  have v1 := (wV.cell 1).trans (show _ = some (Value.int .i64 (n : Int)) from rfl)
  have KV := Lib.hid kV
  have nV := kV.size
  clear hV kV wV
  go_upto_region 2 with (go_at_call 31; refine (HIU.out _ KV.out).mono ?_; rintro e w1 ⟨g, cp, Bm, rfl, hg, hBm, hh1, hm1, k1⟩; have hgB := hdrs_not_map hh1 (by rw [HLK.out]; omega) hm1; have hBZ := hm1.lt; have HM1 := Lib.hid hm1; have HH1 := Lib.hid hh1; have K1 := Lib.hid (KV.out.trans k1); have n1 := k1.size; clear k1 hh1 hm1)
  generalize hU : World.alloc w1 _ = U
  have kU : Keeps [] w1 U := by rw [← hU]; exact Keeps.alloc [] _ _
  have wU : Whole U w1.heap.size 75 [.slice (some ⟨g, 0, none⟩) n cp, .int .i64 k, .int .u8 1, .int .u32 xz, .int .i64 E, .map (some Bm)] := by rw [← hU]; exact Whole.new w1 75 [_, _, _, _, _, _]
  have v5 := (wU.cell 5).trans (show _ = some (Value.map (some Bm)) from rfl)
  have KU := Lib.hid (K1.out.trans kU)
  have HMU := Lib.hid (HM1.out.keeps kU (by simp) (by simp))
  have WU := Lib.hid wU
  have HHU := Lib.hid (HH1.out.keeps kU (by simp))
  have nU := kU.size
  have sU := wU.lt
  clear hU kU wU K1 HM1 HH1
  go_upto_region 6 with (go_at_call 27; refine (HAL.out _ KU.out).mono ?_; rintro e w2 ⟨rfl, rfl⟩)
  obtain ⟨ka, kn, kc, va, vn, vc, hrun, hbv⟩ := look_any HMU.out ky hkl
  obtain ⟨Mk, hMk, _⟩ := HK0.out
  have hcv := conv_reads (hMk.keeps KU.out (by simp))
  rw [HS.out] at hrun
  clear hbv hMk
  go_upto_region 9 with (fail)
  generalize hX : World.alloc U _ = X
  have kX : Keeps [] U X := by rw [← hX]; exact Keeps.alloc [] _ _
  have KX := Lib.hid (KU.out.trans kX)
  have HWX := Lib.hid (WU.out.keeps kX (by simp))
  have HMX := Lib.hid (HMU.out.keeps kX (by simp) (by simp))
  have HHX := Lib.hid (HHU.out.keeps kX (by simp))
  have nX := kX.size
  clear hX kX hrun
  have kD : Keeps [] X X.drew := Keeps.drew [] X
  have KD := Lib.hid (KX.out.trans kD)
  have HWD := Lib.hid (HWX.out.keeps kD (by simp))
  have HMD := Lib.hid (HMX.out.keeps kD (by simp) (by simp))
  have HHD := Lib.hid (HHX.out.keeps kD (by simp))
  have nD := kD.size
  clear kD
  generalize w1.heap.size = Z at *
  have S0 := Lib.hid (six_cells HWD.out)
  go_region_held3 (fun w' => w'.cell? ⟨Z, 0, none⟩ = some (.slice (some ⟨g, 0, none⟩) n cp) ∧ w'.cell? ⟨Z, 1, none⟩ = some (.int .i64 (k : Int)) ∧ w'.cell? ⟨Z, 2, none⟩ = some (.int .u8 1) ∧ w'.cell? ⟨Z, 3, none⟩ = some (.int .u32 xz) ∧ w'.cell? ⟨Z, 4, none⟩ = some (.int .i64 (E : Int)) ∧ w'.cell? ⟨Z, 5, none⟩ = some (.map (some Bm)))
    (first | exact S0.out | exact S4.out | exact S5.out | exact S6.out)
    (first
     | (go_at_call 29; refine (HPL.out _ KD.out (by omega)).mono ?_; rintro e w4 ⟨u, rfl, ho, k4⟩; obtain ⟨ua, uc, rfl, huc⟩ := BytesAt.shape (BytesAt.owns ho (by have := k4.size; omega)); have HP4 := Lib.hid ((BytesAt.owns ho (by have := k4.size; omega)).mono (b' := Bm + 1) (by have := HMD.out.lt; omega)); have K4 := Lib.hid (KD.out.trans k4); have HW4 := Lib.hid (HWD.out.keeps k4 (by simp)); have S4 := Lib.hid (six_cells HW4.out); have HM4 := Lib.hid (HMD.out.keeps k4 (by simp) (by simp)); have HH4 := Lib.hid (HHD.out.keeps k4 (by simp)); have n4 := k4.size; clear k4 ho)
     | (go_at_call 51; refine (HDR.out _ K4.out Bm (by omega)).mono ?_; rintro e w5 ⟨f, rfl, hf5, k5⟩; have HF5 := Lib.hid (show BecFn (Bm + 1) w5 f Bm (delK ky) from .inr (.inl ⟨ky, hf5.mono (by have := HM4.out.lt; omega), by omega, rfl⟩)); have K5 := Lib.hid (K4.out.trans k5); have HW5 := Lib.hid (HW4.out.keeps k5 (by simp)); have S5 := Lib.hid (six_cells HW5.out); have HM5 := Lib.hid (HM4.out.keeps k5 (by simp) (by simp)); have HH5 := Lib.hid (HH4.out.keeps k5 (by simp)); have HP5 := Lib.hid (HP4.out.keeps k5 (by simp)); have n5 := k5.size; clear k5 hf5)
     | (go_at_call 50; refine (HCH.out _ g cp Bm _ _ K5.out (by omega) hgB HH5.out HM5.out HF5.out HP5.out).mono ?_; rintro e w6 ⟨rfl, hf6, k6⟩; have HF6 := Lib.hid hf6; have K6 := Lib.hid k6; have HW6 := Lib.hid (HW5.out.keeps k6 (by have := HFE.out.lt; simp; omega)); have S6 := Lib.hid (six_cells HW6.out); clear k6 hf6))
  go_wp2
  go_ret
  exact ⟨rfl, HF6.out, (K5.out.mono (T := [F, B, W]) (by simp)).then K6.out (sub4 (by omega))⟩

end Go.Proofs.YtlnmbfddhdjioaaGreat

namespace Go.Proofs.YtlnmbfddhdjioaaGreat
open Go.RowKit

set_option maxRecDepth 100000 in
set_option maxHeartbeats 2000000 in
theorem Make_not (w : World) (p : Option Addr) (h : NotMade w p) (first count : Int) :
    Calls Tryz.prog 6 #[.pointer p, .agg #[.int .i64 first, .int .i64 count]] w fun e w' => e = .returned (.int .i64 1) ∧ Keeps [] w w' := by
  have HL := Lib.hid (fun U (hU : Keeps [] w U) => Look_not U p (NotMade.keeps h hU) first count)
  clear h
  have KV := Lib.hid (Keeps.alloc [] w (.cells #[.int .i64 first, .int .i64 count] 25))
  go_enter Tryz.func6, Tryz.ntmps6
  go_wp2_with (go_at_call 19; refine (HL.out _ KV.out).mono ?_; rintro e w' ⟨rfl, rfl⟩)
  go_ret
  exact ⟨rfl, KV.out⟩

set_option maxRecDepth 100000 in
set_option maxHeartbeats 2000000 in
theorem Make_bad {F B W M : Nat} {s : FS} (w : World) (hF : FlashAt w F B W M s) (h0 : 0 < s.wear.length) (first count : Int) (hc2 : count ≤ 9223372036854775807) (h : count < 3 ∨ first < 0 ∨ s.wear.length - count < first) :
    Calls Tryz.prog 6 #[.pointer (some ⟨F, 0, none⟩), .agg #[.int .i64 first, .int .i64 count]] w fun e w' => e = .returned (.int .i64 50) ∧ Keeps [] w w' := by
  have HL := Lib.hid (fun U (hU : Keeps [] w U) => Look_bad U (hF.keeps hU (by simp) (by simp) (by simp) (by simp)) h0 first count hc2 h)
  clear h hF
  have KV := Lib.hid (Keeps.alloc [] w (.cells #[.int .i64 first, .int .i64 count] 25))
  go_enter Tryz.func6, Tryz.ntmps6
  go_wp2_with (go_at_call 19; refine (HL.out _ KV.out).mono ?_; rintro e w' ⟨rfl, rfl⟩)
  go_ret
  exact ⟨rfl, KV.out⟩

set_option maxRecDepth 100000 in
set_option maxHeartbeats 2000000 in
theorem Make_has {F B W N first n k i t : Nat} {es : List Ent} {s : FS} (w : World) (hF : FlashE w F B W s) (hc : Cfg N first n k i t es s) :
    Calls Tryz.prog 6 #[.pointer (some ⟨F, 0, none⟩), .agg #[.int .i64 first, .int .i64 n]] w fun e w' => e = .returned (.int .i64 0) ∧ Keeps [] w w' := by
  obtain ⟨M, hF, _⟩ := hF
  have hfit := hc.fit
  have hwl := hc.wl
  have hfew := hF.few
  have HL := Lib.hid (fun U (hU : Keeps [] w U) => Look_ok U (hF.keeps hU (by simp) (by simp) (by simp) (by simp)) hc.down first n hc.n3 (by omega))
  have HH := Lib.hid hc.new
  obtain ⟨L, hL⟩ : ∃ L, L = lookL s.bs first n := ⟨_, rfl⟩
  rw [← hL] at HL HH
  have HLL := Lib.hid (show L.length = n by rw [hL, lookL_length])
  clear hF hc hL
  have HN := Lib.hid (fun U v (hU : HdrsAt U v L) => Newest_any U v L hU (by rw [HLL.out]; omega))
  rw [HH.out] at HN
  simp only [Option.getD_some, Option.isSome_some, hdrCells] at HN
  unfold uv at HN
  generalize ((BitVec.ofNat 32 i).toNat : Int) = xz at *
  go_enter Tryz.func6, Tryz.ntmps6
  go_upto_region 1 with (fail)
  generalize hV : World.alloc w _ = V
  have kV : Keeps [] w V := by rw [← hV]; exact Keeps.alloc [] _ _
  have wV : Whole V w.heap.size 25 [.int .i64 first, .int .i64 n] := by rw [← hV]; exact Whole.new w 25 [_, _]
  have v0 := (wV.cell 0).trans (show _ = some (Value.int .i64 (first : Int)) from rfl)
  have v1 := (wV.cell 1).trans (show _ = some (Value.int .i64 (n : Int)) from rfl)
  have KV := Lib.hid kV
  clear hV kV wV
  go_upto_region 2 with (go_at_call 19; refine (HL.out _ KV.out).mono ?_; rintro e w1 ⟨g, cp, rfl, hg, hhd, k1⟩; have K1 := Lib.hid (KV.out.trans k1); have HD1 := Lib.hid hhd; clear k1 hhd)
  go_wp2_with (go_at_call 20; refine (HN.out _ _ HD1.out).mono ?_; rintro e w2 ⟨rfl, k2⟩; have K2 := Lib.hid (K1.out.trans k2); clear k2)
  go_ret
  exact ⟨rfl, K2.out.trans (Keeps.alloc [] _ _)⟩

/-- A head in a flash that was new. -/
theorem NewN.cfg {N : Nat} {s : FS} (h : NewN N s) (first n : Nat) (hn : 3 ≤ n) (hf : first + n ≤ N) (hl : 0 ≤ s.left) : Cfg N first n first 1 0 [] (s.withHead first (BitVec.ofNat 32 1)) ∧ newestL (lookL s.bs first n) = none ∧ s.clear first = (s, 0) ∧ s.opened first (BitVec.ofNat 32 1) = (s.withHead first (BitVec.ofNat 32 1), 0) := by
  have hwl : s.wear.length = N := by rw [h.wear, List.length_replicate]
  have hlen := h.len
  have hsb : ∀ k, blank (sec s.bs k) := blank_sec h.all
  have hk0 : ∀ k, (hdrL (sec s.bs k)) = (0, 0#32) := fun k => hdrL_blank (hsb k)
  have hle : first * 256 + 256 ≤ s.bs.length := by omega
  have hwo : ∀ j, j ≠ first → sec (s.withHead first (BitVec.ofNat 32 1)).bs j = sec s.bs j := fun j hj => withHead_other s first j _ hle hj
  have hws := withHead_same s first (BitVec.ofNat 32 1) hle
  refine ⟨⟨by rw [withHead_len _ _ _ hle]; omega, hwl, h.down, hl, hf, hn, ?_, ?_, fun x hx => ?_⟩, ?_, clear_free first (by omega) h.down (by rw [hk0]), opened_blank first _ (by omega) (by omega) h.down h.armed (sec_room (hsb first) hle 20 (by decide))⟩
  · refine top_iff.2 ⟨Nat.le_refl _, by omega, hws, fun j x j1 j2 hx => ?_⟩
    by_cases e : j = first
    · subst e; rw [hws] at hx; cases hx; exact ⟨Nat.le_refl _, fun h => absurd h (Nat.lt_irrefl _)⟩
    · rw [hwo j e, hk0] at hx; cases hx
  · have e : sec (s.withHead first (BitVec.ofNat 32 1)).bs first = recB (headP (BitVec.ofNat 32 1)) ++ (itemsL (([] : List Ent).map itemE) ++ (sec s.bs first).drop (recB (headP (BitVec.ofNat 32 1))).length) := by
      show sec (put s.bs (first * 256) _) first = _
      rw [sec_put_same _ _ _ (by rw [head_length]; omega) hle]; rfl
    rw [e]
    exact (sector_full _ [] Good.nil _ (blank_drop_le (hsb first) _)).2.1
  · have hx' : x ∈ s.wear := hx
    rw [h.wear] at hx'
    have := List.eq_of_mem_replicate hx'
    omega
  · have ht := top_newest s.bs first n
    cases hn : newestL (lookL s.bs first n) with
    | none => rfl
    | some c =>
      rw [hn] at ht
      obtain ⟨K, y, _, _, _, h3, _⟩ := ht
      rw [hk0] at h3; cases h3

set_option maxRecDepth 100000 in
set_option maxHeartbeats 2000000 in
theorem Make_new {F B W M N first n : Nat} {s : FS} (w : World) (hF : FlashAt w F B W M s) (hN : NewN N s) (hn : 3 ≤ n) (hf : first + n ≤ N) :
    Calls Tryz.prog 6 #[.pointer (some ⟨F, 0, none⟩), .agg #[.int .i64 first, .int .i64 n]] w fun e w' => e = .returned (.int .i64 0) ∧ FlashAt w' F B W M (s.withHead first (BitVec.ofNat 32 1)) ∧ Keeps [F, B, W] w w' := by
  obtain ⟨_, hnew, hcl, hop⟩ := hN.cfg first n hn hf hF.left0
  have hwl : s.wear.length = N := by rw [hN.wear, List.length_replicate]
  have hfew := hF.few
  have hlt := hF.lt
  have HL := Lib.hid (fun U (hU : Keeps [] w U) => Look_ok U (hF.keeps hU (by simp) (by simp) (by simp) (by simp)) hN.down first n hn (by omega))
  have HCL := Lib.hid (fun U (hU : Keeps [] w U) => by
    have := Clear_any U (hF.keeps hU (by simp) (by simp) (by simp) (by simp)) (first : Int) (by omega) (fun x hx => by rw [hN.wear] at hx; have := List.eq_of_mem_replicate hx; omega)
    rw [hcl] at this; exact this)
  have HOP := Lib.hid (show ∀ U, FlashAt U F B W M s → Calls Tryz.prog 22 #[.pointer (some ⟨F, 0, none⟩), .int .i64 first, .int .u32 1] U fun e w' => e = .returned (.int .i64 0) ∧ FlashAt w' F B W M (s.withHead first (BitVec.ofNat 32 1)) ∧ Keeps [F, B] U w' from fun U hU => by
    have := Open_any U hU (first : Int) (by omega) (BitVec.ofNat 32 1)
    rw [hop] at this; exact this)
  have HH := Lib.hid hnew
  obtain ⟨L, hL⟩ : ∃ L, L = lookL s.bs first n := ⟨_, rfl⟩
  rw [← hL] at HL HH
  have HLL := Lib.hid (show L.length = n by rw [hL, lookL_length])
  clear hF hN hL hnew hcl hop
  have HN := Lib.hid (fun U v (hU : HdrsAt U v L) => Newest_any U v L hU (by rw [HLL.out]; omega))
  rw [HH.out] at HN
  simp only [Option.getD_none, Option.isSome_none, hdrCells] at HN
  unfold uv at HN
  obtain ⟨sT, hsT⟩ : ∃ sT, sT = s.withHead first (BitVec.ofNat 32 1) := ⟨_, rfl⟩
  rw [← hsT] at HOP ⊢
  clear hsT
  go_enter Tryz.func6, Tryz.ntmps6
  go_upto_region 1 with (fail)
  generalize hV : World.alloc w _ = V
  have kV : Keeps [] w V := by rw [← hV]; exact Keeps.alloc [] _ _
  have wV : Whole V w.heap.size 25 [.int .i64 first, .int .i64 n] := by rw [← hV]; exact Whole.new w 25 [_, _]
  have v0 := (wV.cell 0).trans (show _ = some (Value.int .i64 (first : Int)) from rfl)
  have v1 := (wV.cell 1).trans (show _ = some (Value.int .i64 (n : Int)) from rfl)
  have KV := Lib.hid kV
  have WV := Lib.hid wV
  clear hV kV wV
  go_upto_region 2 with (go_at_call 19; refine (HL.out _ KV.out).mono ?_; rintro e w1 ⟨g, cp, rfl, hg, hhd, k1⟩; have K1 := Lib.hid (KV.out.trans k1); have W1 := Lib.hid (WV.out.keeps k1 (by simp)); have HD1 := Lib.hid hhd; clear k1 hhd)
  go_upto_region 7 with (go_at_call 20; refine (HN.out _ _ HD1.out).mono ?_; rintro e w2 ⟨rfl, k2⟩; have K2 := Lib.hid (K1.out.trans k2); have W2 := Lib.hid (W1.out.keeps k2 (by simp)); clear k2)
  generalize hU : World.alloc w2 _ = U
  have kU : Keeps [] w2 U := by rw [← hU]; exact Keeps.alloc [] _ _
  have KU := Lib.hid (K2.out.trans kU)
  have WU := Lib.hid (W2.out.keeps kU (by simp))
  clear hU kU
  have u0 := (WU.out.cell 0).trans (show _ = some (Value.int .i64 (first : Int)) from rfl)
  go_upto_region 10 with (go_at_call 21; refine (HCL.out _ KU.out).mono ?_; rintro e w3 ⟨rfl, hf3, k3⟩; have HF3 := Lib.hid hf3; have K3 := Lib.hid ((KU.out.mono (T := [F, B, W]) (by simp)).trans k3); have W3 := Lib.hid (WU.out.keeps k3 (by simp; omega)); clear k3 hf3)
  have t0 := (W3.out.cell 0).trans (show _ = some (Value.int .i64 (first : Int)) from rfl)
  go_wp2_with (go_at_call 22; refine (HOP.out _ HF3.out).mono ?_; rintro e w4 ⟨rfl, hf4, k4⟩)
  go_ret
  exact ⟨rfl, hf4, K3.out.trans (k4.mono (by simp))⟩

set_option maxRecDepth 100000 in
set_option maxHeartbeats 2000000 in
/-- A flash of 16 sectors with a ring in use. -/
theorem begun6_ok (w : World) (first n : Nat) (hn : 3 ≤ n) (hf : first + n ≤ 16) :
    Calls Tryz.prog 5 #[.agg #[.int .i64 first, .int .i64 n]] w fun e w' => ∃ F B W s, e = .returned (.tuple #[.pointer (some ⟨F, 0, none⟩), .bool true]) ∧ w.heap.size ≤ F ∧ w.heap.size ≤ B ∧ w.heap.size ≤ W ∧ FlashE w' F B W s ∧ s.armed = false ∧ Cfg 16 first n first 1 0 [] s ∧ Keeps [] w w' := by
  go_enter Tryz.func5, Tryz.ntmps5
  go_upto_region 1 with (fail)
  generalize hV : World.alloc w _ = V
  have kV : Keeps [] w V := by rw [← hV]; exact Keeps.alloc [] _ _
  have wV : Whole V w.heap.size 25 [.int .i64 first, .int .i64 n] := by rw [← hV]; exact Whole.new w 25 [_, _]
  have KV := Lib.hid kV
  have WV := Lib.hid wV
  have nV := kV.size
  clear hV kV wV
  have HNW := Lib.hid (New_ok V 16 (by decide) (by decide))
  go_upto_region 2 with (go_at_call 18; refine HNW.out.mono ?_; rintro e w1 ⟨F, B, W, M, rfl, h1, h2, h3, hf1, k1⟩; have HF1 := Lib.hid hf1; have K1 := Lib.hid (KV.out.trans k1); have W1 := Lib.hid (WV.out.keeps k1 (by simp)); clear k1 hf1)
  have v0 := (W1.out.cell 0).trans (show _ = some (Value.int .i64 (first : Int)) from rfl)
  have v1 := (W1.out.cell 1).trans (show _ = some (Value.int .i64 (n : Int)) from rfl)
  have HMK := Lib.hid (fun U (hU : Keeps [] w1 U) => Make_new U (HF1.out.keeps hU (by simp) (by simp) (by simp) (by simp)) (newN 16) hn hf)
  go_wp2_with (go_at_call 6; first | (refine (HMK.out _ (Keeps.refl [] _)).mono ?_; rintro e w2 ⟨rfl, hf2, k2⟩))
  go_ret2
  have hc := ((newN 16).cfg first n hn hf (Int.le_refl _)).1
  exact ⟨F, B, W, _, rfl, by omega, by omega, by omega, FlashE.of hf2 (.inl rfl), rfl, hc, K1.out.then k2 (fun x hx => by simp at hx; right; rcases hx with rfl | rfl | rfl <;> omega)⟩
end Go.Proofs.YtlnmbfddhdjioaaGreat
