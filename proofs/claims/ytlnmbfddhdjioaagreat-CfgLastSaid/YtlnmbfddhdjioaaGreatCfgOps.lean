/-
  Keys and values: changes that came in, and what one does.
-/
import Derived.Test.YtlnmbfddhdjioaaGreatCfgAw
namespace Go.Proofs.YtlnmbfddhdjioaaGreat
open Go.RowKit Go.Deep

/-- An Op of lightshiplaw06, as it lies: its bytes below base. -/
def Op6At (w : World) (base : Nat) (a : Addr) (i : Nat) (d ar : Nat) (kv vv mv : Value) (ky vl ml : List UInt8) (Mk Mv Mm : Nat) : Prop :=
  d < 256 ∧ ar < 256 ∧ ky.length ≤ maxLen ∧ vl.length ≤ maxLen ∧ ml.length ≤ maxLen ∧ Reads w kv ky Mk ∧ (ky ≠ [] → Mk < base) ∧ Reads w vv vl Mv ∧ (vl ≠ [] → Mv < base) ∧ Reads w mv ml Mm ∧ (ml ≠ [] → Mm < base) ∧ a.block < base ∧
    w.cell? (a.add (i * 5)) = some (.int .u8 d) ∧ w.cell? (a.add (i * 5 + 1)) = some kv ∧ w.cell? (a.add (i * 5 + 2)) = some vv ∧ w.cell? (a.add (i * 5 + 3)) = some (.int .u8 ar) ∧ w.cell? (a.add (i * 5 + 4)) = some mv

def Ops6 (w : World) (base : Nat) (v : Value) (n : Nat) : Prop :=
  (v = .slice none 0 0 ∧ n = 0) ∨ ∃ (a : Addr) (cap : Nat), v = .slice (some a) n cap ∧ n ≤ cap ∧ cap ≤ maxLen ∧ ∀ i, i < n → ∃ d ar kv vv mv ky vl ml Mk Mv Mm, Op6At w base a i d ar kv vv mv ky vl ml Mk Mv Mm

theorem Ops6.shape {w : World} {base n : Nat} {v : Value} (h : Ops6 w base v n) : ∃ ao cap, v = .slice ao n cap ∧ n ≤ maxLen := by
  rcases h with ⟨rfl, rfl⟩ | ⟨a, cap, rfl, h1, h2, _⟩
  · exact ⟨none, 0, rfl, by decide⟩
  · exact ⟨some a, cap, rfl, by omega⟩

theorem Ops6.spot {w : World} {base : Nat} {ao : Option Addr} {cap n : Nat} (h : Ops6 w base (.slice ao n cap) n) (h0 : 0 < n) : ∃ b off, ao = some ⟨b, off, none⟩ ∧ ∀ i, i < n → ∃ d ar kv vv mv ky vl ml Mk Mv Mm, Op6At w base ⟨b, off, none⟩ i d ar kv vv mv ky vl ml Mk Mv Mm := by
  rcases h with ⟨_, h1⟩ | ⟨⟨b, off, spot⟩, cap', hv, _, _, hp⟩
  · omega
  · simp only [Value.slice.injEq] at hv
    obtain ⟨_, _, _, _, _, _, _, _, _, _, _, _, _, _, _, _, _, _, _, _, _, _, _, c0, _⟩ := hp 0 h0
    have hs : spot = none := by
      cases spot with
      | none => rfl
      | some x =>
        exfalso
        simp only [Addr.add, Nat.zero_mul, if_true] at c0
        unfold World.cell? at c0
        split at c0
        · simp at c0
        · cases c0
    subst hs
    exact ⟨b, off, hv.1, hp⟩

theorem Reads.keepsLow {S : List Nat} {w w' : World} {v : Value} {l : List UInt8} {M base : Nat} (h : Reads w v l M) (hl : l ≠ [] → M < base) (hk : Keeps S w w') (hS : ∀ x ∈ S, base ≤ x) : Reads w' v l M :=
  h.keepsIf hk (fun hn hm => by have := hS _ hm; have := hl hn; omega)

theorem Op6At.keeps {S : List Nat} {w w' : World} {base : Nat} {a : Addr} {i d ar : Nat} {kv vv mv : Value} {ky vl ml : List UInt8} {Mk Mv Mm : Nat} (h : Op6At w base a i d ar kv vv mv ky vl ml Mk Mv Mm) (hk : Keeps S w w') (hS : ∀ x ∈ S, base ≤ x) : Op6At w' base a i d ar kv vv mv ky vl ml Mk Mv Mm := by
  obtain ⟨h1, h2, h3, h4, h5, r1, l1, r2, l2, r3, l3, h6, c0, c1, c2, c3, c4⟩ := h
  have hn : ∀ k, (a.add k).block ∉ S := fun k hm => by rw [Addr.add_block] at hm; have := hS _ hm; omega
  exact ⟨h1, h2, h3, h4, h5, r1.keepsLow l1 hk hS, l1, r2.keepsLow l2 hk hS, l2, r3.keepsLow l3 hk hS, l3, h6, hk.cell c0 (hn _), hk.cell c1 (hn _), hk.cell c2 (hn _), hk.cell c3 (hn _), hk.cell c4 (hn _)⟩

section
variable {H : Type} {enc : TypeId × Value → H} {W : World} {b0 : Nat} {spare : Nat → Bool} {held : Bool}

theorem ops6_read {fuel : Nat} {v : Value} {x : DataW H × List MemPlace} (h : DataW.trod enc Tryz.prog W b0 spare held fuel 22 [v] = some x) : ∃ n, Ops6 W W.heap.size v n := by
  rcases structs_read Tryz.underlying22 Tryz.underlying33 (by kernel_rfl) (by kernel_rfl) h with rfl | ⟨a, len, cap, rfl, hl, hm, hf⟩
  · exact ⟨0, .inl ⟨rfl, rfl⟩⟩
  · refine ⟨len, .inr ⟨a, cap, rfl, hl, hm, fun i hi => ?_⟩⟩
    obtain ⟨u0, y0, n0, c0, t0⟩ := hf i hi 0 _ rfl
    obtain ⟨u1, y1, n1, c1, t1⟩ := hf i hi 1 _ rfl
    obtain ⟨u2, y2, n2, c2, t2⟩ := hf i hi 2 _ rfl
    obtain ⟨u3, y3, n3, c3, t3⟩ := hf i hi 3 _ rfl
    obtain ⟨u4, y4, n4, c4, t4⟩ := hf i hi 4 _ rfl
    obtain ⟨d, hd, _, wd⟩ := DataW.trod_int Tryz.underlying5 t0
    obtain ⟨p, hp, _, wp⟩ := DataW.trod_int Tryz.underlying5 t3
    simp at hd hp
    subst hd hp
    obtain ⟨l1, M1, r1, ll1, g1⟩ := bytes_read t1
    obtain ⟨l2, M2, r2, ll2, g2⟩ := bytes_read t2
    obtain ⟨l4, M4, r4, ll4, g4⟩ := bytes_read t4
    obtain ⟨c, rfl⟩ := byte_of_wf wd
    obtain ⟨c', rfl⟩ := byte_of_wf wp
    have hb := World.block_lt_of_cell? W _ c1
    rw [Addr.add_block] at hb
    exact ⟨c.toNat, c'.toNat, u1, u2, u4, l1, l2, l4, M1, M2, M4, c.toNat_lt, c'.toNat_lt, ll1, ll2, ll4, r1, g1, r2, g2, r4, g4, hb, c0, c1, c2, c3, c4⟩
end

theorem BytesAt.of {w : World} {v : Value} {l : List UInt8} {M base : Nat} (h : Reads w v l M) (hM : l ≠ [] → M < base) (hb : base ≤ w.heap.size) : BytesAt 0 w v l := ⟨M, h, fun hl => ⟨Nat.zero_le _, by have := hM hl; omega⟩⟩

set_option maxRecDepth 100000 in
set_option maxHeartbeats 2000000 in
/-- A change. -/
theorem changed6_any {F B W N first n k i t : Nat} {es : List Ent} {s : FS} (w : World) (hF : FlashE w F B W s) (hc : Cfg N first n k i t es s) (hN : N ≤ 256) (ht : t < 1000000) (d ar : Nat) (hd : d < 256) (kv vv mv : Value) (ky vl : List UInt8) (hk0 : BytesAt 0 w kv ky) (hv0 : BytesAt 0 w vv vl) :
    Calls Tryz.prog 9 #[.agg #[.int .u8 d, kv, vv, .int .u8 ar, mv], .pointer (some ⟨F, 0, none⟩), .agg #[.int .i64 first, .int .i64 n]] w fun e w' => e = .returned (.int .i64 (s.opK first n k i es d ky vl).2) ∧ FlashE w' F B W (s.opK first n k i es d ky vl).1 ∧ Keeps [F, B, W] w w' := by
  have HS := Lib.hid (fun U (hU : Keeps [] w U) => Set_any U (hF.keeps hU (by simp) (by simp) (by simp) (by simp)) hc hN ht kv vv ky vl (hk0.keeps hU (by simp)) (hv0.keeps hU (by simp)))
  have HD := Lib.hid (fun U (hU : Keeps [] w U) => Del_any U (hF.keeps hU (by simp) (by simp) (by simp) (by simp)) hc hN ht kv ky (hk0.keeps hU (by simp)))
  obtain ⟨q, hq⟩ : ∃ q, q = d % 4 := ⟨_, rfl⟩
  have e1 : (d : Int) % 4 = (q : Int) := by omega
  have e2 : (d : Int).tmod 4 = (q : Int) := by rw [Int.tmod_eq_emod_of_nonneg (by omega)]; exact e1
  have hq4 : q < 4 := by omega
  unfold FS.opK
  rw [← hq]
  clear hq hF hc hk0 hv0
  by_cases h3 : q = 3
  · subst h3
    rw [if_pos rfl]
    generalize s.delK first n k i es ky = res at HD ⊢
    obtain ⟨s', e'⟩ := res
    simp only at HD ⊢
    go_enter Tryz.func9, Tryz.ntmps9
    go_upto_region 1 with (fail)
    generalize hV : World.alloc (World.alloc w _) _ = V
    have kV : Keeps [] w V := by rw [← hV]; exact (Keeps.alloc [] _ _).trans (Keeps.alloc [] _ _)
    have wO : Whole V w.heap.size 33 [.int .u8 d, kv, vv, .int .u8 ar, mv] := by
      rw [← hV]; exact (Whole.new w 33 [_, _, _, _, _]).keeps (Keeps.alloc [] _ _) (by simp)
    have wR : Whole V (w.heap.size + 1) 25 [.int .i64 first, .int .i64 n] := by rw [← hV]; exact Whole.new_at _ 25 [_, _] (w.heap.size + 1) (by simp)
    have o0 := (wO.cell 0).trans (show _ = some (Value.int .u8 (d : Int)) from rfl)
    have o1 := (wO.cell 1).trans (show _ = some kv from rfl)
    have o2 := (wO.cell 2).trans (show _ = some vv from rfl)
    have r0 := (wR.cell 0).trans (show _ = some (Value.int .i64 (first : Int)) from rfl)
    have r1 := (wR.cell 1).trans (show _ = some (Value.int .i64 (n : Int)) from rfl)
    have KV := Lib.hid kV
    clear hV kV wO wR
    go_wp2_with (go_at_call 25; refine (HD.out _ KV.out).mono ?_; rintro e w1 ⟨rfl, hf1, k1⟩)
    go_ret
    exact ⟨rfl, hf1, (KV.out.mono (by simp)).trans k1⟩
  · have h3' : (q : Int) ≠ 3 := by omega
    rw [if_neg h3]
    generalize s.setK first n k i es ky vl = res at HS ⊢
    obtain ⟨s', e'⟩ := res
    simp only at HS ⊢
    go_enter Tryz.func9, Tryz.ntmps9
    go_upto_region 1 with (fail)
    generalize hV : World.alloc (World.alloc w _) _ = V
    have kV : Keeps [] w V := by rw [← hV]; exact (Keeps.alloc [] _ _).trans (Keeps.alloc [] _ _)
    have wO : Whole V w.heap.size 33 [.int .u8 d, kv, vv, .int .u8 ar, mv] := by
      rw [← hV]; exact (Whole.new w 33 [_, _, _, _, _]).keeps (Keeps.alloc [] _ _) (by simp)
    have wR : Whole V (w.heap.size + 1) 25 [.int .i64 first, .int .i64 n] := by rw [← hV]; exact Whole.new_at _ 25 [_, _] (w.heap.size + 1) (by simp)
    have o0 := (wO.cell 0).trans (show _ = some (Value.int .u8 (d : Int)) from rfl)
    have o1 := (wO.cell 1).trans (show _ = some kv from rfl)
    have o2 := (wO.cell 2).trans (show _ = some vv from rfl)
    have r0 := (wR.cell 0).trans (show _ = some (Value.int .i64 (first : Int)) from rfl)
    have r1 := (wR.cell 1).trans (show _ = some (Value.int .i64 (n : Int)) from rfl)
    have KV := Lib.hid kV
    clear hV kV wO wR
    go_wp2_with (go_at_call 26; refine (HS.out _ KV.out).mono ?_; rintro e w1 ⟨rfl, hf1, k1⟩)
    go_ret
    exact ⟨rfl, hf1, (KV.out.mono (by simp)).trans k1⟩
end Go.Proofs.YtlnmbfddhdjioaaGreat
