/-
  Keys and values: bytes that are there, a map's entries, and the small functions: allowed, payloadOf, Weight, Room, Clone.
  Keys and values: payloadOf, Weight, Room.
  Keys and values: what is to become of the entries: put, drop, and their closures.
  Keys and values: what a payload tells.
  Keys and values: the entries that records leave.
-/
import Derived.Test.YtlnmbfddhdjioaaGreatCfgM
import Derived.Test.YtlnmbfddhdjioaaGreatRingEnd
import Derived.Maps.RangeWalk
import Derived.Lib.LazyBuf
import Derived.Test.YtlnmbfddhdjioaaGreatRecI
namespace Go.Proofs.YtlnmbfddhdjioaaGreat
open Go.RowKit

theorem Reads.keepsIf {S : List Nat} {w w' : World} {v : Value} {l : List UInt8} {M : Nat} (h : Reads w v l M) (hk : Keeps S w w') (hM : l ≠ [] → M ∉ S) : Reads w' v l M := by
  by_cases hl : l = []
  · subst hl
    obtain ⟨M', h', hn⟩ := h.away (base := 0) (fun h => absurd rfl h) S (fun _ _ => Nat.zero_le _)
    exact (h'.keeps hk hn).anyBlock M
  · exact h.keeps hk (hM hl)

/-- Bytes in memory from base on (or none). -/
def BytesAt (base : Nat) (w : World) (v : Value) (l : List UInt8) : Prop := ∃ M, Reads w v l M ∧ (l ≠ [] → base ≤ M ∧ M < w.heap.size)

theorem BytesAt.keeps {S : List Nat} {base : Nat} {w w' : World} {v : Value} {l : List UInt8} (h : BytesAt base w v l) (hk : Keeps S w w') (hS : ∀ x ∈ S, x < base ∨ w.heap.size ≤ x) : BytesAt base w' v l := by
  obtain ⟨M, hr, hM⟩ := h
  exact ⟨M, hr.keepsIf hk (fun hl hm => by have := hM hl; rcases hS M hm with h | h <;> omega), fun hl => by have := hM hl; have := hk.size; omega⟩
theorem BytesAt.mono {b b' : Nat} {w : World} {v : Value} {l : List UInt8} (h : BytesAt b w v l) (hb : b' ≤ b) : BytesAt b' w v l := by
  obtain ⟨M, hr, hM⟩ := h
  exact ⟨M, hr, fun hl => by have := hM hl; omega⟩
theorem BytesAt.shape {base : Nat} {w : World} {v : Value} {l : List UInt8} (h : BytesAt base w v l) : ∃ a cap, v = .slice a l.length cap ∧ l.length ≤ cap := by
  obtain ⟨M, hr, _⟩ := h; exact hr.shape
theorem BytesAt.owns {base n : Nat} {w : World} {v : Value} {l : List UInt8} (h : w.ownsRow base 5 1 v n (l.map bv)) (hw : 0 < w.heap.size) : BytesAt base w v l := by
  by_cases hl : l = []
  · subst hl
    obtain ⟨M, hr, _⟩ := owns_reads h hw
    exact ⟨M, hr, fun h => absurd rfl h⟩
  · obtain ⟨M, hr, h1, h2⟩ := New.owns h hl
    exact ⟨M, hr, fun _ => ⟨h1, h2⟩⟩
theorem BytesAt.new {base : Nat} {w : World} {v : Value} {l : List UInt8} (h : BytesAt base w v l) (hw : 0 < w.heap.size) : New 0 w v l := by
  obtain ⟨M, hr, hM⟩ := h
  by_cases hl : l = []
  · subst hl
    exact ⟨0, hr.anyBlock 0, Nat.le_refl _, hw⟩
  · exact ⟨M, hr, Nat.zero_le _, (hM hl).2⟩
theorem BytesAt.nil (base : Nat) (w : World) : BytesAt base w (.slice none 0 0) [] := ⟨0, Reads.nil _ _, fun h => absurd rfl h⟩

/-! ### a map's entries -/
theorem strKeyed : Maps.Keyed Tryz.prog 9 := Maps.string_keyed Tryz.underlying9
theorem strKey (k : List UInt8) (hk : k.length ≤ maxLen) : keyOf Tryz.prog 9 (.string ⟨k.toArray⟩) = some (.string k) := by
  have := WideMaps.keyOf_string_mk (P := Tryz.prog) Tryz.underlying9 (s := ⟨k.toArray⟩) (by show k.toArray.size ≤ maxLen; simpa using hk)
  simpa using this
theorem zeroEntry (w : World) : (zeroValue 51).run Tryz.prog w = .ok (.agg #[.slice none 0 0, .slice none 0 0]) w := by kernel_rfl

/-- An element is told by its value alone. -/
def tokE (v : Value) : Option (DataW Value × List MemPlace) := some (.held v, [])

theorem ownsMap_tight {P : Program} {w : World} {k : TypeId} {R : Value → Option (DataW Value × List MemPlace)} {b n : Nat} {D : DataW Value} (h : w.ownsMap P k R b n D) : w.ownsMap P k R b (Maps.size D) D := by
  obtain ⟨es, clock, hb, F, _, rfl⟩ := h
  exact ⟨es, clock, hb, F, by simp [Maps.size, length_sorted], rfl⟩

def EntAt (base : Nat) (w : World) (v : Value) (e : Ent) : Prop := ∃ kv vv, v = .agg #[kv, vv] ∧ BytesAt base w kv e.1 ∧ BytesAt base w vv e.2

theorem EntAt.keeps {S : List Nat} {base : Nat} {w w' : World} {v : Value} {e : Ent} (h : EntAt base w v e) (hk : Keeps S w w') (hS : ∀ x ∈ S, x < base ∨ w.heap.size ≤ x) : EntAt base w' v e := by
  obtain ⟨kv, vv, rfl, h1, h2⟩ := h
  exact ⟨kv, vv, rfl, h1.keeps hk hS, h2.keeps hk hS⟩

abbrev KVs := List (List UInt8 × (List UInt8 × Value))

/-- What a map's block is good for, with each element's value. -/
structure MapZ (base : Nat) (w : World) (B : Nat) (zs : KVs) : Prop where
  own : w.ownsMap Tryz.prog 9 tokE B zs.length (dat (mapK Prod.snd zs))
  ent : ∀ z ∈ zs, EntAt base w z.2.2 (z.1, z.2.1)
  rise : Rise zs

/-- Block B is a map whose entries are es. -/
def MapAt (base : Nat) (w : World) (B : Nat) (es : List Ent) : Prop := ∃ zs, MapZ base w B zs ∧ mapK Prod.fst zs = es

theorem MapZ.lt {base : Nat} {w : World} {B : Nat} {zs : KVs} (h : MapZ base w B zs) : B < w.heap.size := h.own.lt
theorem MapAt.lt {base : Nat} {w : World} {B : Nat} {es : List Ent} (h : MapAt base w B es) : B < w.heap.size := by
  obtain ⟨zs, hz, _⟩ := h; exact hz.lt

theorem ownsMap_keeps {S : List Nat} {w w' : World} {B n : Nat} {D : DataW Value} (h : w.ownsMap Tryz.prog 9 tokE B n D) (hk : Keeps S w w') (hB : B ∉ S) : w'.ownsMap Tryz.prog 9 tokE B n D := by
  have hlt := h.lt
  obtain ⟨es, clock, hb, r⟩ := h
  exact ⟨es, clock, (hk.block B hlt hB).trans hb, r⟩

theorem MapZ.keeps {S : List Nat} {base : Nat} {w w' : World} {B : Nat} {zs : KVs} (h : MapZ base w B zs) (hk : Keeps S w w') (hB : B ∉ S) (hS : ∀ x ∈ S, x < base ∨ w.heap.size ≤ x) : MapZ base w' B zs :=
  ⟨ownsMap_keeps h.own hk hB, fun z hz => (h.ent z hz).keeps hk hS, h.rise⟩
theorem MapAt.keeps {S : List Nat} {base : Nat} {w w' : World} {B : Nat} {es : List Ent} (h : MapAt base w B es) (hk : Keeps S w w') (hB : B ∉ S) (hS : ∀ x ∈ S, x < base ∨ w.heap.size ≤ x) : MapAt base w' B es := by
  obtain ⟨zs, hz, he⟩ := h
  exact ⟨zs, hz.keeps hk hB hS, he⟩

/-- Behind a turn of the map's own block. -/
theorem EntAt.turned {base : Nat} {w w' : World} {B : Nat} {v : Value} {e : Ent} (h : EntAt base w v e) (hB : B < base) (hk : Keeps [B] w w') : EntAt base w' v e :=
  h.keeps hk (fun x hx => .inl (by simp at hx; omega))

theorem MapZ.put {base : Nat} {w w' : World} {B n : Nat} {zs : KVs} (h : MapZ base w B zs) (hB : B < base) (k v : List UInt8) (x : Value) (hx : EntAt base w x (k, v))
    (ho : w'.ownsMap Tryz.prog 9 tokE B n ((dat (mapK Prod.snd zs)).put (.string k) (.held x))) (hk : Keeps [B] w w') : MapZ base w' B (putK k (v, x) zs) := by
  refine ⟨?_, fun z hz => ?_, h.rise.put _ _⟩
  · rw [dat_put] at ho
    have := ownsMap_tight ho
    rw [dat_size] at this
    have e : mapK Prod.snd (putK k (v, x) zs) = putK k x (mapK Prod.snd zs) := mapK_put _ _ _ _
    rw [e, ← mapK_length Prod.snd (putK k (v, x) zs), e]
    exact this
  · rcases mem_put.1 hz with rfl | ⟨hz, _⟩
    · exact hx.turned hB hk
    · exact (h.ent z hz).turned hB hk
theorem MapZ.del {base : Nat} {w w' : World} {B n : Nat} {zs : KVs} (h : MapZ base w B zs) (hB : B < base) (k : List UInt8)
    (ho : w'.ownsMap Tryz.prog 9 tokE B n ((dat (mapK Prod.snd zs)).del (.string k))) (hk : Keeps [B] w w') : MapZ base w' B (delK k zs) := by
  refine ⟨?_, fun z hz => ((h.ent z (mem_del.1 hz).1)).turned hB hk, h.rise.del _⟩
  rw [dat_del] at ho
  have := ownsMap_tight ho
  rw [dat_size] at this
  have e : mapK Prod.snd (delK k zs) = delK k (mapK Prod.snd zs) := mapK_del _ _ _
  rw [e, ← mapK_length Prod.snd (delK k zs), e]
  exact this
theorem MapZ.made (base : Nat) (w : World) : MapZ base (w.alloc (.map #[] 0)) w.heap.size [] :=
  ⟨World.ownsMap_made _ _ _ _, by simp, List.Pairwise.nil⟩

theorem grown_keeps {w w' : World} {b : Nat} (h : w.grownBy w' (some b)) : Keeps [b] w w' := Keeps.grown h fun k hk => by cases hk; simp

/-! ### the small functions -/
set_option maxRecDepth 100000 in
set_option maxHeartbeats 400000 in
theorem allowed_any (w : World) (v : Value) (k : List UInt8) (M : Nat) (h : Reads w v k M) :
    Calls Tryz.prog 27 #[v] w fun e w' => e = .returned (.bool (decide (1 ≤ k.length ∧ k.length ≤ 16))) ∧ w = w' := by
  obtain ⟨a, c, rfl, _⟩ := h.shape
  generalize k.length = n at *
  clear h
  go_enter Tryz.func27, Tryz.ntmps27
  go_wp2
  all_goals go_ret
  all_goals (refine ⟨?_, rfl⟩)
  · show Ending.returned (Value.bool (decide ((n : Int) ≤ 16))) = _
    exact congrArg (fun b => Ending.returned (Value.bool b)) (by rw [decide_eq_decide]; omega)
  · show Ending.returned (Value.bool false) = _
    exact congrArg (fun b => Ending.returned (Value.bool b)) (by rw [eq_comm]; simp; omega)

set_option maxRecDepth 100000 in
set_option maxHeartbeats 1000000 in
theorem Clone_any (w : World) (v : Value) (l : List UInt8) (M : Nat) (h : Reads w v l M) (hl : l.length ≤ 65536) :
    Calls Tryz.prog 82 #[v] w fun e w' => ∃ u, e = .returned u ∧ BytesAt w.heap.size w' u l ∧ Keeps [] w w' := by
  rcases h with ⟨rfl, rfl⟩ | ⟨ad, cap, rfl, hcap, hb, hc⟩
  · have hne := run_eql_slice_nil (P := Tryz.prog) w 23 5 none 0 0 Tryz.underlying23
    go_enter Tryz.func82, Tryz.ntmps82
    go_wp2
    go_ret
    exact ⟨_, rfl, BytesAt.nil _ _, Keeps.refl _ _⟩
  · have HB := Lib.hid (show Reads w (.slice (some ad) l.length cap) l M from .inr ⟨ad, cap, rfl, hcap, hb, hc⟩)
    clear hb hc
    obtain ⟨n, hn⟩ : ∃ n, n = l.length := ⟨_, rfl⟩
    have hne := run_eql_slice_nil (P := Tryz.prog) w 23 5 (some ad) l.length cap Tryz.underlying23
    go_enter Tryz.func82, Tryz.ntmps82
    have HO := Lib.hid (show (w.alloc (.cells #[] 5)).ownsRow w.heap.size 5 1 (.slice (some ⟨w.heap.size, 0, none⟩) 0 0) ([] : List UInt8).length (([] : List UInt8).map bv) from Whole.owns (xs := []) (ys := []) (Whole.new w 5 []) (Nat.le_refl _) rfl rfl (by decide))
    have HB1 := Lib.hid (HB.out.keeps (Keeps.alloc [] w (.cells #[] 5)) (by simp))
    go_wp2_with (first | (at_builtin; refine wpList_append_reads rfl _ _ rfl w.heap.size _ [] rfl HO.out _ l M rfl HB1.out (by simp; omega) (by simp) ?_; intro v3 w3 hown3 hk3; have HO3 := Lib.hid hown3; have HK3 := Lib.hid hk3; clear hown3 hk3))
    go_ret
    have kk := ((Keeps.alloc [] w (.cells #[] 5)).ownedK HO.out HK3.out)
    exact ⟨_, rfl, BytesAt.owns HO3.out (by have := kk.size; have := HK3.out.size; simp at this; omega), kk⟩
end Go.Proofs.YtlnmbfddhdjioaaGreat

namespace Go.Proofs.YtlnmbfddhdjioaaGreat
open Go.RowKit

set_option maxRecDepth 100000 in
set_option maxHeartbeats 1000000 in
theorem payload_any (w : World) (what : UInt8) (kv vv : Value) (k v : List UInt8) (bk bv' : Nat) (hk : BytesAt bk w kv k) (hv : BytesAt bv' w vv v) (h1 : k.length ≤ 255) (h2 : v.length ≤ 1000) (hw : 0 < w.heap.size) :
    Calls Tryz.prog 29 #[.int .u8 (what.toNat : Int), kv, vv] w fun e w' => ∃ u, e = .returned u ∧ w'.ownsRow w.heap.size 5 1 u (2 + k.length + v.length) ((payL what k v).map bv) ∧ Keeps [] w w' := by
  obtain ⟨ak, ck, rfl, _⟩ := hk.shape
  obtain ⟨av, cv, rfl, _⟩ := hv.shape
  have HK := Lib.hid hk
  have HV := Lib.hid hv
  clear hk hv
  go_enter Tryz.func29, Tryz.ntmps29
  go_wp2_with fail
  obtain ⟨V1, hV1⟩ : ∃ V1, w.alloc (.cells #[.int .u8 (what.toNat : Int), .int .u8 (k.length : Int)] 5) = V1 := ⟨_, rfl⟩
  have hn0 : New w.heap.size V1 (.slice (some ⟨w.heap.size, 0, none⟩) 2 2) [what, UInt8.ofNat k.length] := by
    rw [← hV1]
    refine New.lit w _ _ 5 2 ?_ rfl
    have e : (UInt8.ofNat k.length).toNat = k.length := by simp; omega
    simp [bv, e]
  have k1 : Keeps [] w V1 := by rw [← hV1]; exact Keeps.alloc [] w _
  have s1 : V1.heap.size = w.heap.size + 1 := by rw [← hV1]; simp
  have e1 : w.heap.size + 1 = V1.heap.size := s1.symm
  rw [hV1, e1]
  have hk1 := (HK.out.keeps k1 (by simp)).new (by omega)
  have hv1 := (HV.out.keeps k1 (by simp)).new (by omega)
  obtain ⟨V2, hV2⟩ : ∃ V2, V1.alloc (.cells #[.slice (some ⟨w.heap.size, 0, none⟩) 2 2, .slice ak k.length ck, .slice av v.length cv] 23) = V2 := ⟨_, rfl⟩
  have k2 : Keeps [] V1 V2 := by rw [← hV2]; exact Keeps.alloc [] V1 _
  have wh : Whole V2 V1.heap.size 23 [.slice (some ⟨w.heap.size, 0, none⟩) 2 2, .slice ak k.length ck, .slice av v.length cv] := by rw [← hV2]; exact Whole.new V1 23 [_, _, _]
  have s2 := k2.size
  have hl := Laid.three wh (hn0.keeps k2 (by simp)) (hk1.keeps k2 (by simp)) (hv1.keeps k2 (by simp))
  have hT : [[what, UInt8.ofNat k.length], k, v].flatten.length = 2 + k.length + v.length := by simp; omega
  have hC := Concat_any V2 V1.heap.size _ _ 3 3 (2 + k.length + v.length) rfl hl hT (by omega) (by omega) (by omega)
  rw [hV2]
  refine hC.mono ?_
  rintro e w3 ⟨u, rfl, ho, k3⟩
  have e3 : [[what, UInt8.ofNat k.length], k, v].flatten = payL what k v := by simp [payL]
  rw [e3] at ho
  have HO := Lib.hid (World.ownsRow.mono ho (show w.heap.size ≤ V2.heap.size by omega))
  have K3 := Lib.hid ((k1.trans k2).trans k3)
  clear ho k3 hC hl hV1 hV2 hn0 hk1 hv1 k1 k2 wh s1 s2 e1
  go_wp2
  go_ret
  exact ⟨_, rfl, HO.out, K3.out⟩

set_option maxRecDepth 100000 in
set_option maxHeartbeats 1000000 in
theorem Weight_any (w : World) (kv vv : Value) (k v : List UInt8) (bk bv' : Nat) (hk : BytesAt bk w kv k) (hv : BytesAt bv' w vv v) (hw : 0 < w.heap.size) :
    Calls Tryz.prog 11 #[kv, vv] w fun e w' => e = .returned (.int .i64 (weightL k v)) ∧ Keeps [] w w' := by
  obtain ⟨ak, ck, rfl, _⟩ := hk.shape
  obtain ⟨av, cv, rfl, _⟩ := hv.shape
  obtain ⟨Mk, rk, _⟩ := hk
  have HA := Lib.hid (allowed_any w _ k Mk rk)
  by_cases hal : 1 ≤ k.length ∧ k.length ≤ 16
  · by_cases hv64 : v.length ≤ 64
    · have HP := Lib.hid (payload_any w 1 _ _ k v bk bv' ⟨Mk, rk, by assumption⟩ hv (by omega) (by omega) hw)
      have e : weightL k v = sizeN (2 + k.length + v.length) := by unfold weightL; rw [if_pos ⟨hal, hv64⟩]; rfl
      have HS := Lib.hid (fun W => Size_ok W (2 + k.length + v.length) (by omega))
      have hn64 : ¬ (64 : Int) < v.length := by omega
      rw [e]
      simp only [hal, and_self, decide_true] at HA
      clear rk hv e hal
      go_enter Tryz.func11, Tryz.ntmps11
      go_wp2_with (first
        | (go_at_call 27; refine HA.out.mono ?_; rintro e w' ⟨rfl, rfl⟩)
        | (go_at_call 29; refine HP.out.mono ?_; rintro e w1 ⟨u, rfl, ho, k1⟩; obtain ⟨ao, co, rfl⟩ := owns_shape2 ho; have K1 := Lib.hid k1; clear ho k1)
        | (go_at_call 28; refine (HS.out _).mono ?_; rintro e w2 ⟨rfl, rfl⟩)
        | fail)
      go_ret
      exact ⟨rfl, K1.out⟩
    · have e : weightL k v = 0 := by unfold weightL; rw [if_neg (by omega)]
      have hn64 : (64 : Int) < v.length := by omega
      rw [e]
      simp only [hal, and_self, decide_true] at HA
      clear rk hv e hal
      go_enter Tryz.func11, Tryz.ntmps11
      go_wp2_with (go_at_call 27; refine HA.out.mono ?_; rintro e w' ⟨rfl, rfl⟩)
      go_ret
      exact ⟨rfl, Keeps.refl _ _⟩
  · have e : weightL k v = 0 := by unfold weightL; rw [if_neg (by omega)]
    rw [e]
    simp only [hal, decide_false] at HA
    clear rk hv e hal
    go_enter Tryz.func11, Tryz.ntmps11
    go_wp2_with (go_at_call 27; refine HA.out.mono ?_; rintro e w' ⟨rfl, rfl⟩)
    go_ret
    exact ⟨rfl, Keeps.refl _ _⟩

set_option maxRecDepth 100000 in
set_option maxHeartbeats 400000 in
theorem Room_any (w : World) : Calls Tryz.prog 33 #[] w fun e w' => e = .returned (.int .i64 236) ∧ Keeps [] w w' := by
  go_enter Tryz.func33, Tryz.ntmps33
  go_wp2_with (go_at_call 57; refine (Head_any _).mono ?_; rintro e w1 ⟨rfl, k1⟩; have K1 := Lib.hid k1; clear k1)
  go_ret
  exact ⟨rfl, K1.out⟩
end Go.Proofs.YtlnmbfddhdjioaaGreat

namespace Go.Proofs.YtlnmbfddhdjioaaGreat
open Go.RowKit

structure PutFn (base : Nat) (w : World) (f : Value) (B : Nat) (k v : List UInt8) : Prop where
  ex : ∃ bx bm kv vv, f = .func (.func 83) #[] #[.pointer (some ⟨bx, 0, none⟩), .pointer (some ⟨bm, 0, none⟩)] ∧ Whole w bx 51 [kv, vv] ∧ Whole w bm 73 [.map (some B)] ∧
    BytesAt base w kv k ∧ BytesAt base w vv v ∧ base ≤ bx ∧ base ≤ bm

theorem PutFn.keeps {S : List Nat} {base : Nat} {w w' : World} {f : Value} {B : Nat} {k v : List UInt8} (h : PutFn base w f B k v) (hk : Keeps S w w') (hS : ∀ x ∈ S, x < base ∨ w.heap.size ≤ x) : PutFn base w' f B k v := by
  obtain ⟨bx, bm, kv, vv, hf, h1, h2, h3, h4, h5, h6⟩ := h
  have := h1.lt
  have := h2.lt
  exact ⟨bx, bm, kv, vv, hf, h1.keeps hk (fun hm => by rcases hS _ hm with h | h <;> omega), h2.keeps hk (fun hm => by rcases hS _ hm with h | h <;> omega), h3.keeps hk hS, h4.keeps hk hS, h5, h6⟩

structure DropFn (base : Nat) (w : World) (f : Value) (B : Nat) (k : List UInt8) : Prop where
  ex : ∃ bm bk kv, f = .func (.func 81) #[] #[.pointer (some ⟨bm, 0, none⟩), .pointer (some ⟨bk, 0, none⟩)] ∧ Whole w bm 73 [.map (some B)] ∧ Whole w bk 23 [kv] ∧
    (∃ M, Reads w kv k M ∧ (k ≠ [] → M ≠ B)) ∧ base ≤ bm ∧ base ≤ bk

set_option maxRecDepth 100000 in
set_option maxHeartbeats 1000000 in
theorem put_any (w : World) (B : Nat) (kv vv : Value) (k v : List UInt8) (Mk Mv : Nat) (hk : Reads w kv k Mk) (hv : Reads w vv v Mv) (h1 : k.length ≤ 65536) (h2 : v.length ≤ 65536) :
    Calls Tryz.prog 53 #[.map (some B), kv, vv] w fun e w' => ∃ f, e = .returned f ∧ PutFn w.heap.size w' f B k v ∧ Keeps [] w w' := by
  have HK := Lib.hid hk
  have HV := Lib.hid hv
  clear hk hv
  have k0 : Keeps [] w (w.alloc (.cells #[.map (some B)] 73)) := Keeps.alloc [] w _
  have wb : Whole (w.alloc (.cells #[.map (some B)] 73)) w.heap.size 73 [.map (some B)] := Whole.new w _ [_]
  have s0 := k0.size
  have HKC := Lib.hid (Clone_any (w.alloc (.cells #[.map (some B)] 73)) kv k Mk (HK.out.keeps k0 (by simp)) h1)
  have HC2 := Lib.hid (fun U (hU : Keeps [] w U) => Clone_any U vv v Mv (HV.out.keeps hU (by simp)) h2)
  have K0 := Lib.hid k0
  have WB := Lib.hid wb
  have hsz : (w.alloc (.cells #[.map (some B)] 73)).heap.size = w.heap.size + 1 := by simp
  have HSZ := Lib.hid hsz
  clear k0 wb hsz s0
  go_enter Tryz.func53, Tryz.ntmps53
  go_wp2_with fail
  refine HKC.out.mono ?_
  rintro e w1 ⟨ku, rfl, bk, k1⟩
  have K1 := Lib.hid (K0.out.trans k1)
  have WB1 := Lib.hid (WB.out.keeps k1 (by simp))
  have BK := Lib.hid (bk.mono (show w.heap.size ≤ _ by rw [HSZ.out]; omega))
  have S1 := Lib.hid k1.size
  clear k1 bk
  go_wp2_with fail
  refine (HC2.out _ K1.out).mono ?_
  rintro e w2 ⟨vu, rfl, bv2, k2⟩
  have K2 := Lib.hid (K1.out.trans k2)
  have WB2 := Lib.hid (WB1.out.keeps k2 (by simp))
  have BK2 := Lib.hid (BK.out.keeps k2 (by simp))
  have BV2 := Lib.hid (bv2.mono (show w.heap.size ≤ _ from K1.out.size))
  obtain ⟨ak, ck, rfl, _⟩ := BK2.out.shape
  obtain ⟨av, cv, rfl, _⟩ := BV2.out.shape
  clear k2 bv2
  go_wp2
  go_ret
  have k3 : Keeps [] w2 (w2.alloc (.cells #[.slice ak k.length ck, .slice av v.length cv] 51)) := Keeps.alloc [] w2 _
  have s2 := K2.out.size
  exact ⟨_, rfl, ⟨⟨_, _, _, _, rfl, Whole.new w2 51 [_, _], WB2.out.keeps k3 (by simp), BK2.out.keeps k3 (by simp), BV2.out.keeps k3 (by simp), s2, Nat.le_refl _⟩⟩, K2.out.trans k3⟩

set_option maxRecDepth 100000 in
set_option maxHeartbeats 1000000 in
theorem putDo_any (W : World) (B base : Nat) (f : Value) (k v : List UInt8) (zs : KVs) (hf : PutFn base W f B k v) (hz : MapZ base W B zs) (hB : B < base) (hk : k.length ≤ 65536) (hn : zs.length ≤ 100000) :
    ∃ caps, f = .func (.func 83) #[] caps ∧ Calls Tryz.prog 83 caps W fun e w' => e = .returned (.tuple #[]) ∧ (∃ x, MapZ base w' B (putK k (v, x) zs)) ∧ Keeps [B] W w' := by
  obtain ⟨bx, bm, kv, vv, rfl, wx, wm, hkv, hvv, hx, hm⟩ := hf
  refine ⟨_, rfl, ?_⟩
  have c0 := (wx.cell 0).trans (show _ = some kv from rfl)
  have c1 := (wx.cell 1).trans (show _ = some vv from rfl)
  have c2 := (wm.cell 0).trans (show _ = some (Value.map (some B)) from rfl)
  obtain ⟨ak, ck, rfl, _⟩ := hkv.shape
  obtain ⟨av, cv, rfl, _⟩ := hvv.shape
  obtain ⟨Mk, rk, _⟩ := hkv
  have hcv := conv_reads rk
  have HX := Lib.hid (show EntAt base W (.agg #[.slice ak k.length ck, .slice av v.length cv]) (k, v) from ⟨_, _, rfl, ⟨Mk, rk, by assumption⟩, hvv⟩)
  have HZ := Lib.hid hz
  obtain ⟨w1, hrun, ho1, hg1⟩ := hz.own.update (t := 73) (e := 51) strKeyed Tryz.underlying73 (by unfold maxLen; omega) (strKey k (by unfold maxLen; omega)) (show tokE (.agg #[.slice ak k.length ck, .slice av v.length cv]) = some (.held _, []) from rfl)
  have HO1 := Lib.hid ho1
  have HG1 := Lib.hid hg1
  clear rk hvv wx wm hz ho1 hg1
  go_enter Tryz.func83, Tryz.ntmps83
  go_wp2
  go_end0
  exact ⟨rfl, ⟨_, HZ.out.put hB k v _ HX.out HO1.out (grown_keeps HG1.out)⟩, grown_keeps HG1.out⟩

set_option maxRecDepth 100000 in
set_option maxHeartbeats 1000000 in
theorem drop_any (w : World) (B : Nat) (kv : Value) (k : List UInt8) (Mk : Nat) (hk : Reads w kv k Mk) (hB : k ≠ [] → Mk ≠ B) :
    Calls Tryz.prog 51 #[.map (some B), kv] w fun e w' => ∃ f, e = .returned f ∧ DropFn w.heap.size w' f B k ∧ Keeps [] w w' := by
  obtain ⟨ak, ck, rfl, _⟩ := hk.shape
  have HK := Lib.hid hk
  clear hk
  go_enter Tryz.func51, Tryz.ntmps51
  go_wp2
  go_ret
  have k0 : Keeps [] w (w.alloc (.cells #[.map (some B)] 73)) := Keeps.alloc [] w _
  have k1 : Keeps [] (w.alloc (.cells #[.map (some B)] 73)) ((w.alloc (.cells #[.map (some B)] 73)).alloc (.cells #[.slice ak k.length ck] 23)) := Keeps.alloc [] _ _
  exact ⟨_, rfl, ⟨⟨_, _, _, rfl, (Whole.new w 73 [_]).keeps k1 (by simp), Whole.new_at _ 23 [_] _ (by simp), ⟨Mk, HK.out.keeps (k0.trans k1) (by simp), hB⟩, Nat.le_refl _, by omega⟩⟩, k0.trans k1⟩

set_option maxRecDepth 100000 in
set_option maxHeartbeats 1000000 in
theorem dropDo_any (W : World) (B base b0 : Nat) (f : Value) (k : List UInt8) (zs : KVs) (hf : DropFn b0 W f B k) (hz : MapZ base W B zs) (hB : B < base) (hk : k.length ≤ 65536) :
    ∃ caps, f = .func (.func 81) #[] caps ∧ Calls Tryz.prog 81 caps W fun e w' => e = .returned (.tuple #[]) ∧ MapZ base w' B (delK k zs) ∧ Keeps [B] W w' := by
  obtain ⟨bm, bk, kv, rfl, wm, wk, ⟨Mk, rk, hMk⟩, hm, hk'⟩ := hf
  refine ⟨_, rfl, ?_⟩
  have c1 := (wk.cell 0).trans (show _ = some kv from rfl)
  have c2 := (wm.cell 0).trans (show _ = some (Value.map (some B)) from rfl)
  obtain ⟨ak, ck, rfl, _⟩ := rk.shape
  have hcv := conv_reads rk
  have HZ := Lib.hid hz
  obtain ⟨w1, hrun, ho1, hg1⟩ := hz.own.drop (t := 73) (e := 51) strKeyed Tryz.underlying73 (strKey k (by unfold maxLen; omega)) 0
  have HO1 := Lib.hid ho1
  have HG1 := Lib.hid hg1.grown
  clear rk wm wk hz ho1 hg1
  go_enter Tryz.func81, Tryz.ntmps81
  go_wp2
  go_end0
  exact ⟨rfl, HZ.out.del hB k HO1.out (grown_keeps HG1.out), grown_keeps HG1.out⟩

set_option maxRecDepth 100000 in
set_option maxHeartbeats 400000 in
theorem nothing_any (W : World) : Calls Tryz.prog 105 #[] W fun e w' => e = .returned (.tuple #[]) ∧ W = w' := by
  go_enter Tryz.func105, Tryz.ntmps105
  go_wp2
  go_end0
  exact ⟨rfl, rfl⟩
end Go.Proofs.YtlnmbfddhdjioaaGreat

namespace Go.Proofs.YtlnmbfddhdjioaaGreat
open Go.RowKit

theorem PutFn.mono {b b' : Nat} {w : World} {f : Value} {B : Nat} {k v : List UInt8} (h : PutFn b w f B k v) (hb : b' ≤ b) : PutFn b' w f B k v := by
  obtain ⟨bx, bm, kv, vv, hf, h1, h2, h3, h4, h5, h6⟩ := h
  exact ⟨bx, bm, kv, vv, hf, h1, h2, h3.mono hb, h4.mono hb, by omega, by omega⟩
theorem DropFn.mono {b b' : Nat} {w : World} {f : Value} {B : Nat} {k : List UInt8} (h : DropFn b w f B k) (hb : b' ≤ b) : DropFn b' w f B k := by
  obtain ⟨bm, bk, kv, hf, h1, h2, h3, h4, h5⟩ := h
  exact ⟨bm, bk, kv, hf, h1, h2, h3, by omega, by omega⟩

/-- A function that is to make something of a map's entries. -/
def BecFn (base : Nat) (w : World) (f : Value) (B : Nat) (g : List Ent → List Ent) : Prop :=
  (∃ k v, PutFn base w f B k v ∧ k.length ≤ 65536 ∧ g = putK k v) ∨ (∃ k, DropFn base w f B k ∧ k.length ≤ 65536 ∧ g = delK k) ∨ (f = .func (.func 105) #[] #[] ∧ g = id)

theorem BecFn.mono {b b' : Nat} {w : World} {f : Value} {B : Nat} {g : List Ent → List Ent} (h : BecFn b w f B g) (hb : b' ≤ b) : BecFn b' w f B g := by
  rcases h with ⟨k, v, h1, h2⟩ | ⟨k, h1, h2⟩ | h
  · exact .inl ⟨k, v, h1.mono hb, h2⟩
  · exact .inr (.inl ⟨k, h1.mono hb, h2⟩)
  · exact .inr (.inr h)

theorem PutFn.shape {b : Nat} {w : World} {f : Value} {B : Nat} {k v : List UInt8} (h : PutFn b w f B k v) : ∃ bx bm, f = .func (.func 83) #[] #[.pointer (some ⟨bx, 0, none⟩), .pointer (some ⟨bm, 0, none⟩)] := by
  obtain ⟨bx, bm, kv, vv, hf, _⟩ := h; exact ⟨bx, bm, hf⟩
theorem DropFn.shape {b : Nat} {w : World} {f : Value} {B : Nat} {k : List UInt8} (h : DropFn b w f B k) : ∃ bx bm, f = .func (.func 81) #[] #[.pointer (some ⟨bx, 0, none⟩), .pointer (some ⟨bm, 0, none⟩)] := by
  obtain ⟨bx, bm, kv, hf, _⟩ := h; exact ⟨bx, bm, hf⟩

set_option maxRecDepth 100000 in
set_option maxHeartbeats 1000000 in
theorem told_short (w : World) (B : Nat) (pv : Value) (p : List UInt8) (M : Nat) (hp : Reads w pv p M) (h : p.length < 2) :
    Calls Tryz.prog 86 #[.map (some B), pv] w fun e w' => ∃ f, e = .returned f ∧ BecFn w.heap.size w' f B (toldL p) ∧ Keeps [] w w' := by
  obtain ⟨a, c, rfl, _⟩ := hp.shape
  have e : toldL p = id := by
    funext es
    match p, h with
    | [], _ => rfl
    | [x], _ => rfl
  rw [e]
  generalize p.length = n at *
  clear hp e
  have h' : (n : Int) < 2 := by omega
  go_enter Tryz.func86, Tryz.ntmps86
  go_wp2
  go_ret
  exact ⟨_, rfl, .inr (.inr ⟨rfl, rfl⟩), Keeps.refl _ _⟩

theorem told_no (what nb : UInt8) (r : List UInt8) (h : ¬ (nb.toNat ≤ r.length ∧ 1 ≤ nb.toNat ∧ nb.toNat ≤ 16)) : toldL (what :: nb :: r) = id := by
  funext es; exact if_neg h
theorem told_putK (what nb : UInt8) (r : List UInt8) (h : nb.toNat ≤ r.length ∧ 1 ≤ nb.toNat ∧ nb.toNat ≤ 16) (h2 : what = 1 ∧ (r.drop nb.toNat).length ≤ 64) : toldL (what :: nb :: r) = putK (r.take nb.toNat) (r.drop nb.toNat) := by
  funext es; exact (if_pos h).trans (if_pos h2)
theorem told_delK (what nb : UInt8) (r : List UInt8) (h : nb.toNat ≤ r.length ∧ 1 ≤ nb.toNat ∧ nb.toNat ≤ 16) (h2 : ¬ (what = 1 ∧ (r.drop nb.toNat).length ≤ 64)) (h3 : what = 2 ∧ (r.drop nb.toNat).length = 0) : toldL (what :: nb :: r) = delK (r.take nb.toNat) := by
  funext es; exact (if_pos h).trans ((if_neg h2).trans (if_pos h3))
theorem told_else (what nb : UInt8) (r : List UInt8) (h2 : ¬ (what = 1 ∧ (r.drop nb.toNat).length ≤ 64)) (h3 : ¬ (what = 2 ∧ (r.drop nb.toNat).length = 0)) : toldL (what :: nb :: r) = id := by
  by_cases h : nb.toNat ≤ r.length ∧ 1 ≤ nb.toNat ∧ nb.toNat ≤ 16
  · funext es; exact (if_pos h).trans ((if_neg h2).trans (if_neg h3))
  · exact told_no _ _ _ h
theorem byte_is (c : UInt8) (n : Nat) (h : n < 256) : c = UInt8.ofNat n ↔ c.toNat = n := by
  constructor
  · rintro rfl; simp; omega
  · intro e; apply UInt8.toNat_inj.1; rw [e]; simp; omega

theorem Reads.firstN {w : World} {a : Addr} {c : Nat} {l : List UInt8} {M : Nat} (h : Reads w (.slice (some a) l.length c) l M) (n : Nat) (hn : n ≤ l.length) : Reads w (.slice (some a) n c) (l.take n) M := by
  have hc := h.len.2
  rcases h with ⟨hv, _⟩ | ⟨ad, c', hv, _, hb, hr⟩
  · simp at hv
  · simp at hv; obtain ⟨rfl, rfl⟩ := hv
    refine .inr ⟨a, c, by rw [List.length_take]; simp; omega, by rw [List.length_take]; omega, fun hh => hb (by intro e; subst e; simp at hh), fun i x hx => ?_⟩
    rw [List.getElem?_take] at hx
    split at hx
    · exact hr i x hx
    · cases hx
theorem Reads.tailN {w : World} {M o c : Nat} {l : List UInt8} {B : Nat} (h : Reads w (.slice (some ⟨B, o, none⟩) l.length c) l M) (n : Nat) (hn : n ≤ l.length) : Reads w (.slice (some ⟨B, o + n, none⟩) (l.length - n) (c - n)) (l.drop n) M := by
  have hc := h.len.2
  rcases h with ⟨hv, _⟩ | ⟨ad, c', hv, _, hb, hr⟩
  · simp at hv
  · simp at hv; obtain ⟨rfl, rfl⟩ := hv
    refine .inr ⟨⟨B, o + n, none⟩, c - n, by simp, by simp; omega, fun hh => hb (by intro e; subst e; simp at hh), fun i x hx => ?_⟩
    rw [List.getElem?_drop] at hx
    have := hr (n + i) x hx
    rw [Addr.add_off] at this ⊢
    rw [← Nat.add_assoc] at this; exact this

set_option maxRecDepth 100000 in
set_option maxHeartbeats 1000000 in
theorem told_long (w : World) (B : Nat) (pv : Value) (what nb : UInt8) (r : List UInt8) (M : Nat) (hp : Reads w pv (what :: nb :: r) M) (hr : r.length ≤ 60000) (hB : M ≠ B) :
    Calls Tryz.prog 86 #[.map (some B), pv] w fun e w' => ∃ f, e = .returned f ∧ BecFn w.heap.size w' f B (toldL (what :: nb :: r)) ∧ Keeps [] w w' := by
  obtain ⟨off, cap, rfl, hcap, hc⟩ := hp.at (by simp)
  obtain ⟨q, hq⟩ : ∃ q, q = what.toNat := ⟨_, rfl⟩
  obtain ⟨n, hn⟩ : ∃ n, n = nb.toNat := ⟨_, rfl⟩
  have c0 : w.cell? ⟨M, off, none⟩ = some (.int .u8 (q : Int)) := by rw [hq]; exact hc 0 what rfl
  have c1 : w.cell? ⟨M, off + 1, none⟩ = some (.int .u8 (n : Int)) := by rw [hn]; exact hc 1 nb rfl
  have q256 : q < 256 := by have := what.toBitVec.isLt; rw [hq]; exact this
  have n256 : n < 256 := by have := nb.toBitVec.isLt; rw [hn]; exact this
  obtain ⟨R, hR⟩ : ∃ R, R = r.length := ⟨_, rfl⟩
  have hlen : (what :: nb :: r).length = R + 2 := by simp [hR]
  rw [hlen] at hcap ⊢
  obtain ⟨c, rfl⟩ : ∃ c, cap = c + 2 := ⟨cap - 2, by omega⟩
  have HR := Lib.hid (show Reads w (.slice (some ⟨M, off + 2, none⟩) R c) r M by
    have := hp.tailN 2 (by simp)
    rw [hlen] at this
    simpa using this)
  have HQ := Lib.hid hq
  have HN := Lib.hid hn
  have HRl := Lib.hid hR
  have i0 : (0 : Int) < (R : Int) + 2 := by omega
  have i1 : (1 : Int) < (R : Int) + 2 := by omega
  have i2 : (2 : Int) ≤ (R : Int) + 2 := by omega
  have i3 : R ≤ c := by omega
  have i4 : R ≤ 60000 := by omega
  clear hp hc hq hn hR hlen hr hcap
  have k1 : Keeps [] w w.drew := Keeps.drew _ _
  by_cases hnr : n ≤ R
  · have rk := Lib.hid (show Reads w (.slice (some ⟨M, off + 2, none⟩) n c) (r.take n) M by rw [HRl.out] at hnr; exact Reads.firstN (by rw [← HRl.out]; exact HR.out) n hnr)
    have hkl : (r.take n).length = n := by simp; have := HRl.out; omega
    have hvl : (r.drop n).length = R - n := by simp; have := HRl.out; omega
    have HA := Lib.hid (fun U (hU : Keeps [] w U) => allowed_any U _ _ M (rk.out.keeps hU (by simp)))
    have hn1 : ¬ (R : Int) < n := by omega
    rw [hkl] at HA
    by_cases hal : 1 ≤ n ∧ n ≤ 16
    · simp only [hal, and_self, decide_true] at HA
      have hal' : nb.toNat ≤ r.length ∧ 1 ≤ nb.toNat ∧ nb.toNat ≤ 16 := by rw [← HN.out, ← HRl.out]; omega
      have hw1 : what = 1 ↔ q = 1 := by rw [HQ.out]; exact byte_is what 1 (by decide)
      have hw2 : what = 2 ↔ q = 2 := by rw [HQ.out]; exact byte_is what 2 (by decide)
      have hvl' : (r.drop nb.toNat).length = R - n := by rw [← HN.out, hvl]
      have HL16 := Lib.hid (show (r.take n).length ≤ 16 by rw [hkl]; exact hal.2)
      have HL60 := Lib.hid (show (r.drop n).length ≤ 65536 by rw [hvl]; omega)
      -- the value
      obtain ⟨L, rfl⟩ : ∃ L, R = n + L := ⟨R - n, by omega⟩
      obtain ⟨d, rfl⟩ : ∃ d, c = n + d := ⟨c - n, by omega⟩
      rw [Nat.add_sub_cancel_left] at hvl hvl'
      have ht : Reads w (.slice (some ⟨M, off + 2 + n, none⟩) L d) (r.drop n) M := by
        have := Reads.tailN (l := r) (by rw [← HRl.out]; exact HR.out) n (by rw [← HRl.out]; omega)
        rw [← HRl.out, Nat.add_sub_cancel_left, Nat.add_sub_cancel_left] at this; exact this
      obtain ⟨ov, hov, rt⟩ : ∃ ov, ((d = 0 ∧ ov = off + 2) ∨ (d ≠ 0 ∧ ov = off + 2 + n)) ∧ Reads w (.slice (some ⟨M, ov, none⟩) L d) (r.drop n) M := by
        by_cases hd : d = 0
        · refine ⟨off + 2, .inl ⟨hd, rfl⟩, ?_⟩
          have h0 : r.drop n = [] := List.eq_nil_of_length_eq_zero (by rw [hvl]; omega)
          rw [h0, show L = 0 by omega, hd]
          exact .inr ⟨_, 0, rfl, Nat.le_refl _, fun h => absurd rfl h, fun i c hi => by simp at hi⟩
        · exact ⟨_, .inr ⟨hd, rfl⟩, ht⟩
      have RT := Lib.hid rt
      have n0 : 0 < n := hal.1
      have nz : ¬ n = 0 := by omega
      clear rt ht
      have KW := Lib.hid k1
      have KW2 := Lib.hid (k1.trans (Keeps.drew [] w.drew))
      have HO := Lib.hid hov
      clear hov
      by_cases h1 : q = 1 ∧ L ≤ 64
      · have e : toldL (what :: nb :: r) = putK (r.take n) (r.drop n) := by rw [HN.out]; exact told_putK _ _ _ hal' ⟨hw1.2 h1.1, by rw [hvl']; exact h1.2⟩
        rw [e]
        have HPut := Lib.hid (fun U (hU : Keeps [] w U) => put_any U B _ _ _ _ M M (rk.out.keeps hU (by simp)) (RT.out.keeps hU (by simp)) (by have := HL16.out; omega) HL60.out)
        obtain ⟨rfl, hL64⟩ := h1
        have hL65 : (L : Int) ≤ 64 := by omega
        clear e hal' hw1 hw2 hvl hvl' hkl RT rk k1
        rcases HO.out with ⟨rfl, rfl⟩ | ⟨hd, rfl⟩
        all_goals
          go_enter Tryz.func86, Tryz.ntmps86
          go_wp2_with fail
          go_region
          go_wp2_with (go_at_call 27; refine (HA.out _ KW.out).mono ?_; rintro e w' ⟨rfl, rfl⟩)
          go_region
          go_wp2_with (go_at_call 53; refine (HPut.out _ KW2.out).mono ?_; rintro e w' ⟨f, rfl, hf, kf⟩; obtain ⟨bx, bm, rfl⟩ := hf.shape; have HF := Lib.hid hf; have KF := Lib.hid kf; clear hf kf)
          go_ret
          exact ⟨_, rfl, .inl ⟨_, _, HF.out, by have := HL16.out; omega, rfl⟩, KW2.out.trans KF.out⟩
      · have h1' : ¬ (what = 1 ∧ (r.drop nb.toNat).length ≤ 64) := by rw [hvl', hw1]; exact h1
        by_cases h2 : q = 2 ∧ L = 0
        · have e : toldL (what :: nb :: r) = delK (r.take n) := by rw [HN.out]; exact told_delK _ _ _ hal' h1' ⟨hw2.2 h2.1, by rw [hvl']; exact h2.2⟩
          rw [e]
          have HDrop := Lib.hid (fun U (hU : Keeps [] w U) => drop_any U B _ _ M (rk.out.keeps hU (by simp)) (fun _ => hB))
          obtain ⟨rfl, rfl⟩ := h2
          clear e hal' hw1 hw2 hvl hvl' hkl RT rk k1 h1 h1'
          rcases HO.out with ⟨rfl, rfl⟩ | ⟨hd, rfl⟩
          all_goals
            go_enter Tryz.func86, Tryz.ntmps86
            go_wp2_with fail
            go_region
            go_wp2_with (go_at_call 27; refine (HA.out _ KW.out).mono ?_; rintro e w' ⟨rfl, rfl⟩)
            go_region
            go_wp2_with (go_at_call 51; refine (HDrop.out _ KW2.out).mono ?_; rintro e w' ⟨f, rfl, hf, kf⟩; obtain ⟨bx, bm, rfl⟩ := hf.shape; have HF := Lib.hid hf; have KF := Lib.hid kf; clear hf kf)
            go_ret
            exact ⟨_, rfl, .inr (.inl ⟨_, HF.out, by have := HL16.out; omega, rfl⟩), KW2.out.trans KF.out⟩
        · have e : toldL (what :: nb :: r) = id := told_else _ _ _ h1' (by rw [hvl', hw2]; exact h2)
          rw [e]
          have hq3 : (q = 1 ∧ (64 : Int) < L) ∨ (q = 2 ∧ ¬ (L : Int) = 0 ∧ ¬ L = 0) ∨ (¬ (q : Int) = 1 ∧ ¬ (q : Int) = 2 ∧ ¬ q = 1 ∧ ¬ q = 2) := by omega
          clear e hal' hw1 hw2 hvl hvl' hkl RT rk k1 h1 h1' h2
          rcases HO.out with ⟨rfl, rfl⟩ | ⟨hd, rfl⟩
          all_goals
            rcases hq3 with ⟨rfl, q1⟩ | ⟨rfl, q1, q2⟩ | ⟨q1, q2, q3, q4⟩
          all_goals try (exfalso; omega)
          all_goals
            go_enter Tryz.func86, Tryz.ntmps86
            go_wp2_with fail
            go_region
            go_wp2_with (go_at_call 27; refine (HA.out _ KW.out).mono ?_; rintro e w' ⟨rfl, rfl⟩)
            go_region
            go_wp2
            all_goals go_ret
            all_goals exact ⟨_, rfl, .inr (.inr ⟨rfl, rfl⟩), KW2.out⟩
    · simp only [hal, decide_false] at HA
      have e : toldL (what :: nb :: r) = id := told_no _ _ _ (by rw [← HN.out]; omega)
      rw [e]
      have KW := Lib.hid k1
      clear e hkl hvl k1 rk
      by_cases hc0 : c = 0
      · subst hc0
        obtain rfl : n = 0 := by omega
        obtain rfl : R = 0 := by omega
        have HA0 := Lib.hid (fun U (hU : Keeps [] w U) => allowed_any U (.slice (some ⟨M, off, none⟩) 0 0) [] M (.inr ⟨_, 0, rfl, Nat.le_refl _, fun h => absurd rfl h, fun i c hi => by simp at hi⟩))
        go_enter Tryz.func86, Tryz.ntmps86
        go_wp2_with fail
        go_region
        go_wp2_with (go_at_call 27; refine (HA0.out _ KW.out).mono ?_; rintro e w' ⟨rfl, rfl⟩)
        go_ret
        exact ⟨_, rfl, .inr (.inr ⟨rfl, rfl⟩), KW.out⟩
      · go_enter Tryz.func86, Tryz.ntmps86
        go_wp2_with fail
        go_region
        go_wp2_with (go_at_call 27; refine (HA.out _ KW.out).mono ?_; rintro e w' ⟨rfl, rfl⟩)
        go_ret
        exact ⟨_, rfl, .inr (.inr ⟨rfl, rfl⟩), KW.out⟩
  · have e : toldL (what :: nb :: r) = id := told_no _ _ _ (by rw [← HN.out, ← HRl.out]; omega)
    rw [e]
    have hn1 : (R : Int) < n := by omega
    have KW := Lib.hid k1
    clear e k1
    by_cases hc0 : c = 0
    all_goals
      go_enter Tryz.func86, Tryz.ntmps86
      go_wp2_with fail
      go_region
      go_wp2
      go_ret
      exact ⟨_, rfl, .inr (.inr ⟨rfl, rfl⟩), KW.out⟩
end Go.Proofs.YtlnmbfddhdjioaaGreat

namespace Go.Proofs.YtlnmbfddhdjioaaGreat
open Go.RowKit

theorem told_any (w : World) (B : Nat) (pv : Value) (p : List UInt8) (M : Nat) (hp : Reads w pv p M) (hl : p.length ≤ 60000) (hB : M ≠ B) :
    Calls Tryz.prog 86 #[.map (some B), pv] w fun e w' => ∃ f, e = .returned f ∧ BecFn w.heap.size w' f B (toldL p) ∧ Keeps [] w w' := by
  match p, hp, hl with
  | [], hp, _ => exact told_short w B pv [] M hp (by simp)
  | [x], hp, _ => exact told_short w B pv [x] M hp (by simp)
  | what :: nb :: r, hp, hl => exact told_long w B pv what nb r M hp (by simp at hl; omega) hB

theorem MapAt.length {base : Nat} {w : World} {B : Nat} {zs : KVs} {es : List Ent} (he : mapK Prod.fst zs = es) (_h : MapZ base w B zs) : zs.length = es.length := by rw [← he, mapK_length]

theorem BecFn.run {W : World} {B base : Nat} {f : Value} {g : List Ent → List Ent} {es : List Ent} (hf : BecFn base W f B g) (hz : MapAt base W B es) (hB : B < base) (hn : es.length ≤ 100000) :
    ∃ gf caps, f = .func (.func gf) #[] caps ∧ (gf = 83 ∨ gf = 81 ∨ gf = 105) ∧ Calls Tryz.prog gf caps W fun e w' => e = .returned (.tuple #[]) ∧ MapAt base w' B (g es) ∧ Keeps [B] W w' := by
  obtain ⟨zs, hz, he⟩ := hz
  have hl := MapAt.length he hz
  rcases hf with ⟨k, v, hp, hk, rfl⟩ | ⟨k, hd, hk, rfl⟩ | ⟨rfl, rfl⟩
  · obtain ⟨caps, hf, hc⟩ := putDo_any W B base f k v zs hp hz hB hk (by omega)
    refine ⟨_, caps, hf, .inl rfl, hc.mono ?_⟩
    rintro e w' ⟨h1, ⟨x, h2⟩, h3⟩
    refine ⟨h1, ⟨_, h2, ?_⟩, h3⟩
    rw [← he]; exact mapK_put _ _ _ _
  · obtain ⟨caps, hf, hc⟩ := dropDo_any W B base base f k zs hd hz hB hk
    refine ⟨_, caps, hf, .inr (.inl rfl), hc.mono ?_⟩
    rintro e w' ⟨h1, h2, h3⟩
    refine ⟨h1, ⟨_, h2, ?_⟩, h3⟩
    rw [← he]; exact mapK_del _ _ _
  · refine ⟨_, _, rfl, .inr (.inr rfl), (nothing_any W).mono ?_⟩
    rintro e w' ⟨h1, rfl⟩
    exact ⟨h1, ⟨zs, hz, he⟩, Keeps.refl _ _⟩

set_option maxRecDepth 100000 in
set_option maxHeartbeats 2000000 in
theorem entriesOf_any (w : World) (v : Value) (rs : List (Nat × R4)) (hv : RecsAt w v rs) (hn : rs.length ≤ 50000) (hp : ∀ x ∈ rs, x.2.pay.length ≤ 60000) :
    Calls Tryz.prog 59 #[v] w fun e w' => e = .returned (.map (some w.heap.size)) ∧ MapAt (w.heap.size + 1) w' w.heap.size (entL rs) ∧ Keeps [] w w' := by
  obtain ⟨a, c, rfl, _, hc⟩ := hv
  obtain ⟨n, hrn⟩ : ∃ n, n = rs.length := ⟨_, rfl⟩
  have HRN := Lib.hid hrn
  have HC := Lib.hid hc
  rw [← hrn] at hn ⊢
  have HP := Lib.hid hp
  clear hc hrn hp
  have hmm := @run_makeMap Tryz.prog
  go_enter Tryz.func59, Tryz.ntmps59
  go_wp2
  go_loopw [9] (fun i wr => ∃ k : Nat, k ≤ n ∧ i = .int .i64 k ∧ MapAt (w.heap.size + 1) wr w.heap.size (entL (rs.take k)) ∧ Keeps [] w wr) (fun i _ => n - (intOf i).toNat)
  case atStart => exact ⟨0, Nat.zero_le _, rfl, ⟨[], MapZ.made _ _, rfl⟩, Keeps.alloc [] w _⟩
  case round =>
    obtain ⟨k, hk, rfl, hmap, hkm⟩ := hrel
    have HM := Lib.hid hmap
    have HK := Lib.hid hkm
    by_cases hlt : k < n
    · obtain ⟨x, hx⟩ : ∃ x, rs[k]? = some x := ⟨_, List.getElem?_eq_getElem (by rw [← HRN.out]; exact hlt)⟩
      obtain ⟨ga, pa, Ma, rfl, hga, a0, a1, a2, a3, ra, hMa⟩ := HC.out k x hx
      have hpl := HP.out x (List.mem_of_getElem? hx)
      have HE := Lib.hid (entL_take rs k x hx)
      obtain ⟨t, z, kd, py⟩ := x
      dsimp only at a0 a1 a2 ra hpl
      have hw1 : kd = 1 ↔ kd.toNat = 1 := byte_is kd 1 (by decide)
      have a0 := hkm.cell a0 (by simp)
      have a1 := hkm.cell a1 (by simp)
      have a2 := hkm.cell a2 (by simp)
      have a3 := hkm.cell a3 (by simp)
      have RA := Lib.hid (ra.keeps hkm (by simp))
      have hsz := hkm.size
      have hga' : ga < wr.heap.size := by omega
      have d1 : decide ((n : Int) ≤ (k : Int)) = false := by simp; omega
      have d2 : decide (n ≤ k) = false := by simp; omega
      have k0 : (k : Int) < (n : Int) := by omega
      have HB : Ma ≠ w.heap.size := by omega
      have HLE := Lib.hid (show (entL (rs.take k)).length ≤ 100000 by have := entL_length (rs.take k); rw [List.length_take] at this; omega)
      have hBm := hmap.lt
      clear hx hmap hkm ra
      obtain ⟨pa1, pa2, rfl, _⟩ := RA.out.shape
      obtain ⟨kz, hkz⟩ : ∃ kz, kz = kd.toNat := ⟨_, rfl⟩
      rw [← hkz] at a2 hw1
      clear hkz
      by_cases hone : kz = 1
      · subst hone
        have hkd : kd = 1 := hw1.2 rfl
        have HS := Lib.hid (show entL (rs.take (k + 1)) = toldL py (entL (rs.take k)) by rw [HE.out]; unfold recStep; rw [if_pos hkd])
        clear HE hw1 hkd
        have HT := Lib.hid (fun U (hU : Keeps [] wr U) => told_any U w.heap.size _ py Ma (RA.out.keeps hU (by simp)) hpl HB)
        go_wp2_with (go_at_call 86; go_loud (refine (HT.out _ (Keeps.alloc [] wr _)).mono ?_); rintro e w2 ⟨f, rfl, hf, k2⟩; obtain ⟨gf, caps, rfl, hgf, hrun⟩ := BecFn.run (hf.mono (show w.heap.size + 1 ≤ _ by rw [World.size_alloc]; omega)) ((HM.out.keeps (S := []) (Keeps.alloc [] wr _) (by simp) (by simp)).keeps k2 (by simp) (by simp)) (by omega) HLE.out; have HR := Lib.hid hrun; have K2 := Lib.hid ((HK.out.trans (Keeps.alloc [] wr _)).trans k2); clear hf k2 hrun; rcases hgf with rfl | rfl | rfl)
        all_goals
          go_wp2_with (first
            | (go_at_call 83; refine HR.out.mono ?_; rintro e w3 ⟨rfl, hm3, k3⟩; have HM3 := Lib.hid hm3; have K3 := Lib.hid (K2.out.then k3 (fun x hx => .inr (by simp at hx; omega))); clear hm3 k3)
            | (go_at_call 81; refine HR.out.mono ?_; rintro e w3 ⟨rfl, hm3, k3⟩; have HM3 := Lib.hid hm3; have K3 := Lib.hid (K2.out.then k3 (fun x hx => .inr (by simp at hx; omega))); clear hm3 k3)
            | (go_at_call 105; refine HR.out.mono ?_; rintro e w3 ⟨rfl, hm3, k3⟩; have HM3 := Lib.hid hm3; have K3 := Lib.hid (K2.out.then k3 (fun x hx => .inr (by simp at hx; omega))); clear hm3 k3)
            | fail)
          go_roundw
          case rel => exact ⟨k + 1, by omega, by go_num, by rw [HS.out]; exact HM3.out, K3.out⟩
          case measure => simp [intOf]; omega
      · have hkd : ¬ kd = 1 := fun h => hone (hw1.1 h)
        have HS := Lib.hid (show entL (rs.take (k + 1)) = entL (rs.take k) by rw [HE.out]; unfold recStep; rw [if_neg hkd])
        have hone' : ¬ (kz : Int) = 1 := by omega
        clear HE hw1 hkd
        go_wp2
        go_roundw
        case rel => 
          refine ⟨k + 1, by omega, by go_num, ?_, ?_⟩
          · rw [HS.out]; exact HM.out.keeps (S := []) (Keeps.alloc [] _ _) (by simp) (by simp)
          · exact HK.out.trans (Keeps.alloc [] _ _)
        case measure => simp [intOf]; omega
    · obtain rfl : k = n := by omega
      have hall : rs.take k = rs := List.take_of_length_le (by rw [HRN.out]; exact Nat.le_refl _)
      rw [hall] at HM
      go_wp2
      go_ret
      exact ⟨rfl, HM.out, HK.out⟩
end Go.Proofs.YtlnmbfddhdjioaaGreat
