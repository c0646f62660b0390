/-
  Keys and values: the examples.
-/
import Derived.Test.YtlnmbfddhdjioaaGreatCfgMean
import Derived.Test.YtlnmbfddhdjioaaGreatRingHeadsA
import Derived.Lib.ConvBytes
namespace Go.Proofs.YtlnmbfddhdjioaaGreat
open Go.RowKit

theorem conv_str (V : World) (l : List UInt8) : ∃ X cap, (convert 9 23 (.string ⟨l.toArray⟩)).run Tryz.prog V = .ok (.slice (some ⟨V.heap.size, 0, none⟩) l.length cap) X ∧ Keeps [] V X ∧ BytesAt V.heap.size X (.slice (some ⟨V.heap.size, 0, none⟩) l.length cap) l := by
  have h := Lib.run_convert_string_bytes (P := Tryz.prog) V 9 23 5 ⟨l.toArray⟩ Tryz.underlying9 Tryz.underlying23 Tryz.underlying5
  have hs : (⟨l.toArray⟩ : ByteArray).size = l.length := by simp [ByteArray.size]
  rw [hs] at h
  have hk : Keeps [] V (Lib.bytesWorld V 5 ⟨l.toArray⟩) := by
    refine ⟨rfl, rfl, rfl, ?_, fun k hk _ => Lib.bytesWorld_at_old V _ _ k hk⟩
    rw [Lib.bytesWorld_size]; omega
  refine ⟨_, _, h, hk, V.heap.size, .inr ⟨_, _, rfl, ?_, fun _ => rfl, fun i c hc => ?_⟩, fun _ => ⟨Nat.le_refl _, by rw [Lib.bytesWorld_size]; omega⟩⟩
  · exact grownCap_ge V l.length 0 5
  · have hi := (List.getElem?_eq_some_iff.1 hc).1
    rw [Addr.add_off, Nat.zero_add, Lib.bytesWorld_cell V _ _ i (by rw [hs]; exact hi)]
    have : l.getD i 0 = c := by rw [List.getD_eq_getElem?_getD, hc]; rfl
    simp only [this]
    rfl

set_option maxRecDepth 100000 in
set_option maxHeartbeats 1000000 in
theorem got6_any {F B W N first n k i t : Nat} {es : List Ent} {s : FS} (w : World) (hF : FlashE w F B W s) (hc : Cfg N first n k i t es s) (ky vl : List UInt8) (hkl : ky.length ≤ 65536) (hg : getK ky es = some vl) :
    Calls Tryz.prog 35 #[.pointer (some ⟨F, 0, none⟩), .agg #[.int .i64 first, .int .i64 n], .string ⟨ky.toArray⟩, .string ⟨vl.toArray⟩] w fun e w' => e = .returned (.bool true) ∧ Keeps [] w w' := by
  have HF := Lib.hid hF
  have HC := Lib.hid hc
  have HGK := Lib.hid hg
  clear hF hc hg
  go_enter Tryz.func35, Tryz.ntmps35
  go_upto_region 1 with (fail)
  generalize hV : World.alloc w _ = V
  have kV : Keeps [] w V := by rw [← hV]; exact Keeps.alloc [] _ _
  have wV : Whole V w.heap.size 25 [.int .i64 first, .int .i64 n] := by rw [← hV]; exact Whole.new w 25 [_, _]
  have v0 := (wV.cell 0).trans (show _ = some (Value.int .i64 (first : Int)) from rfl)
  have v1 := (wV.cell 1).trans (show _ = some (Value.int .i64 (n : Int)) from rfl)
  obtain ⟨X, cap, hrun, kX, hb⟩ := conv_str V ky
  obtain ⟨Mk, rk, _⟩ := hb
  have hG := Get_ok X (HF.out.keeps (kV.trans kX) (by simp) (by simp) (by simp) (by simp)) HC.out _ ky Mk rk (by unfold maxLen; omega)
  rw [HGK.out] at hG
  simp only [Option.isSome_some, Option.getD_some] at hG
  have HG := Lib.hid hG
  have KX := Lib.hid (kV.trans kX)
  clear hG rk kV kX wV hV
  go_upto_region 2 with (go_at_call 15; refine HG.out.mono ?_; rintro e w1 ⟨va, vn, vc, rfl, hb1, k1⟩; have HB1 := Lib.hid hb1; have K1 := Lib.hid (KX.out.trans k1); clear hb1 k1)
  obtain ⟨M1, r1, _⟩ := HB1.out
  have hcv := conv_reads r1
  clear r1
  go_wp2
  go_ret
  exact ⟨rfl, K1.out⟩

theorem inUse_fresh {F B W M N first n : Nat} {s : FS} (w : World) (hF : FlashAt w F B W M s) (hN : NewN N s) (hn : 3 ≤ n) (hf : first + n ≤ N) :
    Calls Tryz.prog 31 #[.pointer (some ⟨F, 0, none⟩), .agg #[.int .i64 first, .int .i64 n]] w fun e w' => e = .returned (.tuple #[.agg #[.slice none 0 0, .int .i64 0, .int .u8 0, .int .u32 0, .int .i64 0, .map none], .int .i64 50]) ∧ Keeps [] w w' :=
  inUse_none w hF hN.down first n hn (by rw [hN.wear, List.length_replicate]; exact hf) (hN.cfg first n hn hf hF.left0).2.1

theorem BytesAt.lit (w : World) (l : List UInt8) (cs : Array Value) (T : TypeId) (fr : Nat × Nat) (n : Nat) (hcs : cs = (l.map bv).toArray) (hn : n = l.length) : BytesAt 0 (w.alloc (.cells cs T fr)) (.slice (some ⟨w.heap.size, 0, none⟩) n n) l := by
  subst hn hcs
  refine ⟨w.heap.size, .inr ⟨_, _, rfl, Nat.le_refl _, fun _ => rfl, fun i c hc => ?_⟩, fun _ => ⟨Nat.zero_le _, by rw [World.size_alloc]; omega⟩⟩
  rw [Addr.add_off, Nat.zero_add, cell_of_row _ _ _ _ T fr (heap_alloc_new w _)]
  simp [hc]

theorem BytesAt.ofRow {w : World} {b cap : Nat} {T : TypeId} {l : List UInt8} (h : Row w b T (l.map bv) cap) : BytesAt 0 w (.slice (some ⟨b, 0, none⟩) l.length cap) l := ⟨b, h.reads, fun _ => ⟨Nat.zero_le _, h.lt⟩⟩
theorem BytesAt.ofNew {b : Nat} {w : World} {v : Value} {l : List UInt8} (h : New b w v l) : BytesAt 0 w v l := by
  obtain ⟨M, h1, _, h2⟩ := h
  exact ⟨M, h1, fun _ => ⟨Nat.zero_le _, h2⟩⟩

theorem bytes_away {S : List Nat} {w w' : World} {b n c : Nat} {l : List UInt8} (h : BytesAt 0 w (.slice (some ⟨b, 0, none⟩) n c) l) (hk : Keeps S w w') (hb : b ∉ S) : BytesAt 0 w' (.slice (some ⟨b, 0, none⟩) n c) l := by
  obtain ⟨M, h1, h2⟩ := h
  by_cases hl : l = []
  · subst hl
    obtain ⟨M', h1', hM'⟩ : ∃ M', Reads w (.slice (some ⟨b, 0, none⟩) n c) [] M' ∧ M' ∉ S := ⟨b, h1.anyBlock b, hb⟩
    exact ⟨M', h1'.keeps hk hM', fun h => absurd rfl h⟩
  · obtain ⟨off, cap, he, h3, h4⟩ := h1.at hl
    cases he
    have := h2 hl
    have hs := hk.size
    exact ⟨b, h1.keeps hk hb, fun _ => ⟨Nat.zero_le _, by omega⟩⟩

def longL (j : Nat) : List UInt8 := if j = 0 then List.replicate 64 7 else awL (j - 1)
theorem longL_length (j : Nat) : (longL j).length = 64 := by unfold longL; split; · simp
                                                             · exact awL_length _
theorem longL_set (j : Nat) : (longL j).set 0 (UInt8.ofNat j) = awL j := by
  unfold longL
  split
  · rename_i h; subst h; rfl
  · rfl
theorem longL_succ (j : Nat) : longL (j + 1) = awL j := by unfold longL; rw [if_neg (by omega)]; rfl

theorem aw_look {F B W M i t n k : Nat} {es : List Ent} {s : FS} (U : World) (hF : FlashAt U F B W M s) (hc : Cfg 8 1 3 k i t es s) (hn : n = 3) :
    Calls Tryz.prog 19 #[.pointer (some ⟨F, 0, none⟩), .int .i64 1, .int .i64 3] U fun e w' => ∃ g cp, e = .returned (.tuple #[.slice (some ⟨g, 0, none⟩) n cp, .int .i64 0]) ∧ HdrsAt w' (.slice (some ⟨g, 0, none⟩) n cp) (lookL s.bs 1 3) ∧ Keeps [] U w' := by
  subst hn
  have := Look_ok U hF hc.down 1 3 (by omega) (by have := hc.wl; omega)
  exact this.mono fun e w' ⟨g, cp, h1, _, h2, h3⟩ => ⟨g, cp, h1, h2, h3⟩

theorem aw_newest {i t k : Nat} {es : List Ent} {s : FS} (hc : Cfg 8 1 3 k i t es s) (hi : i < 100) (U : World) (v : Value) (hU : HdrsAt U v (lookL s.bs 1 3)) (ki ii : Int) (hk : ki = k) (hii : ii = i) :
    Calls Tryz.prog 20 #[v] U fun e w' => e = .returned (.tuple #[.agg #[.int .i64 ki, .int .u8 1, .int .u32 ii], .bool true]) ∧ Keeps [] U w' := by
  have := Newest_any U v _ hU (by rw [lookL_length]; omega)
  rw [hc.new] at this
  simp only [Option.getD_some, Option.isSome_some, hdrCells, uv] at this
  rw [num_ofNat i (by omega)] at this
  rw [hk, hii]
  exact this

theorem Aw.cfg {j : Nat} {s : FS} (h : Aw (j + 1) s) (hj : j < 3) : ∃ k i t, Cfg 8 1 3 k i t [(awA, awL j)] s := by
  by_cases h2 : j = 2
  · subst h2; exact ⟨_, _, _, (h.there (by omega)).1⟩
  · have := (h.here (by omega)).1
    rw [if_neg (by omega), show j + 1 - 1 = j by omega] at this
    exact ⟨_, _, _, this⟩

theorem aw_set {F B W k i t : Nat} {es : List Ent} {s s' : FS} {r : Int} (U : World) (hF : FlashE U F B W s) (hc : Cfg 8 1 3 k i t es s) (ht : t < 1000000) (kv vv : Value) (ky vl : List UInt8) (hk : BytesAt 0 U kv ky) (hv : BytesAt 0 U vv vl) (hq : s.setK 1 3 k i es ky vl = (s', r)) :
    Calls Tryz.prog 26 #[.pointer (some ⟨F, 0, none⟩), .agg #[.int .i64 1, .int .i64 3], kv, vv] U fun e w' => e = .returned (.int .i64 r) ∧ FlashE w' F B W s' ∧ Keeps [F, B, W] U w' := by
  have := Set_any U hF hc (by omega) ht kv vv ky vl hk hv
  rw [hq] at this
  exact this

theorem aw_got {F B W k i t : Nat} {es : List Ent} {s : FS} (U : World) (hF : FlashE U F B W s) (hc : Cfg 8 1 3 k i t es s) (ky vl : List UInt8) (hkl : ky.length ≤ 65536) (hg : getK ky es = some vl) (ks vs : ByteArray) (h1 : ks = ⟨ky.toArray⟩) (h2 : vs = ⟨vl.toArray⟩) :
    Calls Tryz.prog 35 #[.pointer (some ⟨F, 0, none⟩), .agg #[.int .i64 1, .int .i64 3], .string ks, .string vs] U fun e w' => e = .returned (.bool true) ∧ Keeps [] U w' := by
  rw [h1, h2]
  exact got6_any U hF hc ky vl hkl hg

theorem aw_del {F B W k i t : Nat} {es : List Ent} {s : FS} (U : World) (hF : FlashE U F B W s) (hc : Cfg 8 1 3 k i t es s) (kv : Value) (ky : List UInt8) (hk : BytesAt 0 U kv ky) (h0 : 1 ≤ ky.length ∧ ky.length ≤ 16) (hg : getK ky es = none) :
    Calls Tryz.prog 25 #[.pointer (some ⟨F, 0, none⟩), .agg #[.int .i64 1, .int .i64 3], kv] U fun e w' => e = .returned (.int .i64 60) ∧ Keeps [] U w' :=
  Del_key U hF hc kv ky hk h0 hg

set_option maxRecDepth 100000 in
set_option maxHeartbeats 4000000 in
theorem awake6_any (w : World) : Calls Tryz.prog 17 #[] w fun e w' => e = .returned (.bool true) ∧ Keeps [] w w' := by
  have HNW := Lib.hid (New_ok w 8 (by decide) (by decide))
  have kc := fun (w : World) (C : Array Value) (n c : Nat) => Lib.run_convert_bytes_const (P := Tryz.prog) w 23 5 C n c Tryz.underlying23 Tryz.underlying5
  go_enter Tryz.func17, Tryz.ntmps17
  go_upto_region 2 with (go_at_call 18; refine HNW.out.mono ?_; rintro e w1 ⟨F, B, W, M, rfl, h1, h2, h3, hf1, k1⟩; have HF1 := Lib.hid hf1; have K1 := Lib.hid k1; have n1 := k1.size; clear k1 hf1)
  go_upto_region 3 with (fail)
  generalize hV : World.alloc w1 _ = V
  have kV : Keeps [] w1 V := by rw [← hV]; exact Keeps.alloc [] _ _
  have wV : Whole V w1.heap.size 25 [.int .i64 1, .int .i64 3] := by rw [← hV]; exact Whole.new w1 25 [_, _]
  have v0 := (wV.cell 0).trans (show _ = some (Value.int .i64 1) from rfl)
  have v1 := (wV.cell 1).trans (show _ = some (Value.int .i64 3) from rfl)
  have KV := Lib.hid (K1.out.trans kV)
  have HFV := Lib.hid (HF1.out.keeps kV (by simp) (by simp) (by simp) (by simp))
  have WV := Lib.hid wV
  have nV := kV.size
  have hFl := (HF1.out.lt).1
  have hBl := (HF1.out.lt).2.1
  have hWl := (HF1.out.lt).2.2
  clear hV kV wV
  have HAL := Lib.hid (show Calls Tryz.prog 13 #[.pointer (some ⟨F, 0, none⟩), .agg #[.int .i64 1, .int .i64 3]] V fun e w' => e = .returned (.tuple #[.slice none 0 0, .int .i64 50]) ∧ Keeps [] V w' from
    All_err V _ 1 3 50 (by decide) (fun U hU => inUse_fresh (first := 1) (n := 3) U (HFV.out.keeps hU (by simp) (by simp) (by simp) (by simp)) (newN 8) (by omega) (by omega)))
  have HMK := Lib.hid (show ∀ U, Keeps [] V U → Calls Tryz.prog 6 #[.pointer (some ⟨F, 0, none⟩), .agg #[.int .i64 1, .int .i64 3]] U fun e w' => e = .returned (.int .i64 0) ∧ FlashAt w' F B W M ((FS.new 8).withHead 1 (BitVec.ofNat 32 1)) ∧ Keeps [F, B, W] U w' from
    fun U hU => Make_new (first := 1) (n := 3) U (HFV.out.keeps hU (by simp) (by simp) (by simp) (by simp)) (newN 8) (by omega) (by omega))
  have hW0 := Lib.hid WV.out
  go_upto_region 4 with (go_at_call 13; refine HAL.out.mono ?_; rintro e w2 ⟨rfl, k2⟩; have K2 := Lib.hid (KV.out.trans k2); have K2V := Lib.hid k2; have W2 := Lib.hid (WV.out.keeps k2 (by simp)); have n2 := k2.size; clear k2)
  have u0 := (W2.out.cell 0).trans (show _ = some (Value.int .i64 1) from rfl)
  have u1 := (W2.out.cell 1).trans (show _ = some (Value.int .i64 3) from rfl)
  go_upto_region 6 with (first
    | (go_at_call 6; refine (HMK.out _ K2V.out).mono ?_; rintro e w3 ⟨rfl, hf3, k3⟩; have HF3 := Lib.hid hf3; have K3 := Lib.hid (K2.out.then k3 (T := [F, B, W]) (S := []) (fun x hx => by simp at hx; right; rcases hx with rfl | rfl | rfl <;> omega)); have W3 := Lib.hid (W2.out.keeps k3 (by simp; omega)); have n3 := k3.size; clear k3 hf3)
    | (go_at_call 33; refine (Room_any _).mono ?_; rintro e w4 ⟨rfl, k4⟩; have K4 := Lib.hid (K3.out.trans k4); have W4 := Lib.hid (W3.out.keeps k4 (by simp)); have HF4 := Lib.hid (HF3.out.keeps k4 (by simp) (by simp) (by simp) (by simp)); have n4 := k4.size; clear k4))
  have HA7 := Lib.hid (fun U => lowAll_any U 7 64 (by decide) (by decide))
  have HB0 := Lib.hid (BytesAt.lit w4 awA #[.int .u8 97] 5 (1, 2) 1 rfl rfl)
  go_upto_region 7 with (go_at_call 34; refine (HA7.out _).mono ?_; rintro e w5 ⟨bL, kL, rfl, hbL, rL, k5⟩; have HA5 := Lib.hid (HB0.out.keeps k5 (by simp)); have K5 := Lib.hid ((K4.out.trans (Keeps.alloc [] w4 _)).trans k5); have W5 := Lib.hid ((W4.out.keeps (S := []) (Keeps.alloc [] w4 _) (by simp)).keeps k5 (by simp)); have HF5 := Lib.hid ((HF4.out.keeps (S := []) (Keeps.alloc [] w4 _) (by simp) (by simp) (by simp) (by simp)).keeps k5 (by simp) (by simp) (by simp) (by simp)); have RL5 := Lib.hid rL; have n5 := k5.size; clear k5 rL)
  rw [World.size_alloc] at hbL
  have hAB : w4.heap.size < w5.heap.size := by have := n5; rw [World.size_alloc] at this; omega
  generalize w4.heap.size = AB at *
  obtain ⟨s1, q1, aw0, hbs1⟩ := aw_start (newN 8) (Int.le_refl _) rfl
  have hc0 := ((newN 8).cfg 1 3 (by omega) (by omega) (Int.le_refl _)).1
  have HE5 := Lib.hid (FlashE.of HF5.out (.inl rfl))
  have HST := Lib.hid (fun U vv (hU : Keeps [] w5 U) (hv : BytesAt 0 U vv awOne) => aw_set U (HE5.out.keeps hU (by simp) (by simp) (by simp) (by simp)) hc0 (by omega) _ vv awA awOne (HA5.out.keeps hU (by simp)) hv q1)
  have hcA : Cfg 8 1 3 1 1 5 [(awA, awOne)] s1 := (aw0.here (by omega)).1
  have HCA := Lib.hid hcA
  have HRD := Lib.hid (aw_read (s := (FS.new 8).withHead 1 (BitVec.ofNat 32 1)) (s' := s1) (by rw [withHead_len _ _ _ (by decide)]; rfl) hbs1)
  have HAW := Lib.hid aw0
  clear hbs1 q1 hc0 aw0 HF5 hcA
  have hRB : w1.heap.size < w5.heap.size := by have := W5.out.lt; omega
  generalize w1.heap.size = Rb at *
  have r0 := (W5.out.cell 0).trans (show _ = some (Value.int .i64 1) from rfl)
  have r1 := (W5.out.cell 1).trans (show _ = some (Value.int .i64 3) from rfl)
  have hbL5 : bL < w5.heap.size := RL5.out.lt
  have hFR : F < Rb ∧ B < Rb ∧ W < Rb ∧ F < AB ∧ B < AB ∧ W < AB ∧ F < bL ∧ B < bL ∧ W < bL := by omega
  have hwb : w.heap.size ≤ bL := by omega
  have hRA : bL ≠ Rb ∧ bL ≠ AB := by omega
  have HW16 := Lib.hid (fun U (hU : BytesAt 0 U (.slice (some ⟨AB, 0, none⟩) 1 1) awA) => by have := Weight_any U _ _ awA awA 0 0 hU hU (by obtain ⟨M, _, h⟩ := hU; have := (h (by simp [awA])).2; omega); rw [w_ok (a := 1) (b := 1) rfl rfl (by omega) (by omega)] at this; exact this)
  have HW80 := Lib.hid (fun U (hU : BytesAt 0 U (.slice (some ⟨AB, 0, none⟩) 1 1) awA) (hL : BytesAt 0 U (.slice (some ⟨bL, 0, none⟩) 64 kL) (List.replicate 64 7)) => by have := Weight_any U _ _ awA (List.replicate 64 7) 0 0 hU hL (by obtain ⟨M, _, h⟩ := hU; have := (h (by simp [awA])).2; omega); rw [w_ok (a := 1) (b := 64) rfl (by simp) (by omega) (by omega)] at this; exact this)
  have HL5 := Lib.hid (show BytesAt 0 w5 (.slice (some ⟨bL, 0, none⟩) 64 kL) (List.replicate 64 7) from by have := BytesAt.ofRow RL5.out; rwa [List.length_replicate] at this)
  clear v0 v1 u0 u1 n1 n2 n3 n4 nV
  go_upto_region 9 with (first
    | (go_at_call 26; (refine (HST.out _ _ (Keeps.alloc [] w5 _) (BytesAt.lit w5 awOne #[.int .u8 49] 5 (1, 2) 1 rfl rfl)).mono ?_); rintro e w6 ⟨rfl, hf6, k6⟩; have kk := (Keeps.alloc [] w5 (.cells #[.int .u8 49] 5 (1, 2))).mono (T := [F, B, W]) (by simp) |>.trans k6; have HF6 := Lib.hid hf6; have K6 := Lib.hid (K5.out.then kk (T := [F, B, W]) (S := []) (fun x hx => by simp at hx; right; rcases hx with rfl | rfl | rfl <;> omega)); have W6 := Lib.hid (W5.out.keeps kk (by simp; omega)); have HA6 := Lib.hid (show BytesAt 0 w6 _ awA from bytes_away HA5.out kk (by simp; omega)); have HL6 := Lib.hid (show BytesAt 0 w6 _ _ from bytes_away HL5.out kk (by simp; omega)); have RL6 := Lib.hid (RL5.out.keeps kk (by simp; omega)); have n6 := kk.size; have q6a := (W6.out.cell 0).trans (show _ = some (Value.int .i64 1) from rfl); have q6b := (W6.out.cell 1).trans (show _ = some (Value.int .i64 3) from rfl); clear kk k6 hf6)
    | (go_at_call 35; (refine (aw_got _ HF6.out HCA.out awA awOne (by decide) (get_single _ _) _ _ rfl rfl).mono ?_); rintro e w7 ⟨rfl, k7⟩; have K7 := Lib.hid (K6.out.trans k7); have W7 := Lib.hid (W6.out.keeps k7 (by simp)); have HF7 := Lib.hid (HF6.out.keeps k7 (by simp) (by simp) (by simp) (by simp)); have HA7 := Lib.hid (HA6.out.keeps k7 (by simp)); have HL7 := Lib.hid (HL6.out.keeps k7 (by simp)); have RL7 := Lib.hid (RL6.out.keeps k7 (by simp)); have n7 := k7.size; have q7a := (W7.out.cell 0).trans (show _ = some (Value.int .i64 1) from rfl); have q7b := (W7.out.cell 1).trans (show _ = some (Value.int .i64 3) from rfl); clear k7)
    | (go_at_call 11; (with_reducible refine (HW80.out _ HA8.out HL8.out).mono ?_); rintro e w9 ⟨rfl, k9⟩; have K9 := Lib.hid (K8.out.trans k9); have W9 := Lib.hid (W8.out.keeps k9 (by simp)); have HF9 := Lib.hid (HF8.out.keeps k9 (by simp) (by simp) (by simp) (by simp)); have HA9 := Lib.hid (HA8.out.keeps k9 (by simp)); have HL9 := Lib.hid (HL8.out.keeps k9 (by simp)); have RL9 := Lib.hid (RL8.out.keeps k9 (by simp)); have n9 := k9.size; have q9a := (W9.out.cell 0).trans (show _ = some (Value.int .i64 1) from rfl); have q9b := (W9.out.cell 1).trans (show _ = some (Value.int .i64 3) from rfl); clear k9)
    | (go_at_call 11; (with_reducible refine (HW16.out _ HA7.out).mono ?_); rintro e w8 ⟨rfl, k8⟩; have K8 := Lib.hid (K7.out.trans k8); have W8 := Lib.hid (W7.out.keeps k8 (by simp)); have HF8 := Lib.hid (HF7.out.keeps k8 (by simp) (by simp) (by simp) (by simp)); have HA8 := Lib.hid (HA7.out.keeps k8 (by simp)); have HL8 := Lib.hid (HL7.out.keeps k8 (by simp)); have RL8 := Lib.hid (RL7.out.keeps k8 (by simp)); have n8 := k8.size; have q8a := (W8.out.cell 0).trans (show _ = some (Value.int .i64 1) from rfl); have q8b := (W8.out.cell 1).trans (show _ = some (Value.int .i64 3) from rfl); clear k8)
    | (go_at_call 25; (refine (aw_del _ (HF9.out.keeps (Keeps.alloc [] w9 _) (by simp) (by simp) (by simp) (by simp)) HCA.out _ awB (BytesAt.lit w9 awB #[.int .u8 98] 5 (1, 2) 1 rfl rfl) (by decide) (by decide)).mono ?_); rintro e w10 ⟨rfl, k10'⟩; have k10 := (Keeps.alloc [] w9 (.cells #[.int .u8 98] 5 (1, 2))).trans k10'; have K10 := Lib.hid (K9.out.trans k10); have W10 := Lib.hid (W9.out.keeps k10 (by simp)); have HF10 := Lib.hid (HF9.out.keeps k10 (by simp) (by simp) (by simp) (by simp)); have HA10 := Lib.hid (HA9.out.keeps k10 (by simp)); have HL10 := Lib.hid (HL9.out.keeps k10 (by simp)); have RL10 := Lib.hid (RL9.out.keeps k10 (by simp)); have n10 := k10.size; have q10a := (W10.out.cell 0).trans (show _ = some (Value.int .i64 1) from rfl); have q10b := (W10.out.cell 1).trans (show _ = some (Value.int .i64 3) from rfl); clear k10 k10'))
  clear q6a q6b q7a q7b q8a q8b q9a q9b r0 r1
  have hRD := (fun M hM => Read_ok (F := F) (B := B) (W := W) (M := M) (s := s1) w10 hM 276 4 HCA.out.down (by unfold FS.has; have := HCA.out.len; omega))
  have HRDD := Lib.hid hRD
  clear hRD
  go_upto_region 10 with (go_at_call 36; obtain ⟨M10, hM10, _⟩ := HF10.out; refine (HRDD.out _ hM10).mono ?_; rintro e w11 ⟨bR, cR, rfl, hbR, rR, k11⟩; have RR := Lib.hid rR; have HRRl := rR.lt; have K11 := Lib.hid (K10.out.trans k11); have W11 := Lib.hid (W10.out.keeps k11 (by simp)); have HF11 := Lib.hid (HF10.out.keeps k11 (by simp) (by simp) (by simp) (by simp)); have HA11 := Lib.hid (HA10.out.keeps k11 (by simp)); have HL11 := Lib.hid (HL10.out.keeps k11 (by simp)); have RL11 := Lib.hid (RL10.out.keeps k11 (by simp)); have n11 := k11.size; have q11a := (W11.out.cell 0).trans (show _ = some (Value.int .i64 1) from rfl); have q11b := (W11.out.cell 1).trans (show _ = some (Value.int .i64 3) from rfl); clear k11 rR hM10)
  have HIS := Lib.hid (show ∀ U, Row U bR 5 ((s1.part 276 4).map bv) cR → ∀ v M2, Reads U v [0, 4, 255, 251] M2 → Calls Tryz.prog 10 #[.slice (some ⟨bR, 0, none⟩) 4 cR, v] U fun e w' => e = .returned (.bool true) ∧ U = w' from fun U hU v M2 h2 => by
    have hl : (s1.part 276 4).length = 4 := FS.part_length _ _ _ (by unfold FS.has; have := HCA.out.len; omega)
    have h1 := hU.reads
    rw [hl] at h1
    have := Is_any U _ v (s1.part 276 4) [0, 4, 255, 251] bR M2 h1 h2
    rw [HRD.out] at this; exact this)
  go_upto_region 12 with (go_at_call 10; obtain ⟨M2, h2, _⟩ := BytesAt.lit w11 [0, 4, 255, 251] #[.int .u8 0, .int .u8 4, .int .u8 255, .int .u8 251] 5 (0, 0) 4 rfl rfl; refine (HIS.out _ (RR.out.keeps (Keeps.alloc [] w11 _) (by simp)) _ M2 h2).mono ?_; rintro e w12 ⟨rfl, rfl⟩; clear h2)
  generalize hX : World.alloc w11 _ = w13
  have k13 : Keeps [] w11 w13 := by rw [← hX]; exact Keeps.alloc [] _ _
  have K13 := Lib.hid (K11.out.trans k13)
  have W13 := Lib.hid (W11.out.keeps k13 (by simp))
  have HF13 := Lib.hid (HF11.out.keeps k13 (by simp) (by simp) (by simp) (by simp))
  have HA13 := Lib.hid (HA11.out.keeps k13 (by simp))
  have RL13 := Lib.hid (RL11.out.keeps k13 (by simp))
  have n13 := k13.size
  clear hX k13 q10a q10b q11a q11b HIS HRDD HRD HST HW16 HW80 HNW HA7
  go_upto_region 13 with (fail)
  go_loopw [95] (fun ix wr => ∃ (j : Nat) (s : FS), j ≤ 3 ∧ ix = .int .i64 j ∧ Hid (Aw j s) ∧ Hid (FlashE wr F B W s) ∧ Hid (Whole wr Rb 25 [.int .i64 1, .int .i64 3]) ∧ Hid (BytesAt 0 wr (.slice (some ⟨AB, 0, none⟩) 1 1) awA) ∧ Hid (Row wr bL 5 ((longL j).map bv) kL) ∧ Hid (Keeps [] w wr) ∧ w5.heap.size ≤ wr.heap.size) (fun ix _ => 3 - (intOf ix).toNat)
  case atStart => exact ⟨0, s1, by omega, rfl, HAW, HF13, W13, HA13, RL13, K13, by omega⟩
  case round =>
    obtain ⟨j, s, hj, rfl, HAj, HFj, Wj, HJA, RLj, KJ, nj⟩ := hrel
    clear K5 W5 HF4 HA5 HE5 RL5 HL5 HCA HAW W13 HF13 HA13 RL13 K13
    by_cases hlt : j < 3
    · obtain ⟨hcj, hej, hwj⟩ := HAj.out.here (by omega)
      obtain ⟨s', q', aw'⟩ := HAj.out.step hlt
      have HCJ := Lib.hid hcj
      have HQ := Lib.hid q'
      have HAJ := Lib.hid aw'
      clear hcj hej hwj q' aw'
      have hd1 : (j : Int) < 3 := by omega
      have hw8 : IntKind.u8.wrap (j : Int) = (j : Int) := by unfold IntKind.wrap; simp [IntKind.signed, IntKind.bits]; omega
      obtain ⟨x0, hx0⟩ : ∃ x0, ((longL j).map bv)[0]? = some x0 := ⟨_, List.getElem?_eq_getElem (by rw [List.length_map, longL_length]; decide)⟩
      have c0 := RLj.out.cell 0 hx0
      have f0 := RLj.out.frozen 0
      have hbv : Value.int .u8 (j : Int) = bv (UInt8.ofNat j) := by unfold bv; rw [ofNat_toNat]; congr 1; omega
      have rY := RLj.out.set 0 (bv (UInt8.ofNat j))
      rw [← List.map_set, longL_set, ← hbv] at rY
      have kY := Keeps.setCell (S := [bL]) wr (p := ⟨bL, 0, none⟩) (List.mem_singleton.2 rfl) (.int .u8 (j : Int))
      have hw9 : (j : Int) % 256 = (j : Int) := by omega
      clear hbv hx0
      go_upto_region 16 with (fail)
      generalize hY : World.setCell wr _ _ = Y at *
      have WY := Lib.hid (Wj.out.keeps kY (by simp; omega))
      have HFY := Lib.hid (HFj.out.keepsNil HAj.out.mask kY (by simp; omega) (by simp; omega) (by simp; omega))
      have HAY := Lib.hid (bytes_away HJA.out kY (by simp; omega))
      have RLY := Lib.hid rY
      have KY := Lib.hid (KJ.out.then kY (S := []) (T := [bL]) (fun x hx => by simp at hx; right; omega))
      have nY := kY.size
      have hLY := BytesAt.ofRow rY
      rw [awL_length] at hLY
      have HLY := Lib.hid hLY
      clear hY kY rY c0 f0 hLY
      obtain ⟨kc', ic', tc', hcc⟩ := HAJ.out.cfg hlt
      have HCC := Lib.hid hcc
      clear hcc
      go_upto_region 18 with (first
        | (go_at_call 19; obtain ⟨My, hMy, _⟩ := HFY.out; refine (aw_look Y hMy HCJ.out rfl).mono ?_; rintro e w14 ⟨gh, ch, rfl, hh14, k14⟩; have HH14 := Lib.hid hh14; have K14 := Lib.hid (KY.out.trans k14); have W14 := Lib.hid (WY.out.keeps k14 (by simp)); have HF14 := Lib.hid (HFY.out.keeps k14 (by simp) (by simp) (by simp) (by simp)); have HA14 := Lib.hid (HAY.out.keeps k14 (by simp)); have HL14 := Lib.hid (HLY.out.keeps k14 (by simp)); have RL14 := Lib.hid (RLY.out.keeps k14 (by simp)); have n14 := k14.size; clear k14 hh14 hMy)
        | (go_at_call 20; refine (aw_newest HCJ.out (by decide) _ _ HH14.out 1 1 rfl rfl).mono ?_; rintro e w15 ⟨rfl, k15⟩; have K15 := Lib.hid (K14.out.trans k15); have W15 := Lib.hid (W14.out.keeps k15 (by simp)); have HF15 := Lib.hid (HF14.out.keeps k15 (by simp) (by simp) (by simp) (by simp)); have HA15 := Lib.hid (HA14.out.keeps k15 (by simp)); have HL15 := Lib.hid (HL14.out.keeps k15 (by simp)); have RL15 := Lib.hid (RL14.out.keeps k15 (by simp)); have n15 := k15.size; clear k15))
      generalize hZ : World.alloc w15 _ = Z
      have kZ : Keeps [] w15 Z := by rw [← hZ]; exact Keeps.alloc [] _ _
      have wZ : Whole Z w15.heap.size 60 [.int .i64 1, .int .u8 1, .int .u32 1] := by rw [← hZ]; exact Whole.new w15 60 [_, _, _]
      have z0 := (wZ.cell 0).trans (show _ = some (Value.int .i64 1) from rfl)
      have KZ := Lib.hid (K15.out.trans kZ)
      have WZ := Lib.hid (W15.out.keeps kZ (by simp))
      have HFZ := Lib.hid (HF15.out.keeps kZ (by simp) (by simp) (by simp) (by simp))
      have HAZ := Lib.hid (HA15.out.keeps kZ (by simp))
      have HLZ := Lib.hid (HL15.out.keeps kZ (by simp))
      have RLZ := Lib.hid (RL15.out.keeps kZ (by simp))
      have nZ := kZ.size
      clear hZ kZ wZ
      have y0 := (WZ.out.cell 0).trans (show _ = some (Value.int .i64 1) from rfl)
      have y1 := (WZ.out.cell 1).trans (show _ = some (Value.int .i64 3) from rfl)
      have HSET := Lib.hid (aw_set Z HFZ.out HCJ.out (by omega) _ _ awA (awL j) HAZ.out HLZ.out HQ.out)
      go_wp2_with (first
        | (go_at_call 26; refine HSET.out.mono ?_; rintro e w16 ⟨rfl, hf16, k16⟩; have HF16 := Lib.hid hf16; have K16 := Lib.hid (KZ.out.then k16 (S := []) (T := [F, B, W]) (fun x hx => by simp at hx; right; rcases hx with rfl | rfl | rfl <;> omega)); have W16 := Lib.hid (WZ.out.keeps k16 (by simp; omega)); have HA16 := Lib.hid (bytes_away HAZ.out k16 (by simp; omega)); have RL16 := Lib.hid (RLZ.out.keeps k16 (by simp; omega)); have n16 := k16.size; have x0 := (W16.out.cell 0).trans (show _ = some (Value.int .i64 1) from rfl); have x1 := (W16.out.cell 1).trans (show _ = some (Value.int .i64 3) from rfl); have hcv := conv_reads (RL16.out.reads); rw [awL_length] at hcv; clear k16 hf16)
        | (go_at_call 35; refine (aw_got _ HF16.out HCC.out awA (awL j) (by decide) (get_single _ _) _ _ rfl rfl).mono ?_; rintro e w17 ⟨rfl, k17⟩; have K17 := Lib.hid (K16.out.trans k17); have W17 := Lib.hid (W16.out.keeps k17 (by simp)); have HF17 := Lib.hid (HF16.out.keeps k17 (by simp) (by simp) (by simp) (by simp)); have HA17 := Lib.hid (HA16.out.keeps k17 (by simp)); have RL17 := Lib.hid (RL16.out.keeps k17 (by simp)); have n17 := k17.size; clear k17))
      go_roundw
      case rel => exact ⟨j + 1, s', by omega, by go_num, HAJ, HF17, W17, HA17, Lib.hid (by rw [longL_succ]; exact RL17.out), K17, by omega⟩
      case measure => simp [intOf]; omega
    · obtain rfl : j = 3 := by omega
      obtain ⟨h3, _⟩ := HAj.out.there (by omega)
      obtain ⟨s', q', qm, hc', q'', hg'⟩ := HAj.out.last
      have HC3 := Lib.hid h3
      have HC4 := Lib.hid hc'
      have HQ1 := Lib.hid q'
      have HQ2 := Lib.hid q''
      have HG3 := Lib.hid hg'
      clear h3 q' hc' q'' hg'
      have hL3 := BytesAt.ofRow RLj.out
      rw [longL_length, show longL 3 = awL 2 from rfl] at hL3
      have HL3 := Lib.hid hL3
      have RL3 := Lib.hid (show Row wr bL 5 ((awL 2).map bv) kL from RLj.out)
      clear hL3 RLj
      go_upto_region 23 with (first
        | (go_at_call 19; obtain ⟨My, hMy, _⟩ := HFj.out; refine (aw_look wr hMy HC3.out rfl).mono ?_; rintro e w14 ⟨gh, ch, rfl, hh14, k14⟩; have HH14 := Lib.hid hh14; have K14 := Lib.hid (KJ.out.trans k14); have W14 := Lib.hid (Wj.out.keeps k14 (by simp)); have HF14 := Lib.hid (HFj.out.keeps k14 (by simp) (by simp) (by simp) (by simp)); have HL14 := Lib.hid (HL3.out.keeps k14 (by simp)); have RL14 := Lib.hid (RL3.out.keeps k14 (by simp)); have n14 := k14.size; clear k14 hh14 hMy)
        | (go_at_call 20; refine (aw_newest HC3.out (by decide) _ _ HH14.out 2 2 rfl rfl).mono ?_; rintro e w15 ⟨rfl, k15⟩; have K15 := Lib.hid (K14.out.trans k15); have W15 := Lib.hid (W14.out.keeps k15 (by simp)); have HF15 := Lib.hid (HF14.out.keeps k15 (by simp) (by simp) (by simp) (by simp)); have HL15 := Lib.hid (HL14.out.keeps k15 (by simp)); have RL15 := Lib.hid (RL14.out.keeps k15 (by simp)); have n15 := k15.size; clear k15))
      generalize hZ : World.alloc w15 _ = Z
      have kZ : Keeps [] w15 Z := by rw [← hZ]; exact Keeps.alloc [] _ _
      have wZ : Whole Z w15.heap.size 60 [.int .i64 2, .int .u8 1, .int .u32 2] := by rw [← hZ]; exact Whole.new w15 60 [_, _, _]
      have z0 := (wZ.cell 0).trans (show _ = some (Value.int .i64 2) from rfl)
      have z2 := (wZ.cell 2).trans (show _ = some (Value.int .u32 2) from rfl)
      have KZ := Lib.hid (K15.out.trans kZ)
      have WZ := Lib.hid (W15.out.keeps kZ (by simp))
      have HFZ := Lib.hid (HF15.out.keeps kZ (by simp) (by simp) (by simp) (by simp))
      have HLZ := Lib.hid (HL15.out.keeps kZ (by simp))
      have RLZ := Lib.hid (RL15.out.keeps kZ (by simp))
      have nZ := kZ.size
      clear hZ kZ wZ
      have y0 := (WZ.out.cell 0).trans (show _ = some (Value.int .i64 1) from rfl)
      have y1 := (WZ.out.cell 1).trans (show _ = some (Value.int .i64 3) from rfl)
      go_wp2_with (first
        | (go_at_call 26; refine (aw_set _ (HF16.out.keeps (Keeps.alloc [] w16 _) (by simp) (by simp) (by simp) (by simp)) HC4.out (by omega) _ _ awC (awL 2) (BytesAt.lit w16 awC #[.int .u8 99] 5 (1, 2) 1 rfl rfl) (bytes_away HL16.out (Keeps.alloc [] w16 _) (by simp)) HQ2.out).mono ?_; rintro e w18 ⟨rfl, hf18, k18'⟩; have k18 := ((Keeps.alloc [] w16 (.cells #[.int .u8 99] 5 (1, 2))).mono (T := [F, B, W]) (by simp)).trans k18'; have HF18 := Lib.hid hf18; have K18 := Lib.hid (K16.out.then k18 (S := []) (T := [F, B, W]) (fun x hx => by simp at hx; right; rcases hx with rfl | rfl | rfl <;> omega)); have W18 := Lib.hid (W16.out.keeps k18 (by simp; omega)); have RL18 := Lib.hid (RL16.out.keeps k18 (by simp; omega)); have t0 := (W18.out.cell 0).trans (show _ = some (Value.int .i64 1) from rfl); have t1 := (W18.out.cell 1).trans (show _ = some (Value.int .i64 3) from rfl); have hcv := conv_reads (RL18.out.reads); rw [awL_length] at hcv; clear k18 k18' hf18)
        | (go_at_call 26; refine (aw_set _ (HFZ.out.keeps (Keeps.alloc [] Z _) (by simp) (by simp) (by simp) (by simp)) HC3.out (by omega) _ _ awB (awL 2) (BytesAt.lit Z awB #[.int .u8 98] 5 (1, 2) 1 rfl rfl) (bytes_away HLZ.out (Keeps.alloc [] Z _) (by simp)) HQ1.out).mono ?_; rintro e w16 ⟨rfl, hf16, k16'⟩; have k16 := ((Keeps.alloc [] Z (.cells #[.int .u8 98] 5 (1, 2))).mono (T := [F, B, W]) (by simp)).trans k16'; have HF16 := Lib.hid hf16; have K16 := Lib.hid (KZ.out.then k16 (S := []) (T := [F, B, W]) (fun x hx => by simp at hx; right; rcases hx with rfl | rfl | rfl <;> omega)); have W16 := Lib.hid (WZ.out.keeps k16 (by simp; omega)); have HL16 := Lib.hid (bytes_away HLZ.out k16 (by simp; omega)); have RL16 := Lib.hid (RLZ.out.keeps k16 (by simp; omega)); have n16 := k16.size; have x0 := (W16.out.cell 0).trans (show _ = some (Value.int .i64 1) from rfl); have x1 := (W16.out.cell 1).trans (show _ = some (Value.int .i64 3) from rfl); clear k16 k16' hf16)
        | (go_at_call 35; refine (aw_got _ HF18.out HC4.out awB (awL 2) (by decide) HG3.out _ _ rfl rfl).mono ?_; rintro e w19 ⟨rfl, k19⟩; have K19 := Lib.hid (K18.out.trans k19); clear k19))
      go_ret
      exact ⟨rfl, K19.out⟩
end Go.Proofs.YtlnmbfddhdjioaaGreat
