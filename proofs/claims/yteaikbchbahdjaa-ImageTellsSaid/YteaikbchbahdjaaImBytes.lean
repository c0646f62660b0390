/-
  Words as bytes: a word's bytes put behind others (the program's), a word's bytes (the document's).
-/
import Derived.Test.YteaikbchbahdjaaImBase
import Derived.Lib.AppendStr
import Derived.OwnWalk
import Derived.Deep.Cut
namespace Go.Proofs.Yteaikbchbahdjaa
open Go.RowKit Go.Deep Go.Lib
set_option linter.unusedVariables false

theorem below_owned {base : Nat} {w wr w' : World} {T : TypeId} {size n : Nat} {v : Value} {xs : List Value} (hb : Below base w wr) (h : wr.ownsRow base T size v n xs) (hk : Keeps v.ownBlock.toList wr w') (hle : base ≤ w.heap.size) : Below base w w' :=
  ⟨hk.os.trans hb.os, hk.tape.trans hb.tape, hk.output.trans hb.output, Nat.le_trans hb.size hk.size, fun k hlt =>
    (hk.block k (by have := hb.size; omega) (fun e => by
      have e2 : v.ownBlock = some k := by simpa using e
      have := (h.lt k e2).1; omega)).trans (hb.block k hlt)⟩

theorem below_keeps {base : Nat} {w wr w' : World} (hb : Below base w wr) (hk : Keeps [] wr w') (hle : base ≤ w.heap.size) : Below base w w' :=
  ⟨hk.os.trans hb.os, hk.tape.trans hb.tape, hk.output.trans hb.output, Nat.le_trans hb.size hk.size, fun k hlt => (hk.block k (by have := hb.size; omega) (by simp)).trans (hb.block k hlt)⟩

/-- Blocks of other types are not the own row. -/
theorem Whole.owned {w w' : World} {b base size n : Nat} {T E : TypeId} {v : Value} {xs ys : List Value} (h : Whole w b T xs) (hown : w.ownsRow base E size v n ys) (hk : Keeps v.ownBlock.toList w w') (hT : T ≠ E) : Whole w' b T xs := by
  refine h.keeps hk fun hm => ?_
  have e2 : v.ownBlock = some b := by simpa using hm
  rcases hown.2 with ⟨rfl, _⟩ | ⟨g, cap, cur, rfl, _, hg, _⟩
  · cases e2
  · have : g = b := by simpa [Value.ownBlock] using e2
    subst this
    unfold Whole at h
    rw [h] at hg
    injection hg with hg
    injection hg with _ h2 _
    exact hT h2

theorem strCells_mk (l : List UInt8) : strCells ⟨l.toArray⟩ = l.map bv := by simp [strCells, bv]

theorem wrap8 (n : Nat) : IntKind.u8.wrap (n : Int) = ((UInt8.ofNat n).toNat : Int) := by
  show (n : Int) % 256 = _
  simp
theorem mod8 (n : Nat) : (n : Int) % 256 = ((UInt8.ofNat n).toNat : Int) := by simp

theorem codeB_snoc {l : List (BitVec 32)} {k : Nat} {x : BitVec 32} (h : l[k]? = some x) : codeB (l.take (k + 1)) = codeB (l.take k) ++ le4 x := by
  rw [List.take_add_one, h]
  unfold codeB
  rw [List.flatMap_append]; simp

theorem codeB_take_le (l : List (BitVec 32)) (k : Nat) : (codeB (l.take k)).length ≤ 4 * l.length := by
  rw [codeB_length, List.length_take]; omega

/-- A string's bytes, appended. -/
theorem wpList_append_str {ops : Array Oper} {rest : List Oper} {o : Oper} {a : Act} {w : World} {Q : Exit → Act → World → Prop} (hgd : o.guard = none) (s x : Operand)
    (ho : o.op = .call { callee := .builtin .append, args := #[s, x], argTypes := #[23, 9] }) (base : Nat) (v : Value) (l : List UInt8) (hs : a.eval s = v) (hown : w.ownsRow base 5 1 v l.length (l.map bv))
    (u : Value) (m : List UInt8) (hx : a.eval x = u) (hu : u = str m) (hlen : l.length + m.length ≤ 1000000) (hbase : base ≤ w.heap.size)
    (h : ∀ v' w', w'.ownsRow base 5 1 v' (l ++ m).length ((l ++ m).map bv) → Keeps v.ownBlock.toList w w' → wpList Try.prog ops Q rest (a.put o.dst v') w') : wpList Try.prog ops Q (o :: rest) a w := by
  obtain ⟨i0, hi, hz0, hz1, hz2⟩ := info_parts infoByte
  subst hu
  have hz := str_size m
  refine wpList_append_own_string w hgd s x 23 9 ho base 5 i0 Try.underlying23 Try.underlying9 hi hz0 hz1 hz2 v l.length (l.map bv) hs hown ⟨m.toArray⟩ hx (by rw [hz]; unfold maxLen; omega) (by rw [hz]; omega) hbase ?_
  intro v' w' hown' hg _
  rw [hz, strCells_mk] at hown'
  exact h v' w' (by rw [List.length_append, List.map_append]; exact hown') (Keeps.grown hg (fun k hk => .inl (by simp [hk])))

set_option maxRecDepth 100000 in
set_option maxHeartbeats 2000000 in
theorem appended_any (w : World) (base : Nat) (v : Value) (l : List UInt8) (x : Wd) (a : Option Addr) (cap M off : Nat) (hown : w.ownsRow base 5 1 v l.length (l.map bv)) (hb : base ≤ w.heap.size)
    (hr : UReads w (.slice a x.code.length cap) x.code M off) (hM : x.code ≠ [] → M < base) (hx : rightW x = true) (hl : l.length ≤ 900000) :
    Calls Try.prog 28 #[v, wvl x a cap] w fun e w' => ∃ v', e = .returned v' ∧ w'.ownsRow base 5 1 v' (l ++ bytesW x).length ((l ++ bytesW x).map bv) ∧ Below base w w' := by
  obtain ⟨b1, b2, b3, b4⟩ := right_bounds hx
  have hsz := str_size x.name
  have HS := Lib.hid (show Value.string ⟨x.name.toArray⟩ = str x.name from rfl)
  have HO := Lib.hid hown
  have HR := Lib.hid hr
  have HM := Lib.hid hM
  have HBY := Lib.hid (show bytesW x = headW x ++ (x.name ++ codeB x.code) from rfl)
  have HHD := Lib.hid (show headW x = [UInt8.ofNat x.name.length, x.flags, UInt8.ofNat x.code.length, UInt8.ofNat (x.code.length / 256)] from rfl)
  have HTK := Lib.hid fun k => codeB_take_le x.code k
  have HNM := Lib.hid (rfl : x.name.length = x.name.length)
  have HALL := Lib.hid (List.take_length (l := x.code))
  unfold wvl str
  unfold bv at *
  have k1 := wrap8 x.name.length
  have k1' := mod8 x.name.length
  have k2 := wrap8 x.code.length
  have k2' := mod8 x.code.length
  have k3 := wrap8 (x.code.length / 256)
  have k3' := mod8 (x.code.length / 256)
  have d1 : (x.code.length : Int) / (2 : Int) ^ 8 = ((x.code.length / 256 : Nat) : Int) := by omega
  have d2 : (x.code.length : Int) / 256 = ((x.code.length / 256 : Nat) : Int) := by omega
  clear hx hown hr hM
  have HC1 := Lib.hid (rfl : UInt8.ofNat x.name.length = UInt8.ofNat x.name.length)
  generalize hs : ByteArray.mk x.name.toArray = s at *
  generalize hc1 : UInt8.ofNat x.name.length = c1 at *
  generalize hc2 : UInt8.ofNat x.code.length = c2 at *
  generalize hc3 : UInt8.ofNat (x.code.length / 256) = c3 at *
  generalize hc4 : x.flags = c4 at *
  generalize hq : x.code.length / 256 = q at *
  generalize hn : x.code.length = n at *
  generalize hm : x.name.length = m at *
  have HN := Lib.hid hn
  have HMM := Lib.hid hm
  clear hs hc1 hc2 hc3 hc4 hq hn hm
  go_enter Try.func28, Try.ntmps28
  go_upto_region 1 with fail
  generalize hV : World.alloc w _ = V
  have WB := Lib.hid (show Whole V w.heap.size 27 [.string s, .int .u8 c4.toNat, .slice a n cap] by rw [← hV]; exact Whole.new w 27 [.string s, .int .u8 c4.toNat, .slice a n cap])
  have KV := Lib.hid (show Keeps [] w V by rw [← hV]; exact Keeps.alloc _ _ _)
  have HOV := Lib.hid (World.ownsRow.keeps HO.out KV.out (by simp))
  have e0 := WB.out.cell 0
  have e1 := WB.out.cell 1
  have e2 := WB.out.cell 2
  simp only [List.getElem?_cons_zero, List.getElem?_cons_succ] at e0 e1 e2
  have hVs : base ≤ V.heap.size := by have := KV.out.size; omega
  clear hV
  go_upto_region 3 with (at_builtin; refine wpList_append_reads rfl _ _ rfl base v l rfl (World.ownsRow.keeps HOV.out (Keeps.alloc [] _ _) (by simp)) _ [c1, c4, c2, c3] V.heap.size rfl (Reads.lit V [c1, c4, c2, c3] _ 5 4 (0, 0) rfl rfl) (by simp; omega) (by simp; omega) ?_; intro v2 w2 hown2 hk2; have HO2 := Lib.hid hown2; have HK2 := Lib.hid hk2; clear hown2 hk2)
  have W2 := Lib.hid (Whole.owned (WB.out.keeps (Keeps.alloc [] _ _) (by simp)) (World.ownsRow.keeps HOV.out (Keeps.alloc [] _ _) (by simp)) HK2.out (by decide))
  have B2 := Lib.hid (below_owned (below_keeps (below_keeps (Below.refl base w) KV.out hb) (Keeps.alloc [] V _) hb) (World.ownsRow.keeps HOV.out (Keeps.alloc [] _ _) (by simp)) HK2.out hb)
  have e0 := W2.out.cell 0
  have e1 := W2.out.cell 1
  have e2 := W2.out.cell 2
  simp only [List.getElem?_cons_zero, List.getElem?_cons_succ] at e0 e1 e2
  have h2s : base ≤ w2.heap.size := by have := B2.out.size; omega
  clear HOV HK2 WB KV HO
  rw [← HHD.out] at HO2
  have hll : (l ++ headW x).length ≤ 900010 := by rw [List.length_append, HHD.out]; simp; omega
  go_upto_region 4 with (at_builtin; refine wpList_append_str rfl _ _ rfl base v2 (l ++ headW x) rfl HO2.out _ x.name rfl HS.out (by have := HMM.out; omega) h2s ?_; intro v3 w3 hown3 hk3; have HO3 := Lib.hid hown3; have HK3 := Lib.hid hk3; clear hown3 hk3)
  have W3 := Lib.hid (Whole.owned W2.out HO2.out HK3.out (by decide))
  have B3 := Lib.hid (below_owned B2.out HO2.out HK3.out hb)
  have e2 := W3.out.cell 2
  simp only [List.getElem?_cons_zero, List.getElem?_cons_succ] at e2
  have HLL := Lib.hid hll
  clear HK3 HO2 W2 B2 hll
  go_wp2
  have HP := Lib.hid (show codeB (x.code.take 0) = [] from rfl)
  go_loopw [0, 7, 32] (fun vv _ i wr => ∃ k : Nat, k ≤ n ∧ i = .int .i64 k ∧ wr.ownsRow base 5 1 vv ((l ++ headW x) ++ x.name ++ codeB (x.code.take k)).length (((l ++ headW x) ++ x.name ++ codeB (x.code.take k)).map bv) ∧ Below base w wr) (fun _ _ i _ => n - (intOf i).toNat)
  case atStart => exact ⟨0, Nat.zero_le _, rfl, by rw [HP.out, List.append_nil]; exact HO3.out, B3.out⟩
  case round =>
    obtain ⟨k, hk, rfl, hown, hbel⟩ := hrel
    have HOk := Lib.hid hown
    have HBk := Lib.hid hbel
    clear hown hbel
    by_cases hlt : k < n
    · have hne : x.code ≠ [] := by intro e; have := HN.out; rw [e] at this; simp at this; omega
      obtain ⟨cp, hv, _, hcell⟩ := HR.out.cells hne
      have hMb := HM.out hne
      injection hv with hva hvn hvc
      subst hva
      clear hvn hvc
      obtain ⟨c, hc⟩ : ∃ c, x.code[k]? = some c := ⟨_, List.getElem?_eq_getElem (by have := HN.out; omega)⟩
      have cc := (HBk.out.cell (p := ⟨M, off + k, none⟩) hMb).trans (hcell k c hc)
      have HSN := Lib.hid (codeB_snoc hc)
      have HLE := Lib.hid (show le4 c = [UInt8.ofNat c.toNat, UInt8.ofNat (c.toNat / 256), UInt8.ofNat (c.toNat / 65536), UInt8.ofNat (c.toNat / 16777216)] from rfl)
      have y1 := wrap8 c.toNat
      have y1' := mod8 c.toNat
      have y2 := wrap8 (c.toNat / 256)
      have y2' := mod8 (c.toNat / 256)
      have y3 := wrap8 (c.toNat / 65536)
      have y3' := mod8 (c.toNat / 65536)
      have y4 := wrap8 (c.toNat / 16777216)
      have y4' := mod8 (c.toNat / 16777216)
      have s8 : (c.toNat : Int) / (2 : Int) ^ 8 = ((c.toNat / 256 : Nat) : Int) := by omega
      have s16 : (c.toNat : Int) / (2 : Int) ^ 16 = ((c.toNat / 65536 : Nat) : Int) := by omega
      have s24 : (c.toNat : Int) / (2 : Int) ^ 24 = ((c.toNat / 16777216 : Nat) : Int) := by omega
      have t8 : (c.toNat : Int) / 256 = ((c.toNat / 256 : Nat) : Int) := by omega
      have t16 : (c.toNat : Int) / 65536 = ((c.toNat / 65536 : Nat) : Int) := by omega
      have t24 : (c.toNat : Int) / 16777216 = ((c.toNat / 16777216 : Nat) : Int) := by omega
      have hrl := HTK.out k
      have hrs : base ≤ wr.heap.size := by have := HBk.out.size; omega
      have HLN : ((l ++ headW x) ++ x.name ++ codeB (x.code.take k)).length ≤ 910000 := by
        rw [List.length_append, List.length_append]; have := HLL.out; have := HMM.out; have := HN.out; omega
      have HLN := Lib.hid HLN
      clear hc hcell hne hrl
      unfold uv at cc
      generalize UInt8.ofNat c.toNat = u1 at *
      generalize UInt8.ofNat (c.toNat / 256) = u2 at *
      generalize UInt8.ofNat (c.toNat / 65536) = u3 at *
      generalize UInt8.ofNat (c.toNat / 16777216) = u4 at *
      generalize c.toNat / 256 = y8 at *
      generalize c.toNat / 65536 = y16 at *
      generalize c.toNat / 16777216 = y24 at *
      generalize c.toNat = y at *
      generalize hPk : (l ++ headW x) ++ x.name ++ codeB (x.code.take k) = Pk at *
      have HPK := Lib.hid hPk
      clear hPk
      go_wp2_with (at_builtin; refine wpList_append_reads rfl _ _ rfl base _ Pk rfl (World.ownsRow.keeps HOk.out (Keeps.alloc [] _ _) (by simp)) _ [u1, u2, u3, u4] wr.heap.size rfl (Reads.lit wr [u1, u2, u3, u4] _ 5 4 (0, 0) rfl rfl) (by have := HLN.out; simp; omega) (by simp; omega) ?_; intro v4 w4 hown4 hk4; have HO4 := Lib.hid hown4; have HK4 := Lib.hid hk4; clear hown4 hk4)
      have HB4 := Lib.hid (below_owned (below_keeps HBk.out (Keeps.alloc [] wr _) hb) (World.ownsRow.keeps HOk.out (Keeps.alloc [] _ _) (by simp)) HK4.out hb)
      rw [← HLE.out, ← HPK.out, List.append_assoc, ← HSN.out] at HO4
      go_roundw
      case rel => exact ⟨k + 1, by omega, by go_num, HO4.out, HB4.out⟩
      case measure => simp [intOf]; omega
    · have hkn : k = n := by omega
      have HE := Lib.hid (show (l ++ headW x) ++ x.name ++ codeB (x.code.take k) = l ++ bytesW x by rw [hkn, HALL.out, HBY.out]; simp)
      subst hkn
      rw [HE.out] at HOk
      go_wp2
      go_ret
      exact ⟨_, rfl, HOk.out, HBk.out⟩
set_option maxRecDepth 100000 in
set_option maxHeartbeats 2000000 in
theorem r10Bytes_any (w : World) (x : Wd) (a : Option Addr) (cap M off : Nat) (hr : UReads w (.slice a x.code.length cap) x.code M off) (hx : rightW x = true) :
    Calls Try.prog 10 #[wvl x a cap] w fun e w' => ∃ v', e = .returned v' ∧ w'.ownsRow w.heap.size 5 1 v' (bytesW x).length ((bytesW x).map bv) ∧ Keeps [] w w' := by
  obtain ⟨b1, b2, b3, b4⟩ := right_bounds hx
  have hsz := str_size x.name
  have HS := Lib.hid (show Value.string ⟨x.name.toArray⟩ = str x.name from rfl)
  have HR := Lib.hid hr
  have HBY := Lib.hid (show bytesW x = headW x ++ (x.name ++ codeB x.code) from rfl)
  have HHD := Lib.hid (show headW x = [UInt8.ofNat x.name.length, x.flags, UInt8.ofNat x.code.length, UInt8.ofNat (x.code.length / 256)] from rfl)
  have HTK := Lib.hid fun k => codeB_take_le x.code k
  have HNM := Lib.hid (rfl : x.name.length = x.name.length)
  have HALL := Lib.hid (List.take_length (l := x.code))
  unfold wvl str
  unfold bv at *
  have k1 := wrap8 x.name.length
  have k1' := mod8 x.name.length
  have k2 : IntKind.u8.wrap ((x.code.length % 256 : Nat) : Int) = ((UInt8.ofNat x.code.length).toNat : Int) := by rw [wrap8]; simp
  have k2' : ((x.code.length % 256 : Nat) : Int) % 256 = ((UInt8.ofNat x.code.length).toNat : Int) := by rw [mod8]; simp
  have k3 := wrap8 (x.code.length / 256)
  have k3' := mod8 (x.code.length / 256)
  have d1 : (x.code.length : Int).tdiv 256 = ((x.code.length / 256 : Nat) : Int) := by rw [Int.tdiv_eq_ediv_of_nonneg (by omega)]; omega
  have d2 : (x.code.length : Int) / 256 = ((x.code.length / 256 : Nat) : Int) := by omega
  have d3 : (x.code.length : Int).tmod 256 = ((x.code.length % 256 : Nat) : Int) := by rw [Int.tmod_eq_emod_of_nonneg (by omega)]; omega
  have d4 : (x.code.length : Int) % 256 = ((x.code.length % 256 : Nat) : Int) := by omega
  have HM := Lib.hid (fun hne : x.code ≠ [] => hr.lt hne)
  clear hx hr
  have HC1 := Lib.hid (rfl : UInt8.ofNat x.name.length = UInt8.ofNat x.name.length)
  generalize hs : ByteArray.mk x.name.toArray = s at *
  generalize hc1 : UInt8.ofNat x.name.length = c1 at *
  generalize hc2 : UInt8.ofNat x.code.length = c2 at *
  generalize hc3 : UInt8.ofNat (x.code.length / 256) = c3 at *
  generalize hc4 : x.flags = c4 at *
  generalize hq : x.code.length / 256 = q at *
  generalize hq2 : x.code.length % 256 = q2 at *
  generalize hn : x.code.length = n at *
  generalize hm : x.name.length = m at *
  have HN := Lib.hid hn
  have HMM := Lib.hid hm
  have hqb : q ≤ 100 := by omega
  have hqb2 : q2 ≤ 255 := by omega
  clear hs hc1 hc2 hc3 hc4 hq hq2 hn hm
  go_enter Try.func10, Try.ntmps10
  go_upto_region 1 with fail
  generalize hV : World.alloc w _ = V
  have WB := Lib.hid (show Whole V w.heap.size 27 [.string s, .int .u8 c4.toNat, .slice a n cap] by rw [← hV]; exact Whole.new w 27 [.string s, .int .u8 c4.toNat, .slice a n cap])
  have KV := Lib.hid (show Keeps [] w V by rw [← hV]; exact Keeps.alloc _ _ _)
  have e0 := WB.out.cell 0
  have e1 := WB.out.cell 1
  have e2 := WB.out.cell 2
  simp only [List.getElem?_cons_zero, List.getElem?_cons_succ] at e0 e1 e2
  have hVs : w.heap.size < V.heap.size := WB.out.lt
  clear hV
  go_upto_region 3 with fail
  generalize hU : World.alloc V _ = U
  have WU := Lib.hid (show Whole U V.heap.size 5 ([c1, c4, c2, c3].map bv) by rw [← hU]; exact Whole.new V 5 ([c1, c4, c2, c3].map bv))
  have KU := Lib.hid (show Keeps [] V U by rw [← hU]; exact Keeps.alloc _ _ _)
  have HO2 := Lib.hid (show U.ownsRow w.heap.size 5 1 (.slice (some ⟨V.heap.size, 0, none⟩) 4 4) (headW x).length ((headW x).map bv) by rw [HHD.out]; exact Whole.owns (xs := [c1, c4, c2, c3].map bv) (ys := []) (by rw [List.append_nil]; exact WU.out) (by omega) rfl rfl (by decide))
  have W2 := Lib.hid (WB.out.keeps KU.out (by simp))
  have B2 := Lib.hid (KV.out.trans KU.out).below
  have e0 := W2.out.cell 0
  have e1 := W2.out.cell 1
  have e2 := W2.out.cell 2
  simp only [List.getElem?_cons_zero, List.getElem?_cons_succ] at e0 e1 e2
  have h2s : w.heap.size ≤ U.heap.size := by have := KU.out.size; omega
  have hll : (headW x).length ≤ 10 := by rw [HHD.out]; simp
  clear hU WU KU KV WB
  go_upto_region 4 with (at_builtin; refine wpList_append_str rfl _ _ rfl w.heap.size _ (headW x) rfl HO2.out _ x.name rfl HS.out (by have := HMM.out; omega) h2s ?_; intro v3 w3 hown3 hk3; have HO3 := Lib.hid hown3; have HK3 := Lib.hid hk3; clear hown3 hk3)
  have W3 := Lib.hid (Whole.owned W2.out HO2.out HK3.out (by decide))
  have B3 := Lib.hid (below_owned B2.out HO2.out HK3.out (Nat.le_refl _))
  have HLL := Lib.hid hll
  clear HK3 HO2 W2 B2 hll e0 e1 e2
  go_wp2
  have HP := Lib.hid (show codeB (x.code.take 0) = [] from rfl)
  go_loopw [4, 5, 6] (fun vv i _ wr => ∃ k : Nat, k ≤ n ∧ i = .int .i64 k ∧ wr.ownsRow w.heap.size 5 1 vv (headW x ++ x.name ++ codeB (x.code.take k)).length ((headW x ++ x.name ++ codeB (x.code.take k)).map bv) ∧ Below w.heap.size w wr ∧ Whole wr w.heap.size 27 [.string s, .int .u8 c4.toNat, .slice a n cap]) (fun _ i _ _ => n - (intOf i).toNat)
  case atStart => exact ⟨0, Nat.zero_le _, rfl, by rw [HP.out, List.append_nil]; exact HO3.out, B3.out, W3.out⟩
  case round =>
    obtain ⟨k, hk, rfl, hown, hbel, hwh⟩ := hrel
    have HWk := Lib.hid hwh
    have e2 := hwh.cell 2
    simp only [List.getElem?_cons_zero, List.getElem?_cons_succ] at e2
    have HOk := Lib.hid hown
    have HBk := Lib.hid hbel
    clear hown hbel hwh
    by_cases hlt : k < n
    · have hne : x.code ≠ [] := by intro e; have := HN.out; rw [e] at this; simp at this; omega
      obtain ⟨cp, hv, _, hcell⟩ := HR.out.cells hne
      have hMb := HM.out hne
      injection hv with hva hvn hvc
      subst hva
      clear hvn hvc
      obtain ⟨c, hc⟩ : ∃ c, x.code[k]? = some c := ⟨_, List.getElem?_eq_getElem (by have := HN.out; omega)⟩
      have cc := (HBk.out.cell (p := ⟨M, off + k, none⟩) hMb).trans (hcell k c hc)
      have HSN := Lib.hid (codeB_snoc hc)
      have HLE := Lib.hid (show le4 c = [UInt8.ofNat c.toNat, UInt8.ofNat (c.toNat / 256), UInt8.ofNat (c.toNat / 65536), UInt8.ofNat (c.toNat / 16777216)] from rfl)
      have r1 : (c.toNat : Int) % 256 = ((c.toNat % 256 : Nat) : Int) := by omega
      have r1' : (c.toNat : Int).tmod 256 = ((c.toNat % 256 : Nat) : Int) := by rw [Int.tmod_eq_emod_of_nonneg (by omega)]; omega
      have s8 : (c.toNat : Int) / 256 = ((c.toNat / 256 : Nat) : Int) := by omega
      have s8' : (c.toNat : Int).tdiv 256 = ((c.toNat / 256 : Nat) : Int) := by rw [Int.tdiv_eq_ediv_of_nonneg (by omega)]; omega
      have r2 : ((c.toNat / 256 : Nat) : Int) % 256 = ((c.toNat / 256 % 256 : Nat) : Int) := by omega
      have r2' : ((c.toNat / 256 : Nat) : Int).tmod 256 = ((c.toNat / 256 % 256 : Nat) : Int) := by rw [Int.tmod_eq_emod_of_nonneg (by omega)]; omega
      have s16 : (c.toNat : Int) / 65536 = ((c.toNat / 65536 : Nat) : Int) := by omega
      have s16' : (c.toNat : Int).tdiv 65536 = ((c.toNat / 65536 : Nat) : Int) := by rw [Int.tdiv_eq_ediv_of_nonneg (by omega)]; omega
      have r3 : ((c.toNat / 65536 : Nat) : Int) % 256 = ((c.toNat / 65536 % 256 : Nat) : Int) := by omega
      have r3' : ((c.toNat / 65536 : Nat) : Int).tmod 256 = ((c.toNat / 65536 % 256 : Nat) : Int) := by rw [Int.tmod_eq_emod_of_nonneg (by omega)]; omega
      have s24 : (c.toNat : Int) / 16777216 = ((c.toNat / 16777216 : Nat) : Int) := by omega
      have s24' : (c.toNat : Int).tdiv 16777216 = ((c.toNat / 16777216 : Nat) : Int) := by rw [Int.tdiv_eq_ediv_of_nonneg (by omega)]; omega
      have y1 : IntKind.u8.wrap ((c.toNat % 256 : Nat) : Int) = ((UInt8.ofNat c.toNat).toNat : Int) := by rw [wrap8]; simp
      have y1' : ((c.toNat % 256 : Nat) : Int) % 256 = ((UInt8.ofNat c.toNat).toNat : Int) := by rw [mod8]; simp
      have y2 : IntKind.u8.wrap ((c.toNat / 256 % 256 : Nat) : Int) = ((UInt8.ofNat (c.toNat / 256)).toNat : Int) := by rw [wrap8]; simp
      have y2' : ((c.toNat / 256 % 256 : Nat) : Int) % 256 = ((UInt8.ofNat (c.toNat / 256)).toNat : Int) := by rw [mod8]; simp
      have y3 : IntKind.u8.wrap ((c.toNat / 65536 % 256 : Nat) : Int) = ((UInt8.ofNat (c.toNat / 65536)).toNat : Int) := by rw [wrap8]; simp
      have y3' : ((c.toNat / 65536 % 256 : Nat) : Int) % 256 = ((UInt8.ofNat (c.toNat / 65536)).toNat : Int) := by rw [mod8]; simp
      have y4 := wrap8 (c.toNat / 16777216)
      have y4' := mod8 (c.toNat / 16777216)
      have hy32 : c.toNat ≤ 4294967295 := by have := c.isLt; omega
      have hrl := HTK.out k
      have hrs : w.heap.size ≤ wr.heap.size := by have := HBk.out.size; omega
      have HLN : (headW x ++ x.name ++ codeB (x.code.take k)).length ≤ 910000 := by
        rw [List.length_append, List.length_append]; have := HLL.out; have := HMM.out; have := HN.out; omega
      have HLN := Lib.hid HLN
      clear hc hcell hne hrl
      unfold uv at cc
      generalize UInt8.ofNat c.toNat = u1 at *
      generalize UInt8.ofNat (c.toNat / 256) = u2 at *
      generalize UInt8.ofNat (c.toNat / 65536) = u3 at *
      generalize UInt8.ofNat (c.toNat / 16777216) = u4 at *
      have hb8 : c.toNat / 256 % 256 ≤ 255 := by omega
      have hb16 : c.toNat / 65536 % 256 ≤ 255 := by omega
      have hb0 : c.toNat % 256 ≤ 255 := by omega
      generalize c.toNat / 256 % 256 = z8 at *
      generalize c.toNat / 65536 % 256 = z16 at *
      generalize c.toNat % 256 = z0 at *
      generalize c.toNat / 256 = y8 at *
      generalize c.toNat / 65536 = y16 at *
      generalize c.toNat / 16777216 = y24 at *
      generalize c.toNat = y at *
      generalize hPk : headW x ++ x.name ++ codeB (x.code.take k) = Pk at *
      have HPK := Lib.hid hPk
      clear hPk
      go_wp2_with (at_builtin; refine wpList_append_reads rfl _ _ rfl w.heap.size _ Pk rfl (World.ownsRow.keeps HOk.out (Keeps.alloc [] _ _) (by simp)) _ [u1, u2, u3, u4] wr.heap.size rfl (Reads.lit wr [u1, u2, u3, u4] _ 5 4 (0, 0) rfl rfl) (by have := HLN.out; simp; omega) (by simp; omega) ?_; intro v4 w4 hown4 hk4; have HO4 := Lib.hid hown4; have HK4 := Lib.hid hk4; clear hown4 hk4)
      have HB4 := Lib.hid (below_owned (below_keeps HBk.out (Keeps.alloc [] wr _) (Nat.le_refl _)) (World.ownsRow.keeps HOk.out (Keeps.alloc [] _ _) (by simp)) HK4.out (Nat.le_refl _))
      have HW4 := Lib.hid (Whole.owned (HWk.out.keeps (Keeps.alloc [] wr _) (by simp)) (World.ownsRow.keeps HOk.out (Keeps.alloc [] _ _) (by simp)) HK4.out (by decide))
      rw [← HLE.out, ← HPK.out, List.append_assoc, ← HSN.out] at HO4
      go_roundw
      case rel => exact ⟨k + 1, by omega, by go_num, HO4.out, HB4.out, HW4.out⟩
      case measure => simp [intOf]; omega
    · have hkn : k = n := by omega
      have HE := Lib.hid (show headW x ++ x.name ++ codeB (x.code.take k) = bytesW x by rw [hkn, HALL.out, HBY.out]; simp)
      subst hkn
      rw [HE.out] at HOk
      go_wp2
      go_ret
      exact ⟨_, rfl, HOk.out, Keeps.ofBelow HBk.out⟩
end Go.Proofs.Yteaikbchbahdjaa
