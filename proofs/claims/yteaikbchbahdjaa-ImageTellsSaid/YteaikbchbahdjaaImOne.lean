/-
  Words as bytes: the document's first word of bytes.
-/
import Derived.Test.YteaikbchbahdjaaImDec
import Derived.Test.YteaikbchbahdjaaImRows
namespace Go.Proofs.Yteaikbchbahdjaa
open Go.RowKit Go.Deep
set_option linter.unusedVariables false

/-- The upper bytes of four, the highest one first. -/
def acc4 (b : List UInt8) (q : Nat) : Nat → Nat
  | 0 => 0
  | r + 1 => acc4 b q r * 256 + (b.getD (q + (3 - r)) 0).toNat

theorem acc4_succ (b : List UInt8) (q r : Nat) : acc4 b q (r + 1) = acc4 b q r * 256 + (b.getD (q + (3 - r)) 0).toNat := rfl

theorem acc4_lt (b : List UInt8) (q : Nat) : ∀ r, acc4 b q r < 256 ^ r
  | 0 => by simp [acc4]
  | r + 1 => by
    have ih := acc4_lt b q r
    have := (b.getD (q + (3 - r)) 0).toNat_lt
    unfold acc4
    rw [Nat.pow_succ]
    omega

theorem acc4_all (b : List UInt8) (q : Nat) : acc4 b q 4 = (of4 (b.getD q 0) (b.getD (q + 1) 0) (b.getD (q + 2) 0) (b.getD (q + 3) 0)).toNat := by
  rw [of4_nat]
  simp only [acc4, Nat.sub_self, Nat.add_zero, show 3 - 0 = 3 from rfl, show 3 - 1 = 2 from rfl, show 3 - 2 = 1 from rfl]
  omega

set_option maxRecDepth 100000 in
set_option maxHeartbeats 2000000 in
theorem one_none (w : World) (v : Value) (b : List UInt8) (M : Nat) (hr : Reads w v b M) (hb : b.length ≤ 1000000) (hs : b.length < 4 ∨ b.length < 4 + headN b + 4 * headC b) :
    Calls Try.prog 30 #[v] w fun e w' => e = .returned (.tuple #[wvl ⟨[], 0, []⟩ none 0, .int .i64 0]) ∧ Keeps [] w w' := by
  obtain ⟨a, cap, rfl, hcap⟩ := hr.shape
  by_cases h4 : b.length < 4
  · have h4' : (b.length : Int) < 4 := by omega
    clear hs
    generalize b.length = m at *
    clear hr
    go_enter Try.func30, Try.ntmps30
    go_wp2
    exact bodyPost_ret (v := .tuple #[wvl ⟨[], 0, []⟩ none 0, .int .i64 0]) (by simp [results, Try.results30, go_sem]; rfl) rfl ⟨rfl, Keeps.alloc [] _ _⟩
  · have h4' : ¬ (b.length : Int) < 4 := by omega
    have hs2 : b.length < 4 + headN b + 4 * headC b := by omega
    obtain ⟨off, cp, hv, _, hc⟩ := hr.at (by intro e; rw [e] at h4; simp at h4)
    injection hv with ha _ _
    subst ha
    have q0 := hc 0 _ (getD_of (by omega))
    rw [Nat.add_zero] at q0
    have q2 := hc 2 _ (getD_of (by omega))
    have q3 := hc 3 _ (getD_of (by omega))
    have HS := Lib.hid hs2
    have HN := Lib.hid (show headN b = (b.getD 0 0).toNat from rfl)
    have HC := Lib.hid (show headC b = (b.getD 2 0).toNat + 256 * (b.getD 3 0).toNat from rfl)
    have l0 := (b.getD 0 0).toNat_lt
    have l2 := (b.getD 2 0).toNat_lt
    have l3 := (b.getD 3 0).toNat_lt
    unfold bv at q0 q2 q3
    generalize (b.getD 0 0).toNat = x0 at *
    generalize (b.getD 2 0).toNat = x2 at *
    generalize (b.getD 3 0).toNat = x3 at *
    generalize headC b = nc at *
    generalize headN b = nn at *
    have ho' : (x2 : Int) + 256 * (x3 : Int) = (nc : Int) := by have := HC.out; omega
    have hlt : (b.length : Int) < 4 + (x0 : Int) + 4 * (nc : Int) := by have := HS.out; have := HN.out; omega
    have hncb : nc ≤ 70000 := by have := HC.out; omega
    generalize b.length = m at *
    clear hc hs hs2 hr h4
    go_enter Try.func30, Try.ntmps30
    go_upto_region 3 with fail
    generalize hV : World.alloc w _ = V
    have WB := Lib.hid (show Whole V w.heap.size 27 [.string ByteArray.empty, .int .u8 0, .slice none 0 0] by rw [← hV]; exact Whole.new w 27 [.string ByteArray.empty, .int .u8 0, .slice none 0 0])
    have KV := Lib.hid (show Keeps [] w V by rw [← hV]; exact Keeps.alloc _ _ _)
    have q0 := KV.out.cell q0 (by simp)
    have q2 := KV.out.cell q2 (by simp)
    have q3 := KV.out.cell q3 (by simp)
    clear hV
    go_upto_region 4 with (go_quiet (fail))
    generalize hV2 : World.drewN V _ = V2
    have KV2 := Lib.hid (show Keeps [] w V2 by rw [← hV2]; exact KV.out.trans (Keeps.drewN [] _ _))
    have WB2 := (show Whole V2 w.heap.size 27 [.string ByteArray.empty, .int .u8 0, .slice none 0 0] by rw [← hV2]; exact WB.out.keeps (Keeps.drewN [] _ _) (by simp))
    have g0 := WB2.cell 0
    have g1 := WB2.cell 1
    have g2 := WB2.cell 2
    have FB := WB2.frozen
    have WB3 := Lib.hid WB2
    simp only [List.getElem?_cons_zero, List.getElem?_cons_succ] at g0 g1 g2
    clear hV2 q0 q2 q3 WB2
    go_wp2
    generalize hU : World.setCell (World.setCell (World.setCell _ _ _) _ _) _ _ = U
    have HW3 : Whole U w.heap.size 27 [.string ⟨#[]⟩, .int .u8 0, .slice none 0 0] := by rw [← hU]; exact WB3.out.three _ _ _
    have KU : Keeps [] w U := by rw [← hU]; exact KV2.out.three (Nat.le_refl _) _ _ _
    have p0 := HW3.cell 0
    have p1 := HW3.cell 1
    have p2 := HW3.cell 2
    simp only [List.getElem?_cons_zero, List.getElem?_cons_succ] at p0 p1 p2
    exact bodyPost_ret (v := .tuple #[wvl ⟨[], 0, []⟩ none 0, .int .i64 0]) (by simp [results, Try.results30, go_sem, p0, p1, p2]; rfl) rfl ⟨rfl, KU⟩

theorem own_ne_whole {w : World} {base size n b : Nat} {E T : TypeId} {v : Value} {xs ys : List Value} (h : w.ownsRow base E size v n xs) (hW : Whole w b T ys) (hT : T ≠ E) : ∀ g, v.ownBlock = some g → g ≠ b := by
  intro g hg e
  subst e
  rcases h.2 with ⟨rfl, _⟩ | ⟨g', cap, cur, rfl, _, hg', _⟩
  · cases hg
  · have : g' = g := by simpa [Value.ownBlock] using hg
    subst this
    unfold Whole at hW
    rw [hW] at hg'
    injection hg' with hg'
    injection hg' with _ h2 _
    exact hT h2

theorem owns_beside {w : World} {base size n b i : Nat} {E T : TypeId} {v : Value} {xs ys : List Value} (h : w.ownsRow base E size v n xs) (hW : Whole w b T ys) (hT : T ≠ E) (u : Value) : (w.setCell ⟨b, i, none⟩ u).ownsRow base E size v n xs :=
  World.ownsRow.keeps (S := [b]) h (Keeps.setCell _ (by simp) _) (fun g hg hm => own_ne_whole h hW hT g hg (by simpa using hm))

theorem codeOfL_at (n : Nat) (b : List UInt8) (lo k : Nat) (hk : k < n) : (codeOfL n (b.drop lo))[k]? = some (of4 (b.getD (lo + 4 * k) 0) (b.getD (lo + 4 * k + 1) 0) (b.getD (lo + 4 * k + 2) 0) (b.getD (lo + 4 * k + 3) 0)) := by
  unfold codeOfL
  rw [List.getElem?_map, List.getElem?_range hk]
  simp only [Option.map_some, List.getD_eq_getElem?_getD, List.getElem?_drop]
  rw [show lo + (4 * k + 1) = lo + 4 * k + 1 by omega, show lo + (4 * k + 2) = lo + 4 * k + 2 by omega, show lo + (4 * k + 3) = lo + 4 * k + 3 by omega]

theorem UReads.one10 (w : World) (y : Int) (x : BitVec 32) (hy : y = x.toNat) (T : TypeId) : UReads (w.alloc (.cells #[Value.int .u32 y] T)) (.slice (some ⟨w.heap.size, 0, none⟩) 1 1) [x] w.heap.size 0 :=
  .inr ⟨⟨w.heap.size, 0, none⟩, 1, rfl, Nat.le_refl _, fun _ => rfl, fun i c hi => by
    rw [Nat.zero_add, cell_of_row _ _ _ #[Value.int .u32 y] T (0, 0) (heap_alloc_new w _), hy]
    match i, hi with
    | 0, hi => (simp at hi; subst hi; rfl)
    | i + 1, hi => simp at hi⟩

/-- A word's code in a row of one's own. -/
theorem Got.ofOwn {w : World} {base : Nat} {ao : Option Addr} {cp : Nat} {x : Wd} (h : w.ownsRow base 44 1 (.slice ao x.code.length cp) x.code.length (x.code.map uv)) (hr : rightW x = true) : Got false w base x (.slice ao x.code.length cp) := by
  obtain ⟨M, hu, hM⟩ := UReads.owns h
  refine ⟨ao, cp, M, 0, rfl, hu, fun hne => ⟨(hM hne).2.1, ?_⟩, hr, fun h => by cases h⟩
  have hb := (hM hne).1
  rcases h.2 with ⟨hv, _⟩ | ⟨g, cap, cur, hv, _, hg, _⟩
  · injection hv with hv _ _
    subst hv
    cases hb
  · injection hv with hv _ _
    subst hv
    have : g = M := by simpa [Value.ownBlock] using hb
    subst this
    exact ⟨_, _, hg⟩

set_option maxRecDepth 100000 in
set_option maxHeartbeats 4000000 in
theorem one_is (w : World) (v : Value) (b : List UInt8) (M : Nat) (hr : Reads w v b M) (hb : b.length ≤ 1000000) (h4 : ¬ b.length < 4) (hs : ¬ b.length < 4 + headN b + 4 * headC b) :
    Calls Try.prog 30 #[v] w fun e w' => ∃ s f a n c z, e = .returned (.tuple #[.agg #[.string s, .int .u8 f, .slice a n c], .int .i64 z]) ∧ Keeps [] w w' ∧
      Hid ((rightW (wordOfB b) = true → Value.string s = str (wordOfB b).name ∧ Value.int .u8 f = bv (wordOfB b).flags ∧ z = (sizeW (wordOfB b) : Int) ∧ Got false w' w.heap.size (wordOfB b) (.slice a n c)) ∧ (rightW (wordOfB b) = false → z = 0)) := by
  obtain ⟨a, cap, rfl, hcap⟩ := hr.shape
  obtain ⟨off, cp, hv, _, hc⟩ := hr.at (by intro e; rw [e] at h4; simp at h4)
  injection hv with ha _ hcpe
  subst ha hcpe
  have q0 := hc 0 _ (getD_of (by omega))
  rw [Nat.add_zero] at q0
  have q1 := hc 1 _ (getD_of (by omega))
  have q2 := hc 2 _ (getD_of (by omega))
  have q3 := hc 3 _ (getD_of (by omega))
  have HN := Lib.hid (show headN b = (b.getD 0 0).toNat from rfl)
  have HC := Lib.hid (show headC b = (b.getD 2 0).toNat + 256 * (b.getD 3 0).toNat from rfl)
  have l0 := (b.getD 0 0).toNat_lt
  have l2 := (b.getD 2 0).toNat_lt
  have l3 := (b.getD 3 0).toNat_lt
  have HWN := Lib.hid (show (wordOfB b).name = (b.drop 4).take (headN b) from rfl)
  have HWF := Lib.hid (show (wordOfB b).flags = b.getD 1 0 from rfl)
  have HWC := Lib.hid (show (wordOfB b).code = codeOfL (headC b) (b.drop (4 + headN b)) from rfl)
  have HWS := Lib.hid (wordOfB_size hs)
  obtain ⟨lo, hlo⟩ : ∃ lo, lo = 4 + headN b := ⟨_, rfl⟩
  obtain ⟨p1, c1, hcut1, hr1⟩ := hr.cut 4 lo (by omega) (by omega)
  have hn1 : lo - 4 = headN b := by omega
  rw [hn1, ← HWN.out] at hcut1 hr1
  have HR1 := Lib.hid fun (W : World) (hk : Keeps [] w W) => conv_reads (hr1.keeps hk (by simp))
  have hrun1 : ∀ w, (Instr.sliceAt 23 (.slice (some ⟨M, off, none⟩) b.length cap) (some (.int .i64 4)) (some (.int .i64 lo)) none).run Try.prog w = .ok (sliced (some ⟨M, off, none⟩) 4 lo cap 1) w := fun w => (run_cut_lh w (some ⟨M, off, none⟩) b.length cap 4 lo (by omega) (by omega))
  rw [hcut1] at hrun1
  have HTB := Lib.hid (show ∀ i, i < b.length → w.cell? ⟨M, off + i, none⟩ = some (bv (b.getD i 0)) from fun i hi => hc i _ (getD_of hi))
  have e4 : (4 : Int) + ((b.getD 0 0).toNat : Int) = (lo : Int) := by have := HN.out; omega
  have ho' : ((b.getD 2 0).toNat : Int) + 256 * ((b.getD 3 0).toNat : Int) = (headC b : Int) := by have := HC.out; omega
  have h4' : ¬ (b.length : Int) < 4 := by omega
  have hlob : lo + 4 * headC b ≤ b.length := by omega
  have hlo4 : 4 ≤ lo := by omega
  have HR0 := Lib.hid fun (W : World) (ao : Option Addr) (cp : Nat) => r10Right_any W (wordOfB b) ao cp _ rfl
  unfold wvl at HR0
  rw [HWF.out] at HR0
  have HWL := Lib.hid (show (wordOfB b).code.length = headC b from codeOfL_length _ _)
  rw [HWL.out] at HR0
  have HPRE := Lib.hid (show headC b ≤ 70000 by have := HC.out; omega)
  have HCD := Lib.hid fun k (hk : k < headC b) => codeOfL_at (headC b) b lo k hk
  have HCL := Lib.hid (codeOfL_length (headC b) (b.drop lo))
  rw [← hlo] at HWC
  have HAC := Lib.hid fun q => acc4_all b q
  have HAS := Lib.hid fun q r => acc4_succ b q r
  have HAL := Lib.hid fun q r => acc4_lt b q r
  have HZ0 := Lib.hid (show sizeW (wordOfB b) = lo + 4 * headC b by rw [HWS.out, hlo])
  have HB0 := Lib.hid hb
  unfold str bv at HR0
  have HSN := Lib.hid (show Value.string ⟨(wordOfB b).name.toArray⟩ = str (wordOfB b).name from rfl)
  have HSF := Lib.hid (show Value.int .u8 ((b.getD 1 0).toNat : Int) = bv (wordOfB b).flags by rw [HWF.out]; rfl)
  have hM : M < w.heap.size := World.block_lt_of_cell? w _ q0
  unfold bv at q0 q1 q2 q3
  generalize hx0 : (b.getD 0 0).toNat = x0 at *
  generalize ((b.getD 1 0).toNat : Int) = x1 at *
  generalize (b.getD 2 0).toNat = x2 at *
  generalize (b.getD 3 0).toNat = x3 at *
  generalize ByteArray.mk (wordOfB b).name.toArray = s at *
  generalize (wordOfB b).name.length = nn at *
  generalize hnc : headC b = nc at *
  generalize hm : b.length = m at *
  have HLB := Lib.hid hlob
  have hnc7 := HPRE.out
  clear hc hcut1 hr1 hr hs h4 hn1 hcap hx0 hnc hlo hb hm
  have hnl : ¬ (m : Int) < (lo : Int) + 4 * (nc : Int) := by omega
  have HNL := Lib.hid hnl
  clear hlob
  obtain ⟨cd, hcd⟩ : ∃ cd, codeOfL nc (b.drop lo) = cd := ⟨_, rfl⟩
  rw [hcd] at HCD HCL HWC
  clear hcd
  go_enter Try.func30, Try.ntmps30
  go_upto_region 3 with fail
  generalize hV : World.alloc w _ = V
  have WB := Lib.hid (show Whole V w.heap.size 27 [.string ⟨#[]⟩, .int .u8 0, .slice none 0 0] by rw [← hV]; exact Whole.new w 27 [.string ⟨#[]⟩, .int .u8 0, .slice none 0 0])
  have KV := Lib.hid (show Keeps [] w V by rw [← hV]; exact Keeps.alloc _ _ _)
  have q0 := KV.out.cell q0 (by simp)
  have q2 := KV.out.cell q2 (by simp)
  have q3 := KV.out.cell q3 (by simp)
  clear hV
  go_upto_region 6 with (go_quiet (fail))
  generalize hV2 : World.drewN V _ = V2
  have KV2 := Lib.hid (show Keeps [] w V2 by rw [← hV2]; exact KV.out.trans (Keeps.drewN _ _ _))
  have WB2 := Lib.hid (show Whole V2 w.heap.size 27 [.string ⟨#[]⟩, .int .u8 0, .slice none 0 0] by rw [← hV2]; exact WB.out.keeps (Keeps.drewN [] _ _) (by simp))
  have q1 := KV2.out.cell q1 (by simp)
  clear hV2 q0 q2 q3
  have hconv : ∀ W, Keeps [] V2 W → (convert 23 9 (.slice p1 nn c1)).run Try.prog W = .ok (.string s) W := fun W hk => HR1.out W (KV2.out.trans hk)
  have e4w : IntKind.i64.wrap ((4 : Int) + (x0 : Int)) = (lo : Int) := by rw [e4]; exact IntWalk.i64_in _ (by omega)
  have e4v : IntKind.i64.wrap (lo : Int) = (lo : Int) := IntWalk.i64_in _ (by omega)
  have hm1 : (1 : Int) < (m : Int) := by omega
  have hm1n : 1 < m := by omega
  have hq1 : ∀ W, Keeps [] V2 W → W.cell? ⟨M, off + 1, none⟩ = some (.int .u8 x1) := fun W hk => hk.cell q1 (by simp)
  go_region_held3 (fun W' => Keeps [] V2 W') (first | assumption | exact Keeps.refl [] _ | exact Keeps.drew [] _ | exact Keeps.trans (by assumption) (Keeps.alloc [] _ _) | exact (Keeps.drew [] _).trans (Keeps.alloc [] _ _)) (first | fail)
  generalize hU : World.drew _ = U
  obtain ⟨X6, hX6⟩ : ∃ X6, X6 = V2.heap.size := ⟨_, rfl⟩
  have HX6 := Lib.hid (show Whole U X6 27 [.string s, .int .u8 x1, .slice none 0 0] by rw [← hU, hX6]; exact (Whole.new V2 27 [.string s, .int .u8 x1, .slice none 0 0]).keeps (Keeps.drew [] _) (by simp))
  have HK6 := Lib.hid (show Keeps [] V2 U by rw [← hU]; exact (Keeps.alloc [] V2 _).trans (Keeps.drew [] _))
  have hX6w : w.heap.size < X6 := by rw [hX6]; exact WB2.out.lt
  have HB6 := Lib.hid (WB2.out.keeps HK6.out (by simp))
  have KU := Lib.hid (KV2.out.trans HK6.out)
  rw [← hX6]
  have hne : X6 ≠ w.heap.size := by omega
  have hne' : w.heap.size ≠ X6 := by omega
  clear hU hX6 hconv e4w hq1 q1 KV2 HK6 WB2
  go_wp2
  go_loopw [7, 8, 9] (fun z _ _ wr => ∃ (k : Nat) (ao : Option Addr) (cp : Nat), k ≤ nc ∧ z = .int .i64 k ∧ Whole wr X6 27 [.string s, .int .u8 x1, .slice ao k cp] ∧ wr.ownsRow w.heap.size 44 1 (.slice ao k cp) k ((cd.take k).map uv) ∧ Whole wr w.heap.size 27 [.string ⟨#[]⟩, .int .u8 0, .slice none 0 0] ∧ Keeps [] w wr) (fun z _ _ _ => nc - (intOf z).toNat)
  case atStart => exact ⟨0, none, 0, Nat.zero_le _, rfl, HX6.out, World.ownsRow_nil _ _ _ _, HB6.out, KU.out⟩
  case round =>
    obtain ⟨k, ao, cp2, hk, rfl, hx6, hown, hz6, hkw⟩ := hrel
    have HX := Lib.hid hx6
    have HO := Lib.hid hown
    have HZB := Lib.hid hz6
    have KR := Lib.hid hkw
    clear hx6 hown hz6 hkw
    by_cases hlt : k < nc
    · have hltI : (k : Int) < (nc : Int) := by omega
      obtain ⟨q, hq⟩ : ∃ q, q = lo + 4 * k := ⟨_, rfl⟩
      have e5 : (lo : Int) + 4 * (k : Int) = (q : Int) := by omega
      have HQ := Lib.hid (show q + 3 < m by have := HLB.out; omega)
      have hqm := HQ.out
      have HMB := Lib.hid (show m ≤ 1000000 from HB0.out)
      have hmb := HMB.out
      have HCK := Lib.hid (HCD.out k hlt)
      rw [← hq] at HCK
      obtain ⟨x, hx⟩ : ∃ x, of4 (b.getD q 0) (b.getD (q + 1) 0) (b.getD (q + 2) 0) (b.getD (q + 3) 0) = x := ⟨_, rfl⟩
      rw [hx] at HCK
      have HAX := Lib.hid (show acc4 b q 4 = x.toNat by rw [HAC.out q, hx])
      obtain ⟨W0, hW0⟩ : ∃ W0, W0 = wr := ⟨_, rfl⟩
      clear hx hq hk
      go_upto_region 12 with fail
      go_loopw [8, 9] (fun ac z wi => ∃ r t : Nat, t + r = 4 ∧ z = .int .i64 ((t : Int) - 1) ∧ ac = .int .u32 (acc4 b q r : Int) ∧ wi = W0) (fun _ z _ => (intOf z + 1).toNat)
      case atStart => exact ⟨0, 4, rfl, by go_num, rfl, hW0.symm⟩
      case round =>
        obtain ⟨r, t, hrt, rfl, rfl, hwi⟩ := hrel
        subst hwi
        subst hW0
        by_cases ht : t = 0
        · subst ht
          obtain rfl : r = 4 := by omega
          rw [HAX.out]
          obtain ⟨y, hy⟩ : ∃ y : Int, y = x.toNat := ⟨_, rfl⟩
          rw [← hy]
          have hlen : (cd.take k).length = k := by rw [List.length_take, HCL.out]; omega
          have HX1 := Lib.hid (UReads.one10 wr y x hy 44)
          have HO1 := Lib.hid (show (wr.alloc (.cells #[Value.int .u32 y] 44)).ownsRow w.heap.size 44 1 (.slice ao k cp2) (cd.take k).length ((cd.take k).map uv) by rw [hlen]; exact World.ownsRow.keeps HO.out (Keeps.alloc [] wr _) (by simp))
          have HXA := Lib.hid (HX.out.keeps (Keeps.alloc [] wr (.cells #[Value.int .u32 y] 44)) (by simp))
          have HZA := Lib.hid (HZB.out.keeps (Keeps.alloc [] wr (.cells #[Value.int .u32 y] 44)) (by simp))
          have HLEN := Lib.hid hlen
          have HSZ := Lib.hid (Nat.le_trans KR.out.size (Keeps.alloc [] wr (.cells #[Value.int .u32 y] 44)).size)
          have HTS := Lib.hid (show cd.take (k + 1) = cd.take k ++ [x] by rw [List.take_add_one, HCK.out]; rfl)
          have p2 := HX.out.cell 2
          simp only [List.getElem?_cons_zero, List.getElem?_cons_succ] at p2
          have hnc0 := HPRE.out
          clear hy hlen hrt e5 hqm hmb
          go_wp2_with (first
            | (at_builtin; (refine wpList_append_u rfl _ _ rfl w.heap.size (.slice ao k cp2) (cd.take k) rfl HO1.out _ [x] _ 0 rfl HX1.out (by rw [HLEN.out]; show k + 1 ≤ 1000000; omega) HSZ.out ?_)
               (intro v4 w4 ho4 hk4 _; have el : (cd.take k ++ [x]).length = k + 1 := (by rw [List.length_append, HLEN.out]; rfl); rw [el, ← HTS.out] at ho4; have HX4 := Lib.hid (HXA.out.owned HO1.out hk4 (by decide)); have HZ4 := Lib.hid (HZA.out.owned HO1.out hk4 (by decide)); have K4 := Lib.hid ((KR.out.trans (Keeps.alloc [] wr (.cells #[Value.int .u32 y] 44))).then hk4 (fun x hx => .inr (HO1.out.lt x (by simpa using hx)).1)); have xf := HX4.out.frozen 2; have p2 := HX4.out.cell 2; simp only [List.getElem?_cons_zero, List.getElem?_cons_succ] at p2; obtain ⟨a4, c4, rfl⟩ := owns_shape2 ho4; have HO4 := Lib.hid ho4; clear ho4 hk4 el)))
          have HX5 := Lib.hid (show Whole (w4.setCell ⟨X6, 2, none⟩ (.slice a4 (k + 1) c4)) X6 27 [.string s, .int .u8 x1, .slice a4 (k + 1) c4] from HX4.out.set 2 _)
          have HO5 := Lib.hid (owns_beside (i := 2) HO4.out HX4.out (by decide) (.slice a4 (k + 1) c4))
          have HZ5 := Lib.hid (HZ4.out.keeps (S := [X6]) (Keeps.setCell w4 (p := ⟨X6, 2, none⟩) (by simp) (.slice a4 (k + 1) c4)) (by simpa using hne'))
          have K5 := Lib.hid (K4.out.then (T := [X6]) (Keeps.setCell w4 (p := ⟨X6, 2, none⟩) (by simp) (.slice a4 (k + 1) c4)) (fun x hx => .inr (by simp at hx; omega)))
          go_roundw
          case rel => first | exact ⟨k + 1, a4, c4, by omega, by go_num, HX5.out, HO5.out, HZ5.out, K5.out⟩ | ((repeat apply Exists.intro); exact ⟨⟨k + 1, a4, c4, by omega, by go_num, HX5.out, HO5.out, HZ5.out, K5.out⟩, rfl⟩) | trace_state
          case measure => simp [intOf]; omega
        · obtain ⟨u, rfl⟩ : ∃ u, t = u + 1 := ⟨t - 1, by omega⟩
          have hu3 : u ≤ 3 := by omega
          have hru : r = 3 - u := by omega
          obtain ⟨qt, hqt⟩ : ∃ qt, qt = q + u := ⟨_, rfl⟩
          have e6 : (q : Int) + (u : Int) = (qt : Int) := by omega
          have e6w : IntKind.i64.wrap (qt : Int) = (qt : Int) := IntWalk.i64_in _ (by omega)
          have e6v : IntKind.i64.wrap ((q : Int) + (u : Int)) = (qt : Int) := by rw [e6]; exact e6w
          have ez : (((u + 1 : Nat) : Int) - 1) = (u : Int) := by omega
          rw [ez]
          have m0 := KR.out.cell (HTB.out qt (by omega)) (by simp)
          have HS4 := Lib.hid (show acc4 b q (r + 1) = acc4 b q r * 256 + (b.getD qt 0).toNat by rw [HAS.out q r, hqt, show 3 - r = u by omega])
          have hA : acc4 b q r < 16777216 := Nat.lt_of_lt_of_le (HAL.out q r) (by rw [hru]; exact Nat.pow_le_pow_right (by decide) (show 3 - u ≤ 3 by omega))
          have hy := (b.getD qt 0).toNat_lt
          unfold bv at m0
          have HRR := Lib.hid hrt
          have hqtm : qt < m := by omega
          clear hru ez hrt ht hqt
          generalize (b.getD qt 0).toNat = y at *
          generalize acc4 b q r = A at *
          have hx0 : (0 : Int) ≤ (u : Int) := by omega
          go_wp2
          go_roundw
          case rel => first | exact ⟨r + 1, u, by have := HRR.out; omega, by go_num, by rw [HS4.out]; go_num, trivial⟩ | exact ⟨r + 1, u, by have := HRR.out; omega, by go_num, by rw [HS4.out]; go_num, rfl⟩ | trace_state
          case measure => simp [intOf]
    · have hge : ¬ (k : Int) < (nc : Int) := by omega
      obtain rfl : k = nc := by omega
      have HCT := Lib.hid (show cd.take k = cd from List.take_of_length_le (by rw [HCL.out]; exact Nat.le_refl _))
      rw [HCT.out, ← HWC.out] at HO
      have HRI := Lib.hid (HR0.out wr ao cp2)
      have p60 := HX.out.cell 0
      have p61 := HX.out.cell 1
      have p62 := HX.out.cell 2
      simp only [List.getElem?_cons_zero, List.getElem?_cons_succ] at p60 p61 p62
      cases hrw : rightW (wordOfB b) with
      | true =>
        rw [hrw] at HRI
        have HRW := Lib.hid hrw
        have HO2 := Lib.hid (show wr.ownsRow w.heap.size 44 1 (.slice ao (wordOfB b).code.length cp2) (wordOfB b).code.length ((wordOfB b).code.map uv) by rw [HWL.out]; exact HO.out)
        clear hrw HR0 HO hk
        go_upto_region 18 with (go_at_call 9; refine HRI.out.mono ?_; rintro e w7 ⟨rfl, hk7⟩; have K7 := Lib.hid hk7; clear hk7)
        have HX7 := Lib.hid (HX.out.keeps K7.out (by simp))
        have HB7 := Lib.hid (HZB.out.keeps K7.out (by simp))
        have KW7 := Lib.hid (KR.out.trans K7.out)
        have p60 := HX7.out.cell 0
        have p61 := HX7.out.cell 1
        have p62 := HX7.out.cell 2
        have r0 := HB7.out.cell 0
        have r1 := HB7.out.cell 1
        have r2 := HB7.out.cell 2
        have rf := HB7.out.frozen
        simp only [List.getElem?_cons_zero, List.getElem?_cons_succ] at p60 p61 p62 r0 r1 r2
        have HO7 := Lib.hid (World.ownsRow.keeps HO2.out K7.out (fun _ _ => List.not_mem_nil))
        clear HX HZB HO2 K7 KR
        go_wp2
        generalize hU2 : World.setCell (World.setCell (World.setCell _ _ _) _ _) _ _ = U2
        have HR2 : Whole U2 w.heap.size 27 [.string s, .int .u8 x1, .slice ao k cp2] := by rw [← hU2]; exact HB7.out.three _ _ _
        have KU2 : Keeps [] w U2 := by rw [← hU2]; exact KW7.out.three (Nat.le_refl _) _ _ _
        have HO8 : U2.ownsRow w.heap.size 44 1 (.slice ao (wordOfB b).code.length cp2) (wordOfB b).code.length ((wordOfB b).code.map uv) := by
          rw [← hU2]
          exact owns_beside (owns_beside (owns_beside HO7.out HB7.out (by decide) _) (HB7.out.set 0 _) (by decide) _) ((HB7.out.set 0 _).set 1 _) (by decide) _
        have p0 := HR2.cell 0
        have p1 := HR2.cell 1
        have p2 := HR2.cell 2
        simp only [List.getElem?_cons_zero, List.getElem?_cons_succ] at p0 p1 p2
        exact bodyPost_ret (v := .tuple #[.agg #[.string s, .int .u8 x1, .slice ao k cp2], .int .i64 ((lo : Int) + 4 * (k : Int))]) (by simp [results, Try.results30, go_sem, p0, p1, p2]) rfl ⟨s, x1, ao, k, cp2, _, rfl, KU2, Lib.hid ⟨fun _ => ⟨HSN.out, HSF.out, by rw [HZ0.out]; omega, by rw [← HWL.out]; exact Got.ofOwn HO8 HRW.out⟩, fun h => by rw [HRW.out] at h; cases h⟩⟩
      | false =>
        rw [hrw] at HRI
        have HRW := Lib.hid hrw
        clear hrw HR0 HO hk
        go_upto_region 17 with (go_at_call 9; refine HRI.out.mono ?_; rintro e w7 ⟨rfl, hk7⟩; have K7 := Lib.hid hk7; clear hk7)
        have HX7 := Lib.hid (HX.out.keeps K7.out (by simp))
        have HB7 := Lib.hid (HZB.out.keeps K7.out (by simp))
        have KW7 := Lib.hid (KR.out.trans K7.out)
        have p60 := HX7.out.cell 0
        have p61 := HX7.out.cell 1
        have p62 := HX7.out.cell 2
        have r0 := HB7.out.cell 0
        have r1 := HB7.out.cell 1
        have r2 := HB7.out.cell 2
        have rf := HB7.out.frozen
        simp only [List.getElem?_cons_zero, List.getElem?_cons_succ] at p60 p61 p62 r0 r1 r2
        clear HX HZB K7 KR
        go_wp2
        generalize hU2 : World.setCell (World.setCell (World.setCell _ _ _) _ _) _ _ = U2
        have HR2 : Whole U2 w.heap.size 27 [.string ⟨#[]⟩, .int .u8 0, .slice none 0 0] := by rw [← hU2]; exact HB7.out.three _ _ _
        have KU2 : Keeps [] w U2 := by rw [← hU2]; exact KW7.out.three (Nat.le_refl _) _ _ _
        have p0 := HR2.cell 0
        have p1 := HR2.cell 1
        have p2 := HR2.cell 2
        simp only [List.getElem?_cons_zero, List.getElem?_cons_succ] at p0 p1 p2
        exact bodyPost_ret (v := .tuple #[.agg #[.string ⟨#[]⟩, .int .u8 0, .slice none 0 0], .int .i64 0]) (by simp [results, Try.results30, go_sem, p0, p1, p2]) rfl ⟨⟨#[]⟩, 0, none, 0, 0, 0, rfl, KU2, Lib.hid ⟨fun h => (by rw [HRW.out] at h; cases h), fun _ => rfl⟩⟩
end Go.Proofs.Yteaikbchbahdjaa
