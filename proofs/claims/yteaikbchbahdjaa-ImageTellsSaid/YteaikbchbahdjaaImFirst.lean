/-
  Words as bytes: the first word of bytes (the program's).
-/
import Derived.Test.YteaikbchbahdjaaImCode
import Derived.Test.YteaikbchbahdjaaImEnc
import Derived.Deep.RegionWith
import Derived.Deep.RegionHeld3
namespace Go.Proofs.Yteaikbchbahdjaa
open Go.RowKit Go.Deep
set_option linter.unusedVariables false

theorem or_low (a b : Nat) (ha : a < 256) (hb : b < 256) : bits .or .i64 (b : Int) ((a : Int) * 256) = ((b + 256 * a : Nat) : Int) := by
  have h : b + 256 * a = b ||| (a * 256) := by
    have := Nat.shiftLeft_add_eq_or_of_lt (i := 8) (b := b) hb a
    rw [Nat.shiftLeft_eq] at this
    have h0 : a * 256 + b = (a * 256) ||| b := this
    rw [Nat.or_comm, ← h0]
    omega
  have e1 : BitVec.ofInt IntKind.i64.bits ((a : Int) * 256) = BitVec.ofNat 64 (a * 256) := by
    rw [show (a : Int) * 256 = ((a * 256 : Nat) : Int) by omega]
    exact BitVec.ofInt_natCast _ _
  have e2 : BitVec.ofInt IntKind.i64.bits (b : Int) = BitVec.ofNat 64 b := BitVec.ofInt_natCast _ _
  unfold bits
  simp only [e1, e2]
  show IntKind.i64.wrap ((BitVec.ofNat 64 b ||| BitVec.ofNat 64 (a * 256) : BitVec 64).toNat : Int) = _
  rw [← BitVec.ofNat_or, ← h, BitVec.toNat_ofNat, Nat.mod_eq_of_lt (by show _ < 18446744073709551616; omega)]
  exact IntWalk.i64_in _ (by omega)

theorem Keeps.three {w V : World} (h : Keeps [] w V) {b : Nat} (hb : w.heap.size ≤ b) (x y z : Value) : Keeps [] w (((V.setCell ⟨b, 0, none⟩ x).setCell ⟨b, 1, none⟩ y).setCell ⟨b, 2, none⟩ z) :=
  h.then (T := [b]) (((Keeps.setCell (S := [b]) V (p := ⟨b, 0, none⟩) (by simp) x).trans (Keeps.setCell _ (p := ⟨b, 1, none⟩) (by simp) y)).trans (Keeps.setCell _ (p := ⟨b, 2, none⟩) (by simp) z)) (fun q hq => .inr (by simp at hq; omega))

theorem Whole.three {V : World} {b : Nat} {T : TypeId} {p q r : Value} (h : Whole V b T [p, q, r]) (x y z : Value) : Whole (((V.setCell ⟨b, 0, none⟩ x).setCell ⟨b, 1, none⟩ y).setCell ⟨b, 2, none⟩ z) b T [x, y, z] :=
  ((h.set 0 x).set 1 y).set 2 z

theorem getD_of {b : List UInt8} {i : Nat} (h : i < b.length) : b[i]? = some (b.getD i 0) := by
  rw [List.getD_eq_getElem?_getD, List.getElem?_eq_getElem h]; rfl

theorem wordOfB_size {b : List UInt8} (h : ¬ b.length < 4 + headN b + 4 * headC b) : sizeW (wordOfB b) = 4 + headN b + 4 * headC b := by
  have hn : (wordOfB b).name.length = headN b := by
    show ((b.drop 4).take (headN b)).length = _
    rw [List.length_take, List.length_drop]; omega
  have hc : (wordOfB b).code.length = headC b := codeOfL_length _ _
  unfold sizeW; rw [hn, hc]

set_option maxRecDepth 100000 in
set_option maxHeartbeats 2000000 in
theorem first_none (w : World) (v : Value) (b : List UInt8) (M : Nat) (hr : Reads w v b M) (hb : b.length ≤ 1000000) (hs : b.length < 4 ∨ b.length < 4 + headN b + 4 * headC b) :
    Calls Try.prog 29 #[v] w fun e w' => e = .returned (.tuple #[wvl ⟨[], 0, []⟩ none 0, .int .i64 0]) ∧ Keeps [] w w' := by
  obtain ⟨a, cap, rfl, hcap⟩ := hr.shape
  by_cases h4 : b.length < 4
  · have h4' : (b.length : Int) < 4 := by omega
    clear hs
    generalize b.length = m at *
    clear hr
    go_enter Try.func29, Try.ntmps29
    go_wp2
    exact bodyPost_ret (v := .tuple #[wvl ⟨[], 0, []⟩ none 0, .int .i64 0]) (by simp [results, Try.results29, go_sem]; rfl) rfl ⟨rfl, Keeps.alloc [] _ _⟩
  · have h4' : ¬ (b.length : Int) < 4 := by omega
    have hs2 : b.length < 4 + headN b + 4 * headC b := by omega
    obtain ⟨off, cp, hv, _, hc⟩ := hr.at (by intro e; rw [e] at h4; simp at h4)
    injection hv with ha _ _
    subst ha
    have q0 := hc 0 _ (getD_of (by omega))
    rw [Nat.add_zero] at q0
    have q2 := hc 2 _ (getD_of (by omega))
    have q3 := hc 3 _ (getD_of (by omega))
    have ho := or_low (b.getD 3 0).toNat (b.getD 2 0).toNat (b.getD 3 0).toNat_lt (b.getD 2 0).toNat_lt
    have HS := Lib.hid hs2
    have HN := Lib.hid (show headN b = (b.getD 0 0).toNat from rfl)
    have HC := Lib.hid (show headC b = (b.getD 2 0).toNat + 256 * (b.getD 3 0).toNat from rfl)
    have l0 := (b.getD 0 0).toNat_lt
    have l2 := (b.getD 2 0).toNat_lt
    have l3 := (b.getD 3 0).toNat_lt
    unfold bv at q0 q2 q3
    generalize (b.getD 0 0).toNat = x0 at *
    generalize (b.getD 2 0).toNat = x2 at *
    generalize (b.getD 3 0).toNat = x3 at *
    generalize headC b = nc at *
    generalize headN b = nn at *
    have HZ := Lib.hid fun w => sizeOf_any w x0 nc (by omega) (by have := HC.out; omega) _ rfl
    have ho' : bits .or .i64 (x2 : Int) ((x3 : Int) * 256) = (nc : Int) := by rw [ho, HC.out]
    have hlt : (b.length : Int) < 4 + (x0 : Int) + 4 * (nc : Int) := by have := HS.out; have := HN.out; omega
    generalize (4 + (x0 : Int) + 4 * (nc : Int)) = tot at *
    generalize b.length = m at *
    clear hc hs hs2 hr ho h4
    go_enter Try.func29, Try.ntmps29
    go_upto_region 3 with fail
    generalize hV : World.alloc w _ = V
    have WB := Lib.hid (show Whole V w.heap.size 27 [.string ByteArray.empty, .int .u8 0, .slice none 0 0] by rw [← hV]; exact Whole.new w 27 [.string ByteArray.empty, .int .u8 0, .slice none 0 0])
    have KV := Lib.hid (show Keeps [] w V by rw [← hV]; exact Keeps.alloc _ _ _)
    have q0 := KV.out.cell q0 (by simp)
    have q2 := KV.out.cell q2 (by simp)
    have q3 := KV.out.cell q3 (by simp)
    clear hV
    go_wp2_with (first | (go_at_call 25; refine (HZ.out _).mono ?_; rintro e w' ⟨rfl, rfl⟩; have g0 := (WB.out.keeps (Keeps.drewN [] V nq) (by simp)).cell 0; have g1 := (WB.out.keeps (Keeps.drewN [] V nq) (by simp)).cell 1; have g2 := (WB.out.keeps (Keeps.drewN [] V nq) (by simp)).cell 2; simp only [List.getElem?_cons_zero, List.getElem?_cons_succ] at g0 g1 g2; have FB := (WB.out.keeps (Keeps.drewN [] V nq) (by simp)).frozen) | go_quiet (fail))
    generalize hU : World.setCell (World.setCell (World.setCell _ _ _) _ _) _ _ = U
    have HW3 : Whole U w.heap.size 27 [.string ⟨#[]⟩, .int .u8 0, .slice none 0 0] := by rw [← hU]; exact (WB.out.keeps (Keeps.drewN [] V nq) (by simp)).three _ _ _
    have KU : Keeps [] w U := by rw [← hU]; exact (KV.out.trans (Keeps.drewN _ _ _)).three (Nat.le_refl _) _ _ _
    have p0 := HW3.cell 0
    have p1 := HW3.cell 1
    have p2 := HW3.cell 2
    simp only [List.getElem?_cons_zero, List.getElem?_cons_succ] at p0 p1 p2
    exact bodyPost_ret (v := .tuple #[wvl ⟨[], 0, []⟩ none 0, .int .i64 0]) (by simp [results, Try.results29, go_sem, p0, p1, p2]; rfl) rfl ⟨rfl, KU⟩

set_option maxRecDepth 100000 in
set_option maxHeartbeats 4000000 in
theorem first_is (w : World) (v : Value) (b : List UInt8) (M : Nat) (hr : Reads w v b M) (hb : b.length ≤ 1000000) (h4 : ¬ b.length < 4) (hs : ¬ b.length < 4 + headN b + 4 * headC b) :
    Calls Try.prog 29 #[v] w fun e w' => ∃ g, e = .returned (.tuple #[wvl (wordOfB b) (some ⟨g, 0, none⟩) (wordOfB b).code.length, .int .i64 (sizeR (wordOfB b))]) ∧ Whole w' g 44 ((wordOfB b).code.map uv) ∧ w.heap.size ≤ g ∧ Keeps [] w w' := by
  obtain ⟨a, cap, rfl, hcap⟩ := hr.shape
  obtain ⟨off, cp, hv, _, hc⟩ := hr.at (by intro e; rw [e] at h4; simp at h4)
  injection hv with ha _ hcpe
  subst ha hcpe
  have q0 := hc 0 _ (getD_of (by omega))
  rw [Nat.add_zero] at q0
  have q1 := hc 1 _ (getD_of (by omega))
  have q2 := hc 2 _ (getD_of (by omega))
  have q3 := hc 3 _ (getD_of (by omega))
  have ho := or_low (b.getD 3 0).toNat (b.getD 2 0).toNat (b.getD 3 0).toNat_lt (b.getD 2 0).toNat_lt
  have HN := Lib.hid (show headN b = (b.getD 0 0).toNat from rfl)
  have HC := Lib.hid (show headC b = (b.getD 2 0).toNat + 256 * (b.getD 3 0).toNat from rfl)
  have l0 := (b.getD 0 0).toNat_lt
  have l2 := (b.getD 2 0).toNat_lt
  have l3 := (b.getD 3 0).toNat_lt
  have HWN := Lib.hid (show (wordOfB b).name = (b.drop 4).take (headN b) from rfl)
  have HWF := Lib.hid (show (wordOfB b).flags = b.getD 1 0 from rfl)
  have HWC := Lib.hid (show (wordOfB b).code = codeOfL (headC b) (b.drop (4 + headN b)) from rfl)
  have HWL := Lib.hid (show (wordOfB b).code.length = headC b from codeOfL_length _ _)
  -- the name
  obtain ⟨lo, hlo⟩ : ∃ lo, lo = 4 + headN b := ⟨_, rfl⟩
  obtain ⟨p1, c1, hcut1, hr1⟩ := hr.cut 4 lo (by omega) (by omega)
  have hn1 : lo - 4 = headN b := by omega
  rw [hn1, ← HWN.out] at hcut1 hr1
  have HR1 := Lib.hid fun (W : World) (hk : Keeps [] w W) => conv_reads (hr1.keeps hk (by simp))
  have hrun1 : ∀ w, (Instr.sliceAt 23 (.slice (some ⟨M, off, none⟩) b.length cap) (some (.int .i64 4)) (some (.int .i64 lo)) none).run Try.prog w = .ok (sliced (some ⟨M, off, none⟩) 4 lo cap 1) w := fun w => (run_cut_lh w (some ⟨M, off, none⟩) b.length cap 4 lo (by omega) (by omega))
  rw [hcut1] at hrun1
  -- the cells
  obtain ⟨p2, c2, hcut2, hr2⟩ := hr.cut lo b.length (by omega) (Nat.le_refl _)
  rw [List.take_of_length_le (by simp)] at hcut2 hr2
  have HR2 := Lib.hid fun (W : World) (hk : Keeps [] w W) => codeOf_any W _ _ M (hr2.keeps hk (by simp)) (headC b) (by rw [List.length_drop]; omega) (by rw [List.length_drop]; omega)
  have hrun2 := fun w => (run_cut_l w (some ⟨M, off, none⟩) b.length cap lo (by omega))
  rw [hcut2] at hrun2
  rw [hlo, ← HWC.out] at HR2
  have HSZ := Lib.hid fun (w : World) (g : Nat) => Size_any w (wordOfB b) (some ⟨g, 0, none⟩) (wordOfB b).code.length _ rfl
  have HZ := Lib.hid fun w => sizeOf_any w (b.getD 0 0).toNat (headC b) (by omega) (by have := HC.out; omega) _ rfl
  unfold wvl at *
  rw [HWF.out, HWL.out] at HSZ ⊢
  have e4 : (4 : Int) + ((b.getD 0 0).toNat : Int) = (lo : Int) := by have := HN.out; omega
  have hnl : ¬ ((b.length : Int) < (lo : Int) + 4 * (headC b : Int)) := by omega
  have ho' : bits .or .i64 ((b.getD 2 0).toNat : Int) (((b.getD 3 0).toNat : Int) * 256) = (headC b : Int) := by rw [ho, HC.out]
  have h4' : ¬ (b.length : Int) < 4 := by omega
  rw [← HN.out] at HZ e4
  rw [HN.out] at HZ e4
  rw [e4] at HZ
  have hcap' : b.length ≤ cap := hcap
  have hlob : lo ≤ b.length := by omega
  have hlo4 : 4 ≤ lo := by omega
  unfold str bv at *
  have HNL := Lib.hid hnl
  rw [← hlo] at HR2
  generalize (b.getD 0 0).toNat = x0 at *
  generalize ((b.getD 1 0).toNat : Int) = x1 at *
  generalize (b.getD 2 0).toNat = x2 at *
  generalize (b.getD 3 0).toNat = x3 at *
  generalize ByteArray.mk (wordOfB b).name.toArray = s at *
  generalize (wordOfB b).name.length = nn at *
  generalize (b.drop lo).length = n2 at *
  generalize (sizeR (wordOfB b) : Int) = z at *
  generalize (wordOfB b).code = cd at *
  generalize headC b = nc at *
  have hnc : nc ≤ 70000 := by have := HC.out; omega
  generalize b.length = m at *
  clear hc hcut1 hcut2 hr1 hr2 hr ho hs h4 hn1 hcap hlo hnl
  have hnl := HNL.out
  generalize (lo : Int) + 4 * (nc : Int) = tot at *
  go_enter Try.func29, Try.ntmps29
  go_upto_region 3 with fail
  generalize hV : World.alloc w _ = V
  have WB := Lib.hid (show Whole V w.heap.size 27 [.string ⟨#[]⟩, .int .u8 0, .slice none 0 0] by rw [← hV]; exact Whole.new w 27 [.string ⟨#[]⟩, .int .u8 0, .slice none 0 0])
  have KV := Lib.hid (show Keeps [] w V by rw [← hV]; exact Keeps.alloc _ _ _)
  have q0 := KV.out.cell q0 (by simp)
  have q2 := KV.out.cell q2 (by simp)
  have q3 := KV.out.cell q3 (by simp)
  clear hV
  go_upto_region 6 with (first | (go_at_call 25; refine (HZ.out _).mono ?_; rintro e w' ⟨rfl, rfl⟩) | go_quiet (fail))
  generalize hV2 : World.drewN V _ = V2
  have KV2 := Lib.hid (show Keeps [] w V2 by rw [← hV2]; exact KV.out.trans (Keeps.drewN _ _ _))
  have WB2 := Lib.hid (show Whole V2 w.heap.size 27 [.string ⟨#[]⟩, .int .u8 0, .slice none 0 0] by rw [← hV2]; exact WB.out.keeps (Keeps.drewN [] _ _) (by simp))
  have q1 := KV2.out.cell q1 (by simp)
  clear hV2 q0 q2 q3 HZ
  have hconv : ∀ W, Keeps [] V2 W → (convert 23 9 (.slice p1 nn c1)).run Try.prog W = .ok (.string s) W := fun W hk => HR1.out W (KV2.out.trans hk)
  have HCO := Lib.hid fun (W : World) (hk : Keeps [] V2 W) => HR2.out W (KV2.out.trans hk)
  have kk0 : Keeps [] V2 V2 := Keeps.refl _ _
  have hrun1' : ∀ w, (Instr.slice 23 (.slice (some ⟨M, off, none⟩) m cap) (some (.int .i64 4)) (some (.int .i64 lo)) none).run Try.prog w = .ok (.slice p1 nn c1) w := fun w => by rw [← hrun1 w, run_sliceAt_slice _ _ _ _ _ _ underBytes]
  have hrun2' : ∀ w, (Instr.slice 23 (.slice (some ⟨M, off, none⟩) m cap) (some (.int .i64 lo)) none none).run Try.prog w = .ok (.slice p2 n2 c2) w := fun w => by rw [← hrun2 w, run_sliceAt_slice _ _ _ _ _ _ underBytes]
  have e4w : IntKind.i64.wrap ((4 : Int) + (x0 : Int)) = (lo : Int) := by rw [e4]; exact IntWalk.i64_in _ (by omega)
  have e4v : IntKind.i64.wrap (lo : Int) = (lo : Int) := IntWalk.i64_in _ (by omega)
  have hm1 : (1 : Int) < (m : Int) := by omega
  have hm1n : 1 < m := by omega
  have hq1 : ∀ W, Keeps [] V2 W → W.cell? ⟨M, off + 1, none⟩ = some (.int .u8 x1) := fun W hk => hk.cell q1 (by simp)
  go_region_held3 (fun W' => Keeps [] V2 W') (first | assumption | exact Keeps.refl [] _ | exact Keeps.drew [] _ | exact Keeps.trans (by assumption) (Keeps.alloc [] _ _) | exact (Keeps.drew [] _).trans (Keeps.alloc [] _ _) | exact Keeps.trans (by assumption) (by assumption) | exact (Keeps.drew [] _).trans (by assumption) | exact ((Keeps.drew [] _).trans (by assumption)).trans (Keeps.alloc [] _ _) | exact ((Keeps.drew [] _).trans (Keeps.alloc [] _ _)).trans (by assumption) | exact (((Keeps.drew [] _).trans (Keeps.alloc [] _ _)).trans (by assumption)).three (Nat.le_refl _) _ _ _) (first | (go_at_call 32; refine (HCO.out _ (by first | assumption | exact Keeps.refl [] _ | exact Keeps.drew [] _ | exact Keeps.trans (by assumption) (Keeps.alloc [] _ _) | exact (Keeps.drew [] _).trans (Keeps.alloc [] _ _))).mono ?_; rintro e wk ⟨g, rfl, hg, hgs, hk⟩; try (have hwz := (Whole.new_at V2.drew 27 [.string ⟨#[]⟩, .int .u8 0, .slice none 0 0] V2.heap.size rfl).keeps hk (by simp); have g0 := hwz.cell 0; have g1 := hwz.cell 1; have g2 := hwz.cell 2; have FB := hwz.frozen; simp only [List.getElem?_cons_zero, List.getElem?_cons_succ] at g0 g1 g2)))
  · generalize hU : World.alloc wk _ = U
    have HX6 := Lib.hid (show Whole U wk.heap.size 27 [.string s, .int .u8 x1, .slice (some ⟨g, 0, none⟩) nc nc] by rw [← hU]; exact Whole.new wk _ _)
    have HK6 := Lib.hid (show Keeps [] V2 U by rw [← hU]; exact ((Keeps.drew [] V2).trans hk).trans (Keeps.alloc [] _ _))
    have HG6 := Lib.hid (show Whole U g 44 (cd.map uv) by rw [← hU]; exact hg.keeps (Keeps.alloc [] _ _) (by simp))
    have hgz : w.heap.size < g := by have := WB2.out.lt; simp at hgs; omega
    obtain ⟨X6, hX6⟩ : ∃ X6, X6 = wk.heap.size := ⟨_, rfl⟩
    rw [← hX6] at HX6 ⊢
    have hX6w : w.heap.size < X6 := by rw [hX6]; have := WB2.out.lt; have := hk.size; simp at this; omega
    have HB6 := Lib.hid (WB2.out.keeps HK6.out (by simp))
    have p60 := HX6.out.cell 0
    have p61 := HX6.out.cell 1
    have p62 := HX6.out.cell 2
    have r0 := HB6.out.cell 0
    have r1 := HB6.out.cell 1
    have r2 := HB6.out.cell 2
    have rf := HB6.out.frozen
    simp only [List.getElem?_cons_zero, List.getElem?_cons_succ] at p60 p61 p62 r0 r1 r2
    have hne : X6 ≠ w.heap.size := by omega
    have hne' : w.heap.size ≠ X6 := by omega
    clear hU hX6
    go_wp2
    go_region_held3 (fun W' => W'.cell? ⟨X6, 0, none⟩ = some (.string s) ∧ W'.cell? ⟨X6, 1, none⟩ = some (.int .u8 x1) ∧ W'.cell? ⟨X6, 2, none⟩ = some (.slice (some ⟨g, 0, none⟩) nc nc)) (first | exact ⟨p60, p61, p62⟩ | assumption | exact ⟨hk7.cell p60 (by simp), hk7.cell p61 (by simp), hk7.cell p62 (by simp)⟩ | exact ⟨Keeps.cell (S := [w.heap.size]) ((((hk7.mono (by simp)).trans (Keeps.setCell _ (by simp) _)).trans (Keeps.setCell _ (by simp) _)).trans (Keeps.setCell _ (by simp) _)) p60 (by simpa using hne), Keeps.cell (S := [w.heap.size]) ((((hk7.mono (by simp)).trans (Keeps.setCell _ (by simp) _)).trans (Keeps.setCell _ (by simp) _)).trans (Keeps.setCell _ (by simp) _)) p61 (by simpa using hne), Keeps.cell (S := [w.heap.size]) ((((hk7.mono (by simp)).trans (Keeps.setCell _ (by simp) _)).trans (Keeps.setCell _ (by simp) _)).trans (Keeps.setCell _ (by simp) _)) p62 (by simpa using hne)⟩) (first | (go_at_call 12; refine (HSZ.out _ g).mono ?_; rintro e w7 ⟨rfl, hk7⟩; have hw7 := HB6.out.keeps ((Keeps.drew [] U).trans hk7) (by simp); have r70 := hw7.cell 0; have r71 := hw7.cell 1; have r72 := hw7.cell 2; have rf7 := hw7.frozen; simp only [List.getElem?_cons_zero, List.getElem?_cons_succ] at r70 r71 r72))
    go_wp2
    generalize hU2 : World.setCell (World.setCell (World.setCell _ _ _) _ _) _ _ = U2
    have HR2 : Whole U2 w.heap.size 27 [.string s, .int .u8 x1, .slice (some ⟨g, 0, none⟩) nc nc] := by rw [← hU2]; exact hw7.three _ _ _
    have KU2 : Keeps [] w U2 := by rw [← hU2]; exact ((KV2.out.trans HK6.out).trans ((Keeps.drew [] U).trans hk7)).three (Nat.le_refl _) _ _ _
    have HG2 : Whole U2 g 44 (cd.map uv) := by rw [← hU2]; exact (HG6.out.keeps ((Keeps.drew [] U).trans hk7) (by simp)).keeps (S := [w.heap.size]) (((Keeps.setCell _ (by simp) _).trans (Keeps.setCell _ (by simp) _)).trans (Keeps.setCell _ (by simp) _)) (by simp; omega)
    have p0 := HR2.cell 0
    have p1 := HR2.cell 1
    have p2 := HR2.cell 2
    simp only [List.getElem?_cons_zero, List.getElem?_cons_succ] at p0 p1 p2
    exact bodyPost_ret (v := .tuple #[.agg #[.string s, .int .u8 x1, .slice (some ⟨g, 0, none⟩) nc nc], .int .i64 z]) (by simp [results, Try.results29, go_sem, p0, p1, p2]) rfl ⟨g, rfl, HG2, by omega, KU2⟩
  · generalize hU : World.setCell (World.setCell (World.setCell _ _ _) _ _) _ _ = U
    have hgz : V2.heap.size < g := by simp at hgs; omega
    have HX6 := Lib.hid (show Whole U V2.heap.size 27 [.string s, .int .u8 x1, .slice (some ⟨g, 0, none⟩) nc nc] by rw [← hU]; exact hwz.three _ _ _)
    have HK6 := Lib.hid (show Keeps [] V2 U by rw [← hU]; exact (((Keeps.alloc [] V2 _).trans (Keeps.drew [] _)).trans hk).three (Nat.le_refl _) _ _ _)
    have HG6 := Lib.hid (show Whole U g 44 (cd.map uv) by rw [← hU]; exact hg.keeps (S := [V2.heap.size]) (((Keeps.setCell _ (by simp) _).trans (Keeps.setCell _ (by simp) _)).trans (Keeps.setCell _ (by simp) _)) (by simp; omega))
    obtain ⟨X6, hX6⟩ : ∃ X6, X6 = V2.heap.size := ⟨_, rfl⟩
    rw [← hX6] at HX6 hgz ⊢
    have hX6w : w.heap.size < X6 := by rw [hX6]; exact WB2.out.lt
    have HB6 := Lib.hid (WB2.out.keeps HK6.out (by simp))
    have p60 := HX6.out.cell 0
    have p61 := HX6.out.cell 1
    have p62 := HX6.out.cell 2
    have r0 := HB6.out.cell 0
    have r1 := HB6.out.cell 1
    have r2 := HB6.out.cell 2
    have rf := HB6.out.frozen
    simp only [List.getElem?_cons_zero, List.getElem?_cons_succ] at p60 p61 p62 r0 r1 r2
    have hne : X6 ≠ w.heap.size := by omega
    have hne' : w.heap.size ≠ X6 := by omega
    clear hU hX6
    go_wp2
    go_region_held3 (fun W' => W'.cell? ⟨X6, 0, none⟩ = some (.string s) ∧ W'.cell? ⟨X6, 1, none⟩ = some (.int .u8 x1) ∧ W'.cell? ⟨X6, 2, none⟩ = some (.slice (some ⟨g, 0, none⟩) nc nc)) (first | exact ⟨p60, p61, p62⟩ | assumption | exact ⟨hk7.cell p60 (by simp), hk7.cell p61 (by simp), hk7.cell p62 (by simp)⟩ | exact ⟨Keeps.cell (S := [w.heap.size]) ((((hk7.mono (by simp)).trans (Keeps.setCell _ (by simp) _)).trans (Keeps.setCell _ (by simp) _)).trans (Keeps.setCell _ (by simp) _)) p60 (by simpa using hne), Keeps.cell (S := [w.heap.size]) ((((hk7.mono (by simp)).trans (Keeps.setCell _ (by simp) _)).trans (Keeps.setCell _ (by simp) _)).trans (Keeps.setCell _ (by simp) _)) p61 (by simpa using hne), Keeps.cell (S := [w.heap.size]) ((((hk7.mono (by simp)).trans (Keeps.setCell _ (by simp) _)).trans (Keeps.setCell _ (by simp) _)).trans (Keeps.setCell _ (by simp) _)) p62 (by simpa using hne)⟩) (first | (go_at_call 12; refine (HSZ.out _ g).mono ?_; rintro e w7 ⟨rfl, hk7⟩; have hw7 := HB6.out.keeps ((Keeps.drew [] U).trans hk7) (by simp); have r70 := hw7.cell 0; have r71 := hw7.cell 1; have r72 := hw7.cell 2; have rf7 := hw7.frozen; simp only [List.getElem?_cons_zero, List.getElem?_cons_succ] at r70 r71 r72))
    go_wp2
    generalize hU2 : World.setCell (World.setCell (World.setCell _ _ _) _ _) _ _ = U2
    have HR2 : Whole U2 w.heap.size 27 [.string s, .int .u8 x1, .slice (some ⟨g, 0, none⟩) nc nc] := by rw [← hU2]; exact hw7.three _ _ _
    have KU2 : Keeps [] w U2 := by rw [← hU2]; exact ((KV2.out.trans HK6.out).trans ((Keeps.drew [] U).trans hk7)).three (Nat.le_refl _) _ _ _
    have HG2 : Whole U2 g 44 (cd.map uv) := by rw [← hU2]; exact (HG6.out.keeps ((Keeps.drew [] U).trans hk7) (by simp)).keeps (S := [w.heap.size]) (((Keeps.setCell _ (by simp) _).trans (Keeps.setCell _ (by simp) _)).trans (Keeps.setCell _ (by simp) _)) (by simp; omega)
    have p0 := HR2.cell 0
    have p1 := HR2.cell 1
    have p2 := HR2.cell 2
    simp only [List.getElem?_cons_zero, List.getElem?_cons_succ] at p0 p1 p2
    exact bodyPost_ret (v := .tuple #[.agg #[.string s, .int .u8 x1, .slice (some ⟨g, 0, none⟩) nc nc], .int .i64 z]) (by simp [results, Try.results29, go_sem, p0, p1, p2]) rfl ⟨g, rfl, HG2, by omega, KU2⟩
end Go.Proofs.Yteaikbchbahdjaa
