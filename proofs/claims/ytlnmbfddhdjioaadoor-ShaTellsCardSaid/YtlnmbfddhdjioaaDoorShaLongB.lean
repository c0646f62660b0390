/-
  Contracts of the document's long numbers: times.
-/
import Derived.Test.YtlnmbfddhdjioaaDoorShaLongA
import Derived.Test.YtlnmbfddhdjioaaDoorShaD
namespace Go.Proofs.YtlnmbfddhdjioaaDoor
open Go.RowKit

theorem wrap_u32n (n : Nat) (h : n < 4294967296) : IntKind.u32.wrap (n : Int) = n := IntWalk.u32_in _ (by omega)

/-- Digits of a product, as far as they are made: i digits of x are through, and j digits of y with the next of x; c is carried. -/
def Mul (o : List Nat) (c n m x y i j : Nat) : Prop :=
  o.length = n + m ∧ (∀ d ∈ o, d < 65536) ∧ c < 65536 ∧ (∀ p, i + m ≤ p → p < n + m → o[p]? = some 0) ∧
    val o + c * 65536 ^ (i + j) = x % 65536 ^ i * y + dig x i * (y % 65536 ^ j) * 65536 ^ i

theorem Mul.start (n m x y : Nat) : Mul (List.replicate (n + m) 0) 0 n m x y 0 0 := by
  refine ⟨by simp, by intro d hd; rw [(List.mem_replicate.1 hd).2]; decide, by decide, ?_, ?_⟩
  · intro p _ h; simp [h]
  · rw [val_zeros]; simp [Nat.mod_one]

theorem mem_set_small {o : List Nat} {i x : Nat} (h : ∀ d ∈ o, d < 65536) (hx : x < 65536) : ∀ d ∈ o.set i x, d < 65536 := by
  intro d hd
  rcases List.mem_or_eq_of_mem_set hd with h' | rfl
  · exact h d h'
  · exact hx

/-- A digit's product with what lies there and what is carried. -/
def prod3 (o : List Nat) (c x y i j : Nat) : Nat := dig x i * dig y j + o.getD (i + j) 0 + c

theorem Mul.get {o : List Nat} {c n m x y i j : Nat} (h : Mul o c n m x y i j) (hi : i < n) (hj : j < m) : o[i + j]? = some (o.getD (i + j) 0) ∧ o.getD (i + j) 0 < 65536 := by
  have hl : i + j < o.length := by have := h.1; omega
  rw [List.getD_eq_getElem?_getD, List.getElem?_eq_getElem hl]
  exact ⟨rfl, h.2.1 _ (List.getElem_mem hl)⟩

theorem dig_mul (a b d c : Nat) (ha : a < 65536) (hb : b < 65536) (hd : d < 65536) (hc : c < 65536) : a * b < 4294967296 ∧ a * b + d < 4294967296 ∧ a * b + d + c < 4294967296 := by
  have h : a * b ≤ 65535 * 65535 := Nat.mul_le_mul (by omega) (by omega)
  omega

theorem Mul.step {o : List Nat} {c n m x y i j : Nat} (h : Mul o c n m x y i j) (hi : i < n) (hj : j < m) :
    Mul (o.set (i + j) (prod3 o c x y i j % 65536)) (prod3 o c x y i j / 65536) n m x y i (j + 1) := by
  obtain ⟨hg, hgl⟩ := h.get hi hj
  obtain ⟨h1, h2, h3, h4, h5⟩ := h
  have hb := (dig_mul (dig x i) (dig y j) (o.getD (i + j) 0) c (dig_lt _ _) (dig_lt _ _) hgl h3).2.2
  refine ⟨by simpa using h1, mem_set_small h2 (Nat.mod_lt _ (by decide)), ?_, ?_, ?_⟩
  · unfold prod3; omega
  · intro p hp1 hp2
    rw [List.getElem?_set_ne (by omega)]
    exact h4 p hp1 hp2
  · have hs := val_set o (i + j) (prod3 o c x y i j % 65536) _ hg
    have := mul_step (val o) (val (o.set (i + j) (prod3 o c x y i j % 65536))) c _ (o.getD (i + j) 0) (dig x i) (dig y j) (prod3 o c x y i j) (65536 ^ (i + j)) h5 hs rfl
    rw [show i + (j + 1) = i + j + 1 from rfl, Nat.pow_succ, this, low_succ y j, Nat.mul_add, Nat.add_mul, Nat.add_assoc]
    congr 1
    congr 1
    rw [Nat.pow_add]
    generalize 65536 ^ i = I
    generalize 65536 ^ j = J
    ac_rfl

theorem Mul.row {o : List Nat} {c n m x y i : Nat} (hy : y < 65536 ^ m) (h : Mul o c n m x y i m) (hi : i < n) : Mul (o.set (i + m) c) 0 n m x y (i + 1) 0 := by
  obtain ⟨h1, h2, h3, h4, h5⟩ := h
  refine ⟨by simpa using h1, mem_set_small h2 h3, by decide, ?_, ?_⟩
  · intro p hp1 hp2
    rw [List.getElem?_set_ne (by omega)]
    exact h4 p (by omega) hp2
  · have hs := val_set o (i + m) c 0 (h4 _ (Nat.le_refl _) (by omega))
    rw [Nat.mod_eq_of_lt hy] at h5
    rw [low_succ, Nat.add_mul]
    simp only [Nat.pow_zero, Nat.mod_one, Nat.mul_zero, Nat.zero_mul, Nat.add_zero] at hs ⊢
    rw [hs, h5]
    congr 1
    rw [Nat.mul_right_comm]

theorem Mul.done {o : List Nat} {n m x y : Nat} (hx : x < 65536 ^ n) (h : Mul o 0 n m x y n 0) : o = digs (n + m) (x * y) := by
  obtain ⟨h1, h2, h3, h4, h5⟩ := h
  simp only [Nat.mod_eq_of_lt hx, Nat.pow_zero, Nat.mod_one, Nat.mul_zero, Nat.zero_mul, Nat.add_zero] at h5
  have := val_digs o h2
  rwa [h1, h5] at this

set_option maxHeartbeats 4000000 in
theorem times_any (w : World) (b c n m cb cc x y : Nat) (hn : n ≤ 1000) (hm : m ≤ 1000) (hx : x < 65536 ^ n) (hy : y < 65536 ^ m) (hb : Row w b 38 ((digs n x).map nv) cb) (hc : Row w c 38 ((digs m y).map nv) cc) :
    Calls Tryd.prog 24 #[.slice (some ⟨b, 0, none⟩) n cb, .slice (some ⟨c, 0, none⟩) m cc] w fun e w' => e = .returned (.slice (some ⟨w.heap.size, 0, none⟩) (n + m : Nat) (n + m)) ∧ Row w' w.heap.size 38 ((digs (n + m) (x * y)).map nv) (n + m) ∧ Keeps [] w w' := by
  have HB := Lib.hid hb
  have HC := Lib.hid hc
  have HX := Lib.hid hx
  have HY := Lib.hid hy
  clear hb hc hx hy
  have hmk := fun w : World => run_long w ((n : Int) + (m : Int)) (n + m) (by omega) (by omega)
  go_enter Tryd.func24, Tryd.ntmps24
  go_wp2
  go_loopw [6] (fun i wr => ∃ (i' : Nat) (o : List Nat), i' ≤ n ∧ i = .int .i64 i' ∧ Mul o 0 n m x y i' 0 ∧ Row wr w.heap.size 38 (o.map nv) (n + m) ∧ Keeps [] w wr) (fun i _ => n - (intOf i).toNat)
  case atStart =>
    refine ⟨0, List.replicate (n + m) 0, Nat.zero_le _, rfl, Mul.start n m x y, ?_, Keeps.alloc [] _ _⟩
    rw [List.map_replicate]
    exact ⟨by simp, (List.replicate (n + m) (nv 0)).toArray, heap_alloc_new w _, by simp, by simp⟩
  case round =>
    obtain ⟨i, o, hi, rfl, hM, rB, kp⟩ := hrel
    have RB := Lib.hid rB
    have KP := Lib.hid kp
    have HM := Lib.hid hM
    clear rB kp hM
    by_cases hin : i < n
    · have hin' : (i : Int) < n := by omega
      go_wp2
      go_loopw [7, 8] (fun cv jv wr => ∃ (j c : Nat) (o : List Nat), j ≤ m ∧ jv = .int .i64 j ∧ cv = nv c ∧ Mul o c n m x y i j ∧ Row wr w.heap.size 38 (o.map nv) (n + m) ∧ Keeps [] w wr) (fun _ j _ => m - (intOf j).toNat)
      case atStart => exact ⟨0, 0, o, Nat.zero_le _, rfl, rfl, HM.out, RB.out, KP.out⟩
      case round =>
        clear HM RB KP
        obtain ⟨j, cr, o, hj, rfl, rfl, hM, rB, kp⟩ := hrel
        by_cases hjm : j < m
        · have hjm' : (j : Int) < m := by omega
          have hsum : (i : Int) + (j : Int) = ((i + j : Nat) : Int) := by omega
          obtain ⟨hg, hgl⟩ := hM.get hin hjm
          have p0 := (HB.out.keeps kp (by simp)).cell i (v := nv (dig x i)) (by rw [List.getElem?_map, digs_get n x i hin]; rfl)
          have p1 := (HC.out.keeps kp (by simp)).cell j (v := nv (dig y j)) (by rw [List.getElem?_map, digs_get m y j hjm]; rfl)
          have p2 := rB.cell (i + j) (v := nv (o.getD (i + j) 0)) (by rw [List.getElem?_map, hg]; rfl)
          have fz := rB.frozen (i + j)
          have hw := dig_mul (dig x i) (dig y j) (o.getD (i + j) 0) cr (dig_lt _ _) (dig_lt _ _) hgl hM.2.2.1
          have hlt : i + j < n + m := by omega
          have hlt' : ((i + j : Nat) : Int) < ((n + m : Nat) : Int) := by omega
          have HS := Lib.hid (hM.step hin hjm)
          have hp : prod3 o cr x y i j = dig x i * dig y j + o.getD (i + j) 0 + cr := rfl
          rw [hp] at HS
          have RS := Lib.hid (fun k : Nat => (rB.keeps (Keeps.drewN [] _ k) (by simp)).set (i + j) (nv ((dig x i * dig y j + o.getD (i + j) 0 + cr) % 65536)))
          have KP := Lib.hid kp
          clear rB kp hM hg hp
          generalize o.getD (i + j) 0 = D at *
          generalize hsm : i + j = sm at *
          have HSM := Lib.hid hsm
          clear hsm
          generalize dig x i = A at *
          generalize dig y j = B at *
          have e1 : (A : Int) * (B : Int) = ((A * B : Nat) : Int) := by rw [Int.natCast_mul]
          have e2 : ((A * B : Nat) : Int) + (D : Int) = ((A * B + D : Nat) : Int) := by omega
          have e3 : ((A * B + D : Nat) : Int) + (cr : Int) = ((A * B + D + cr : Nat) : Int) := by omega
          generalize A * B = q1 at *
          generalize q1 + D = q2 at *
          generalize q2 + cr = q3 at *
          obtain ⟨b1, b2, b3⟩ := hw
          have u1 := wrap_u32n q1 b1
          have u2 := wrap_u32n q2 b2
          have u3 := wrap_u32n q3 b3
          have m1 : (q1 : Int) % 4294967296 = q1 := by omega
          have m2 : (q2 : Int) % 4294967296 = q2 := by omega
          have m3 : (q3 : Int) % 4294967296 = q3 := by omega
          have r1 : (q3 : Int) % 65536 = ((q3 % 65536 : Nat) : Int) := by omega
          have r2 : (q3 : Int).tmod 65536 = ((q3 % 65536 : Nat) : Int) := by rw [Int.tmod_eq_emod_of_nonneg (by omega)]; exact r1
          have r3 : (q3 : Int) / 65536 = ((q3 / 65536 : Nat) : Int) := by omega
          have r4 : (q3 : Int).tdiv 65536 = ((q3 / 65536 : Nat) : Int) := by rw [Int.tdiv_eq_ediv_of_nonneg (by omega)]; exact r3
          have b4 : q3 % 65536 < 65536 := Nat.mod_lt _ (by decide)
          have b5 : q3 / 65536 < 65536 := by omega
          generalize q3 % 65536 = rm at *
          generalize q3 / 65536 = qt at *
          have u4 := wrap_u32n rm (by omega)
          have u5 := wrap_u32n qt (by omega)
          go_wp2
          go_quiet (fail)
          go_wp2
          go_roundw
          case rel =>
            refine ⟨j + 1, _, _, by omega, by go_num, rfl, HS.out, ?_, ?_⟩
            · rw [List.map_set]; exact RS.out _
            · exact KP.out.then ((Keeps.drewN [w.heap.size] _ _).trans (Keeps.setCell (S := [w.heap.size]) _ (by simp) _)) (fun x hx => .inr (by simp at hx; omega))
          case measure => simp [intOf]; omega
        · obtain rfl : j = m := by omega
          have hlt : i + j < n + j := by omega
          have hlt' : ((i + j : Nat) : Int) < ((n + j : Nat) : Int) := by omega
          have HS := Lib.hid (hM.row HY.out hin)
          have fz := rB.frozen (i + j)
          have p2 := rB.cell (i + j) (v := nv 0) (by rw [List.getElem?_map, hM.2.2.2.1 _ (Nat.le_refl _) hlt]; rfl)
          have RS := Lib.hid (rB.set (i + j) (nv cr))
          have KP := Lib.hid kp
          clear rB kp hM
          have hsum : (i : Int) + (j : Int) = ((i + j : Nat) : Int) := by omega
          generalize hsm : i + j = sm at *
          have HSM := Lib.hid hsm
          clear hsm
          go_wp2
          go_roundw
          case rel =>
            refine ⟨i + 1, _, by omega, by go_num, HS.out, ?_, ?_⟩
            · rw [List.map_set]; exact RS.out
            · exact KP.out.then (Keeps.setCell (S := [w.heap.size]) _ (by simp) _) (fun x hx => .inr (by simp at hx; omega))
          case measure => simp [intOf]; omega
    · obtain rfl : i = n := by omega
      have HD := Lib.hid (HM.out.done HX.out)
      clear HM
      go_wp2
      go_ret
      exact ⟨rfl, HD.out ▸ RB.out, KP.out⟩
end Go.Proofs.YtlnmbfddhdjioaaDoor
