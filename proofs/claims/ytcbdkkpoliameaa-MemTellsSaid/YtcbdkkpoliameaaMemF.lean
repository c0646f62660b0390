/-
  Memories: one memory, apart from all that was there; the examples of the chapter.
-/
import Derived.Test.YtcbdkkpoliameaaMemE
namespace Go.Proofs.Ytcbdkkpoliameaa
open Go.RowKit Go.Deep
set_option linter.unusedVariables false

/-- A memory at blocks that are new since w0; all that was there then is as it was. -/
def MyMem (w0 w : World) (g rb : Nat) (win ram : List UInt8) : Prop :=
  Keeps [] w0 w ∧ ∃ M wv, MemAt w w0.heap.size g rb M wv win ram

section
variable {w0 w : World} {g rb : Nat} {win ram : List UInt8}

theorem MyMem.kept (h : MyMem w0 w g rb win ram) : Keeps [] w0 w := h.1
theorem MyMem.next (h : MyMem w0 w g rb win ram) {w' : World} (hk : Keeps [] w w') : MyMem w0 w' g rb win ram := by
  obtain ⟨h0, M, wv, hm⟩ := h
  exact ⟨h0.trans hk, M, wv, hm.next hk⟩
/-- What is changed besides is none of its blocks. -/
theorem MyMem.beside (h : MyMem w0 w g rb win ram) {w1 w' : World} {S : List Nat} (hk : Keeps S w w') (hS : ∀ x ∈ S, w.heap.size ≤ x) : MyMem w0 w' g rb win ram := by
  obtain ⟨h0, M, wv, hm⟩ := h
  have := h0.size
  refine ⟨h0.then hk (fun x hx => .inr (by have := hS x hx; omega)), M, wv, hm.keeps hk (fun hx => ?_) (fun hx => ?_) (fun hw hx => ?_)⟩
  · have := hS _ hx; have := hm.whole.lt; omega
  · have := hS _ hx; have := hm.row.lt; omega
  · have := hS _ hx; have := hm.winM hw; omega
theorem MyMem.ram_new (h : MyMem w0 w g rb win ram) : w0.heap.size ≤ rb ∧ rb < w.heap.size := by
  obtain ⟨h0, M, wv, hm⟩ := h
  exact ⟨hm.rbH, hm.row.lt⟩
theorem MyMem.win_new (h : MyMem w0 w g rb win ram) : w0.heap.size ≤ g ∧ g < w.heap.size := by
  obtain ⟨h0, M, wv, hm⟩ := h
  exact ⟨hm.gH, hm.whole.lt⟩
theorem MyMem.len (h : MyMem w0 w g rb win ram) : 4 ≤ ram.length ∧ ram.length ≤ 65536 ∧ ram.length % 4 = 0 ∧ win.length ≤ 65536 := by
  obtain ⟨h0, M, wv, hm⟩ := h
  have := hm.ram4
  have := hm.winL
  omega

theorem mem_wrote (h0 : Keeps [] w0 w) {w' : World} {r' : List UInt8} {M : Nat} {wv : Value} (hm : MemAt w' w0.heap.size g rb M wv win r') (hk : Keeps [rb] w w') : MyMem w0 w' g rb win r' :=
  ⟨h0.then hk (fun x hx => .inr (by simp at hx; subst hx; exact hm.rbH)), M, wv, hm⟩

theorem New_my (w0 w : World) (h0 : Keeps [] w0 w) (ni : Int) (n : Nat) (hni : ni = n) (n4 : 4 ≤ n) (n1 : n ≤ 65536) (nm : n % 4 = 0) (v : Value) (l : List UInt8) (Ml : Nat) (hl : Reads w v l Ml) (hm : l.length ≤ 65536) :
    Calls Try.prog 9 #[.int .i64 ni, v] w fun e w' => ∃ g rb, e = .returned (.tuple #[.pointer (some ⟨g, 0, none⟩), .int .i64 0]) ∧ MyMem w0 w' g rb l (List.replicate n 0) ∧ Keeps [] w w' := by
  subst hni
  refine (New9_ok w n n4 n1 nm v l Ml hl hm).mono ?_
  rintro e w' ⟨g, rb, M, wv, rfl, h, hk⟩
  have := h0.size
  exact ⟨g, rb, rfl, ⟨h0.trans hk, M, wv, h.whole, h.row, h.winR, fun hw => by have := h.winM hw; exact ⟨by omega, by omega, by omega, by omega⟩, by have := h.gH; omega, by have := h.rbH; omega, h.ne, h.ram4, h.winL⟩, hk⟩

theorem Load_my (h : MyMem w0 w g rb win ram) (Ai : Int) (A : Nat) (hA : Ai = A) (a1 : A < 4294967296) (x t : Int) (hx : (loadX win ram A : Int) = x) (ht : loadT win ram A = t) :
    Calls Try.prog 21 #[.pointer (some ⟨g, 0, none⟩), .int .u32 Ai] w fun e w' => e = .returned (.tuple #[.int .u32 x, .int .i32 t]) ∧ Keeps [] w w' := by
  subst hA
  obtain ⟨h0, M, wv, hm⟩ := h
  exact (Load_at hm A a1).mono fun e w' ⟨he, hk⟩ => ⟨by rw [he, hx, ht], hk⟩

theorem Byte_my (h : MyMem w0 w g rb win ram) (Ai : Int) (A : Nat) (hA : Ai = A) (a1 : A < 4294967296) (x t : Int) (hx : ((byteX win ram A).toNat : Int) = x) (ht : tT win ram A 1 = t) :
    Calls Try.prog 22 #[.pointer (some ⟨g, 0, none⟩), .int .u32 Ai] w fun e w' => e = .returned (.tuple #[.int .u8 x, .int .i32 t]) ∧ Keeps [] w w' := by
  subst hA
  obtain ⟨h0, M, wv, hm⟩ := h
  exact (Byte_at hm A a1).mono fun e w' ⟨he, hk⟩ => ⟨by rw [he, ht]; unfold bv; rw [hx], hk⟩

theorem Bytes_my (h : MyMem w0 w g rb win ram) (Ai ni : Int) (A n : Nat) (hA : Ai = A) (hn : ni = n) (a1 : A < 4294967296) (n1 : n < 4294967296) (L : List UInt8) (t : Int) (hL : gL win ram A n = L) (ht : tT win ram A n = t) :
    Calls Try.prog 23 #[.pointer (some ⟨g, 0, none⟩), .int .u32 Ai, .int .u32 ni] w fun e w' => ∃ a c M', e = .returned (.tuple #[.slice a L.length c, .int .i32 t]) ∧ Reads w' (.slice a L.length c) L M' ∧ (L ≠ [] → w.heap.size ≤ M' ∧ M' < w'.heap.size) ∧ Keeps [] w w' := by
  subst hA hn
  obtain ⟨h0, M, wv, hm⟩ := h
  rw [← hL, ← ht]
  exact Bytes_at hm A n a1 n1

theorem Ram_my (h : MyMem w0 w g rb win ram) :
    Calls Try.prog 10 #[.pointer (some ⟨g, 0, none⟩)] w fun e w' => ∃ a c M', e = .returned (.slice a ram.length c) ∧ Reads w' (.slice a ram.length c) ram M' ∧ w.heap.size ≤ M' ∧ M' < w'.heap.size ∧ Keeps [] w w' := by
  obtain ⟨h0, M, wv, hm⟩ := h
  exact Ram_at hm

theorem Store_my (h : MyMem w0 w g rb win ram) (Ai xi : Int) (A x : Nat) (hA : Ai = A) (hx : xi = x) (a1 : A < 4294967296) (x1 : x < 4294967296) (t : Int) (r' : List UInt8) (ht : storeT win ram A = t) (hr : storeL ram A x = r') :
    Calls Try.prog 11 #[.pointer (some ⟨g, 0, none⟩), .int .u32 Ai, .int .u32 xi] w fun e w' => e = .returned (.int .i32 t) ∧ MyMem w0 w' g rb win r' ∧ Keeps [rb] w w' := by
  subst hA hx
  obtain ⟨h0, M, wv, hm⟩ := h
  exact (Store_at hm A x a1 x1).mono fun e w' ⟨he, h1, hk⟩ => ⟨by rw [he, ht], hr ▸ mem_wrote h0 h1 hk, hk⟩

theorem Fill_my (h : MyMem w0 w g rb win ram) (Ai ni ci : Int) (A n : Nat) (c : UInt8) (hA : Ai = A) (hn : ni = n) (hc : ci = c.toNat) (a1 : A < 4294967296) (n1 : n < 4294967296) (t : Int) (r' : List UInt8) (ht : pT win ram A n = t) (hr : pL ram A (List.replicate n c) = r') :
    Calls Try.prog 17 #[.pointer (some ⟨g, 0, none⟩), .int .u32 Ai, .int .u32 ni, .int .u8 ci] w fun e w' => e = .returned (.int .i32 t) ∧ MyMem w0 w' g rb win r' ∧ Keeps [rb] w w' := by
  subst hA hn hc
  obtain ⟨h0, M, wv, hm⟩ := h
  exact (Fill_at hm A n a1 n1 c).mono fun e w' ⟨he, h1, hk⟩ => ⟨by rw [he, ht], hr ▸ mem_wrote h0 h1 hk, hk⟩

theorem SetByte_my (h : MyMem w0 w g rb win ram) (Ai ci : Int) (A : Nat) (c : UInt8) (hA : Ai = A) (hc : ci = c.toNat) (a1 : A < 4294967296) (t : Int) (r' : List UInt8) (ht : pT win ram A 1 = t) (hr : pL ram A [c] = r') :
    Calls Try.prog 13 #[.pointer (some ⟨g, 0, none⟩), .int .u32 Ai, .int .u8 ci] w fun e w' => e = .returned (.int .i32 t) ∧ MyMem w0 w' g rb win r' ∧ Keeps [rb] w w' := by
  subst hA hc
  obtain ⟨h0, M, wv, hm⟩ := h
  exact (SetByte_at hm A a1 c).mono fun e w' ⟨he, h1, hk⟩ => ⟨by rw [he, ht], hr ▸ mem_wrote h0 h1 hk, hk⟩

theorem Move_my (h : MyMem w0 w g rb win ram) (Ai Bi ni : Int) (A B n : Nat) (hA : Ai = A) (hB : Bi = B) (hn : ni = n) (a1 : A < 4294967296) (b1 : B < 4294967296) (n1 : n < 4294967296) (t : Int) (r' : List UInt8) (ht : moveT win ram A B n = t) (hr : moveL win ram A B n = r') :
    Calls Try.prog 15 #[.pointer (some ⟨g, 0, none⟩), .int .u32 Ai, .int .u32 Bi, .int .u32 ni] w fun e w' => e = .returned (.int .i32 t) ∧ MyMem w0 w' g rb win r' ∧ Keeps [rb] w w' := by
  subst hA hB hn
  obtain ⟨h0, M, wv, hm⟩ := h
  exact (Move_at hm A B n a1 b1 n1).mono fun e w' ⟨he, h1, hk⟩ => ⟨by rw [he, ht], hr ▸ mem_wrote h0 h1 hk, hk⟩

theorem Show_my (h : MyMem w0 w g rb win ram) (v : Value) (l : List UInt8) (Ml : Nat) (hl : Reads w v l Ml) (hn : l.length ≤ 65536) :
    Calls Try.prog 19 #[.pointer (some ⟨g, 0, none⟩), v] w fun e w' => e = .returned (.int .i64 0) ∧ MyMem w0 w' g rb l ram ∧ Keeps [g] w w' := by
  obtain ⟨h0, M, wv, hm⟩ := h
  refine (Show_at hm h0.size v l Ml hl hn).mono ?_
  rintro e w' ⟨M', wv', rfl, h1, hk⟩
  exact ⟨rfl, ⟨h0.then hk (fun x hx => .inr (by simp at hx; subst hx; exact hm.gH)), M', wv', h1⟩, hk⟩
end

set_option maxRecDepth 100000 in
set_option maxHeartbeats 4000000 in
theorem awake9_any (w : World) : Calls Try.prog 8 #[] w fun e w' => e = .returned (.bool true) ∧ Keeps [] w w' := by
  have al := fun (W : World) (o : Obj) => Keeps.alloc [] W o
  go_enter Try.func8, Try.ntmps8
  go_wp2_with fail
  refine (New_my w _ (al _ _) 16 16 rfl (by decide) (by decide) (by decide) _ [1, 2, 3, 4, 5] _ (Reads.lit w [1, 2, 3, 4, 5] _ _ 5 (0, 0) rfl rfl) (by decide)).mono ?_
  rintro e w1 ⟨g, rb, rfl, h, hk⟩
  have HS := Lib.hid h; clear h hk
  go_wp2_with fail
  refine (Load_my HS.out 4096 4096 rfl (by decide) 67305985 0 (by decide) (by decide)).mono ?_
  rintro e w2 ⟨rfl, hk⟩
  have HS2 := Lib.hid (HS.out.next hk); clear hk HS
  go_wp2_with fail
  refine (Load_my HS2.out 4100 4100 rfl (by decide) 0 (-9) (by decide) (by decide)).mono ?_
  rintro e w3 ⟨rfl, hk⟩
  have HS3 := Lib.hid (HS2.out.next hk); clear hk HS2
  go_wp2_with fail
  refine (Byte_my HS3.out 4100 4100 rfl (by decide) 5 0 (by decide) (by decide)).mono ?_
  rintro e w4 ⟨rfl, hk⟩
  have HS4 := Lib.hid (HS3.out.next hk); clear hk HS3
  go_wp2_with fail
  refine (Store_my HS4.out 1048576 7 1048576 7 rfl rfl (by decide) (by decide) 0 [7, 0, 0, 0, 0, 0, 0, 0, 0, 0, 0, 0, 0, 0, 0, 0] (by decide) (by decide)).mono ?_
  rintro e w5 ⟨rfl, h, hk⟩
  have HS5 := Lib.hid h; clear h hk HS4
  go_wp2_with fail
  refine (Store_my HS5.out 4096 7 4096 7 rfl rfl (by decide) (by decide) (-20) [7, 0, 0, 0, 0, 0, 0, 0, 0, 0, 0, 0, 0, 0, 0, 0] (by decide) (by decide)).mono ?_
  rintro e w6 ⟨rfl, h, hk⟩
  have HS6 := Lib.hid h; clear h hk HS5
  go_wp2_with fail
  refine (Store_my HS6.out 1048578 7 1048578 7 rfl rfl (by decide) (by decide) (-23) [7, 0, 0, 0, 0, 0, 0, 0, 0, 0, 0, 0, 0, 0, 0, 0] (by decide) (by decide)).mono ?_
  rintro e w7 ⟨rfl, h, hk⟩
  have HS7 := Lib.hid h; clear h hk HS6
  go_wp2_with fail
  refine (Store_my HS7.out 1048592 7 1048592 7 rfl rfl (by decide) (by decide) (-9) [7, 0, 0, 0, 0, 0, 0, 0, 0, 0, 0, 0, 0, 0, 0, 0] (by decide) (by decide)).mono ?_
  rintro e w8 ⟨rfl, h, hk⟩
  have HS8 := Lib.hid h; clear h hk HS7
  go_wp2_with fail
  refine (Byte_my HS8.out 1048576 1048576 rfl (by decide) 7 0 (by decide) (by decide)).mono ?_
  rintro e w9 ⟨rfl, hk⟩
  have HS9 := Lib.hid (HS8.out.next hk); clear hk HS8
  go_wp2_with fail
  refine (Move_my HS9.out 1048576 1048577 3 1048576 1048577 3 rfl rfl rfl (by decide) (by decide) (by decide) 0 [7, 7, 0, 0, 0, 0, 0, 0, 0, 0, 0, 0, 0, 0, 0, 0] (by decide) (by decide)).mono ?_
  rintro e w10 ⟨rfl, h, hk⟩
  have HS10 := Lib.hid h; clear h hk HS9
  go_wp2_with fail
  refine (Bytes_my HS10.out 1048576 4 1048576 4 rfl rfl (by decide) (by decide) [7, 7, 0, 0] 0 (by decide) (by decide)).mono ?_
  rintro e w11 ⟨a, c, M, rfl, hr, _, hk⟩
  have HR := Lib.hid hr; have HS11 := Lib.hid (HS10.out.next hk); clear hk hr HS10
  go_wp2_with fail
  refine (Bytes_my HS11.out 1048592 0 1048592 0 rfl rfl (by decide) (by decide) [] 0 (by decide) (by decide)).mono ?_
  rintro e w12 ⟨a2, c2, M2, rfl, hr, _, hk⟩
  have HS12 := Lib.hid (HS11.out.next hk); have hcv : (convert 22 9 (.slice a 4 c)).run Try.prog w12 = .ok (.string ⟨#[7, 7, 0, 0]⟩) w12 := conv_reads (HR.out.keeps hk (by simp)); clear hk hr HS11 HR
  go_wp2
  go_ret
  exact ⟨rfl, HS12.out.kept⟩
end Go.Proofs.Ytcbdkkpoliameaa
