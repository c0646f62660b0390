/-
  Memories: one memory, apart from all that was there; the examples of the chapter.
-/
import Derived.Test.YtfnjjanknfmibaaGreatMemE
namespace Go.Proofs.YtfnjjanknfmibaaGreat
open Go.RowKit Go.Deep
set_option linter.unusedVariables false

/-- A memory at blocks that are new since w0; all that was there then is as it was. -/
def MyMem (w0 w : World) (g rb : Nat) (win ram : List UInt8) : Prop :=
  Keeps [] w0 w ∧ ∃ M wv, MemAt w w0.heap.size g rb M wv win ram

section
variable {w0 w : World} {g rb : Nat} {win ram : List UInt8}

theorem MyMem.kept (h : MyMem w0 w g rb win ram) : Keeps [] w0 w := h.1
theorem MyMem.next (h : MyMem w0 w g rb win ram) {w' : World} (hk : Keeps [] w w') : MyMem w0 w' g rb win ram := by
  obtain ⟨h0, M, wv, hm⟩ := h
  exact ⟨h0.trans hk, M, wv, hm.next hk⟩
/-- What is changed besides is none of its blocks. -/
theorem MyMem.beside (h : MyMem w0 w g rb win ram) {w1 w' : World} {S : List Nat} (hk : Keeps S w w') (hS : ∀ x ∈ S, w.heap.size ≤ x) : MyMem w0 w' g rb win ram := by
  obtain ⟨h0, M, wv, hm⟩ := h
  have := h0.size
  refine ⟨h0.then hk (fun x hx => .inr (by have := hS x hx; omega)), M, wv, hm.keeps hk (fun hx => ?_) (fun hx => ?_) (fun hw hx => ?_)⟩
  · have := hS _ hx; have := hm.whole.lt; omega
  · have := hS _ hx; have := hm.row.lt; omega
  · have := hS _ hx; have := hm.winM hw; omega
theorem MyMem.ram_new (h : MyMem w0 w g rb win ram) : w0.heap.size ≤ rb ∧ rb < w.heap.size := by
  obtain ⟨h0, M, wv, hm⟩ := h
  exact ⟨hm.rbH, hm.row.lt⟩
theorem MyMem.win_new (h : MyMem w0 w g rb win ram) : w0.heap.size ≤ g ∧ g < w.heap.size := by
  obtain ⟨h0, M, wv, hm⟩ := h
  exact ⟨hm.gH, hm.whole.lt⟩
theorem MyMem.len (h : MyMem w0 w g rb win ram) : 4 ≤ ram.length ∧ ram.length ≤ 65536 ∧ ram.length % 4 = 0 ∧ win.length ≤ 65536 := by
  obtain ⟨h0, M, wv, hm⟩ := h
  have := hm.ram4
  have := hm.winL
  omega

theorem mem_wrote (h0 : Keeps [] w0 w) {w' : World} {r' : List UInt8} {M : Nat} {wv : Value} (hm : MemAt w' w0.heap.size g rb M wv win r') (hk : Keeps [rb] w w') : MyMem w0 w' g rb win r' :=
  ⟨h0.then hk (fun x hx => .inr (by simp at hx; subst hx; exact hm.rbH)), M, wv, hm⟩

theorem New_my (w0 w : World) (h0 : Keeps [] w0 w) (ni : Int) (n : Nat) (hni : ni = n) (n4 : 4 ≤ n) (n1 : n ≤ 65536) (nm : n % 4 = 0) (v : Value) (l : List UInt8) (Ml : Nat) (hl : Reads w v l Ml) (hm : l.length ≤ 65536) :
    Calls Tryz.prog 13 #[.int .i64 ni, v] w fun e w' => ∃ g rb, e = .returned (.tuple #[.pointer (some ⟨g, 0, none⟩), .int .i64 0]) ∧ MyMem w0 w' g rb l (List.replicate n 0) ∧ Keeps [] w w' := by
  subst hni
  refine (New9_ok w n n4 n1 nm v l Ml hl hm).mono ?_
  rintro e w' ⟨g, rb, M, wv, rfl, h, hk⟩
  have := h0.size
  exact ⟨g, rb, rfl, ⟨h0.trans hk, M, wv, h.whole, h.row, h.winR, fun hw => by have := h.winM hw; exact ⟨by omega, by omega, by omega, by omega⟩, by have := h.gH; omega, by have := h.rbH; omega, h.ne, h.ram4, h.winL⟩, hk⟩

theorem Load_my (h : MyMem w0 w g rb win ram) (Ai : Int) (A : Nat) (hA : Ai = A) (a1 : A < 4294967296) (x t : Int) (hx : (loadX win ram A : Int) = x) (ht : loadT win ram A = t) :
    Calls Tryz.prog 91 #[.pointer (some ⟨g, 0, none⟩), .int .u32 Ai] w fun e w' => e = .returned (.tuple #[.int .u32 x, .int .i32 t]) ∧ Keeps [] w w' := by
  subst hA
  obtain ⟨h0, M, wv, hm⟩ := h
  exact (Load_at hm A a1).mono fun e w' ⟨he, hk⟩ => ⟨by rw [he, hx, ht], hk⟩

theorem Byte_my (h : MyMem w0 w g rb win ram) (Ai : Int) (A : Nat) (hA : Ai = A) (a1 : A < 4294967296) (x t : Int) (hx : ((byteX win ram A).toNat : Int) = x) (ht : tT win ram A 1 = t) :
    Calls Tryz.prog 94 #[.pointer (some ⟨g, 0, none⟩), .int .u32 Ai] w fun e w' => e = .returned (.tuple #[.int .u8 x, .int .i32 t]) ∧ Keeps [] w w' := by
  subst hA
  obtain ⟨h0, M, wv, hm⟩ := h
  exact (Byte_at hm A a1).mono fun e w' ⟨he, hk⟩ => ⟨by rw [he, ht]; unfold bv; rw [hx], hk⟩

theorem Bytes_my (h : MyMem w0 w g rb win ram) (Ai ni : Int) (A n : Nat) (hA : Ai = A) (hn : ni = n) (a1 : A < 4294967296) (n1 : n < 4294967296) (L : List UInt8) (t : Int) (hL : gL win ram A n = L) (ht : tT win ram A n = t) :
    Calls Tryz.prog 7 #[.pointer (some ⟨g, 0, none⟩), .int .u32 Ai, .int .u32 ni] w fun e w' => ∃ a c M', e = .returned (.tuple #[.slice a L.length c, .int .i32 t]) ∧ Reads w' (.slice a L.length c) L M' ∧ (L ≠ [] → w.heap.size ≤ M' ∧ M' < w'.heap.size) ∧ Keeps [] w w' := by
  subst hA hn
  obtain ⟨h0, M, wv, hm⟩ := h
  rw [← hL, ← ht]
  exact Bytes_at hm A n a1 n1

theorem Ram_my (h : MyMem w0 w g rb win ram) :
    Calls Tryz.prog 6 #[.pointer (some ⟨g, 0, none⟩)] w fun e w' => ∃ a c M', e = .returned (.slice a ram.length c) ∧ Reads w' (.slice a ram.length c) ram M' ∧ w.heap.size ≤ M' ∧ M' < w'.heap.size ∧ Keeps [] w w' := by
  obtain ⟨h0, M, wv, hm⟩ := h
  exact Ram_at hm

theorem Store_my (h : MyMem w0 w g rb win ram) (Ai xi : Int) (A x : Nat) (hA : Ai = A) (hx : xi = x) (a1 : A < 4294967296) (x1 : x < 4294967296) (t : Int) (r' : List UInt8) (ht : storeT win ram A = t) (hr : storeL ram A x = r') :
    Calls Tryz.prog 100 #[.pointer (some ⟨g, 0, none⟩), .int .u32 Ai, .int .u32 xi] w fun e w' => e = .returned (.int .i32 t) ∧ MyMem w0 w' g rb win r' ∧ Keeps [rb] w w' := by
  subst hA hx
  obtain ⟨h0, M, wv, hm⟩ := h
  exact (Store_at hm A x a1 x1).mono fun e w' ⟨he, h1, hk⟩ => ⟨by rw [he, ht], hr ▸ mem_wrote h0 h1 hk, hk⟩

theorem Fill_my (h : MyMem w0 w g rb win ram) (Ai ni ci : Int) (A n : Nat) (c : UInt8) (hA : Ai = A) (hn : ni = n) (hc : ci = c.toNat) (a1 : A < 4294967296) (n1 : n < 4294967296) (t : Int) (r' : List UInt8) (ht : pT win ram A n = t) (hr : pL ram A (List.replicate n c) = r') :
    Calls Tryz.prog 110 #[.pointer (some ⟨g, 0, none⟩), .int .u32 Ai, .int .u32 ni, .int .u8 ci] w fun e w' => e = .returned (.int .i32 t) ∧ MyMem w0 w' g rb win r' ∧ Keeps [rb] w w' := by
  subst hA hn hc
  obtain ⟨h0, M, wv, hm⟩ := h
  exact (Fill_at hm A n a1 n1 c).mono fun e w' ⟨he, h1, hk⟩ => ⟨by rw [he, ht], hr ▸ mem_wrote h0 h1 hk, hk⟩

theorem SetByte_my (h : MyMem w0 w g rb win ram) (Ai ci : Int) (A : Nat) (c : UInt8) (hA : Ai = A) (hc : ci = c.toNat) (a1 : A < 4294967296) (t : Int) (r' : List UInt8) (ht : pT win ram A 1 = t) (hr : pL ram A [c] = r') :
    Calls Tryz.prog 102 #[.pointer (some ⟨g, 0, none⟩), .int .u32 Ai, .int .u8 ci] w fun e w' => e = .returned (.int .i32 t) ∧ MyMem w0 w' g rb win r' ∧ Keeps [rb] w w' := by
  subst hA hc
  obtain ⟨h0, M, wv, hm⟩ := h
  exact (SetByte_at hm A a1 c).mono fun e w' ⟨he, h1, hk⟩ => ⟨by rw [he, ht], hr ▸ mem_wrote h0 h1 hk, hk⟩

theorem Move_my (h : MyMem w0 w g rb win ram) (Ai Bi ni : Int) (A B n : Nat) (hA : Ai = A) (hB : Bi = B) (hn : ni = n) (a1 : A < 4294967296) (b1 : B < 4294967296) (n1 : n < 4294967296) (t : Int) (r' : List UInt8) (ht : moveT win ram A B n = t) (hr : moveL win ram A B n = r') :
    Calls Tryz.prog 108 #[.pointer (some ⟨g, 0, none⟩), .int .u32 Ai, .int .u32 Bi, .int .u32 ni] w fun e w' => e = .returned (.int .i32 t) ∧ MyMem w0 w' g rb win r' ∧ Keeps [rb] w w' := by
  subst hA hB hn
  obtain ⟨h0, M, wv, hm⟩ := h
  exact (Move_at hm A B n a1 b1 n1).mono fun e w' ⟨he, h1, hk⟩ => ⟨by rw [he, ht], hr ▸ mem_wrote h0 h1 hk, hk⟩

end

end Go.Proofs.YtfnjjanknfmibaaGreat
