/-
  Contracts that every seat wants: lightshiplow's Is, Fresh, Among; the rows of bytes and ints in the table of types.
-/
import Derived.Test.YtdcfcljgennipaaRows
import Derived.Test.YtdcfcljgennipaaVoc
import Derived.Deep.QuietTactic
import Derived.BigQuiet
import Derived.Outline
namespace Go.Proofs.Ytdcfcljgennipaa
open Go.RowKit

theorem infoByte : (Try.prog.info? 5).map (fun i => (i.zero, i.size, i.bytes)) = some (some (.int .u8 0), 1, 1) := by kernel_rfl
theorem infoInt : (Try.prog.info? 3).map (fun i => (i.zero, i.size, i.bytes)) = some (some (.int .i64 0), 1, 8) := by kernel_rfl

theorem foldl_push (l : List UInt8) : ∀ s : ByteArray, (l.map fun c => (c.toNat : Int)).foldl (fun r n => r.push (UInt8.ofNat n.toNat)) s = ⟨s.data ++ l.toArray⟩ := by
  induction l with
  | nil => intro s; simp
  | cons c l ih =>
    intro s
    rw [List.map_cons, List.foldl_cons, ih]
    have : UInt8.ofNat ((c.toNat : Int)).toNat = c := by simp
    rw [this]
    simp [ByteArray.push]

theorem conv_reads {w : World} {v : Value} {l : List UInt8} {M : Nat} (h : Reads w v l M) : (convert 22 9 v).run Try.prog w = .ok (.string ⟨l.toArray⟩) w := by
  rcases h with ⟨rfl, rfl⟩ | ⟨ad, cap, rfl, _, _, hc⟩
  · rw [run_convert_bytes_string w 22 9 5 none 0 0 Try.underlying22 Try.underlying5 Try.underlying9]
    rfl
  · rw [run_convert_bytes_string w 22 9 5 _ _ _ Try.underlying22 Try.underlying5 Try.underlying9]
    have hl : (loadCells ad l.length).run Try.prog w = .ok ((l.map fun c => (c.toNat : Int)).map (Value.int .u8)).toArray w := by
      have := run_loadCells_list (P := Try.prog) w ad (l.map bv) (fun j u hu => by
        rw [List.getElem?_map] at hu
        obtain ⟨c, h1, rfl⟩ := Option.map_eq_some_iff.1 hu
        exact hc j c h1)
      rw [List.length_map] at this
      rw [this, List.map_map]
      rfl
    rw [run_bytesToString w ad l.length cap _ hl, foldl_push]
    simp

set_option maxRecDepth 100000 in
set_option maxHeartbeats 400000 in
theorem Is_any (w : World) (va vb : Value) (a b : List UInt8) (Ma Mb : Nat) (ha : Reads w va a Ma) (hb : Reads w vb b Mb) :
    Calls Try.prog 18 #[va, vb] w fun e w' => e = .returned (.bool (a == b)) ∧ w = w' := by
  have h1 := conv_reads ha
  have h2 := conv_reads hb
  clear ha hb
  go_enter Try.func18, Try.ntmps18
  go_wp2
  go_ret
  exact ⟨rfl, rfl⟩

theorem Row.ofOwnsAt {w : World} {base : Nat} {T : TypeId} {b n cap : Nat} {xs : List Value} (h : w.ownsRow base T 1 (.slice (some ⟨b, 0, none⟩) n cap) n xs) : Row w b T xs cap := by
  obtain ⟨b', c', hv, _, hr⟩ := Row.ofOwns h (by simp)
  simp at hv
  obtain ⟨rfl, rfl⟩ := hv
  exact hr

set_option maxRecDepth 100000 in
set_option maxHeartbeats 400000 in
theorem Fresh_some (w : World) (ad : Addr) (n cap : Nat) (xs : List Value) (hx : xs.length = n) (hl : n ≤ 65536) (h1 : ∀ u ∈ xs, u.oneCell' = true) (hc : ∀ i u, xs[i]? = some u → w.cell? (ad.add i) = some u) :
    Calls Try.prog 11 #[.slice (some ad) n cap] w fun e w' => ∃ b c, e = .returned (.slice (some ⟨b, 0, none⟩) n c) ∧ w.heap.size ≤ b ∧ Row w' b 5 xs c ∧ Keeps [] w w' := by
  obtain ⟨i0, hi, hz0, hz1, hz2⟩ := info_parts infoByte
  have Hx := Lib.hid hx
  clear hx
  go_enter Try.func11, Try.ntmps11
  go_wp2_with (first | (refine wpList_make_own _ rfl _ _ 22 rfl w.heap.size 5 i0 (.int .u8 0) 1 Try.underlying22 hi hz0 hz1 .i64 .i64 _ n rfl rfl rfl (by rw [hz2]; omega) (by unfold maxLen; omega) (Nat.le_refl _) ?_; intro w1 hown1 hg1; have HO := Lib.hid hown1; have HG := Lib.hid hg1; clear hown1 hg1) | (at_builtin; refine wpList_append_fits _ rfl _ _ 22 rfl w.heap.size 5 i0 1 Try.underlying22 hi hz1 w.heap.size 0 n [] rfl HO.out ad n cap xs rfl (by rw [Hx.out, Nat.mul_one]) (fun j u hu => (Keeps.grown (S := []) HG.out (fun k hk => by cases hk)).cell (hc j u hu) (by simp)) h1 (by omega) ?_; intro w2 hown2 hg2; have HO2 := Lib.hid hown2; have HG2 := Lib.hid hg2; clear hown2 hg2) | fail)
  go_ret
  have hsz := HG.out.size
  exact ⟨w.heap.size, n, by simp, Nat.le_refl _, by have := Row.ofOwnsAt HO2.out; simpa using this, (Keeps.grown (S := []) HG.out (fun k hk => by cases hk)).then (Keeps.grown (S := [w.heap.size]) HG2.out (fun k hk => by simp at hk; simp [hk])) (fun x hx => .inr (by simp at hx; omega))⟩

set_option maxRecDepth 100000 in
set_option maxHeartbeats 400000 in
theorem Fresh_nil (w : World) :
    Calls Try.prog 11 #[.slice none 0 0] w fun e w' => ∃ b c, e = .returned (.slice (some ⟨b, 0, none⟩) 0 c) ∧ w.heap.size ≤ b ∧ Row w' b 5 [] c ∧ Keeps [] w w' := by
  obtain ⟨i0, hi, hz0, hz1, hz2⟩ := info_parts infoByte
  go_enter Try.func11, Try.ntmps11
  go_wp2_with (first | (refine wpList_make_own _ rfl _ _ 22 rfl w.heap.size 5 i0 (.int .u8 0) 1 Try.underlying22 hi hz0 hz1 .i64 .i64 _ 0 rfl rfl rfl (by rw [hz2]; omega) (by unfold maxLen; omega) (Nat.le_refl _) ?_; intro w1 hown1 hg1; have HO := Lib.hid hown1; have HG := Lib.hid hg1; clear hown1 hg1) | (at_builtin; refine wpList_append_own_none rfl _ _ 22 rfl w.heap.size 5 i0 1 Try.underlying22 hi _ 0 [] rfl HO.out rfl ?_) | fail)
  go_ret
  exact ⟨w.heap.size, 0, rfl, Nat.le_refl _, Row.ofOwnsAt HO.out, Keeps.grown (S := []) HG.out (fun k hk => by cases hk)⟩

theorem Fresh_any (w : World) (v : Value) (l : List UInt8) (M : Nat) (h : Reads w v l M) (hl : l.length ≤ 65536) :
    Calls Try.prog 11 #[v] w fun e w' => ∃ b c, e = .returned (.slice (some ⟨b, 0, none⟩) l.length c) ∧ w.heap.size ≤ b ∧ Row w' b 5 (l.map bv) c ∧ Keeps [] w w' := by
  rcases h with ⟨rfl, rfl⟩ | ⟨ad, cap, rfl, _, _, hc⟩
  · exact Fresh_nil w
  · exact Fresh_some w ad l.length cap (l.map bv) (by simp) hl (one_bytes l) (fun i u hu => by
      rw [List.getElem?_map] at hu
      obtain ⟨c, h1, rfl⟩ := Option.map_eq_some_iff.1 hu
      exact hc i c h1)

end Go.Proofs.Ytdcfcljgennipaa
