/-
  One element appended to a row, as a step of a region that draws its order: the row's cells stand where they stood. No function of the program is named here.
-/
import Derived.Test.YtlnmbfddhdjioaaDoorGround
import Derived.Deep.RegionLawGrows
import Derived.Deep.AppendLies
namespace Go.Proofs.YtlnmbfddhdjioaaDoor
open Go.RowKit

theorem step_append_kept {P : Program} {ops : Array Oper} {o : Oper} {a : Act} {w : World} {K : Act → World → Prop} {Q : Exit → Act → World → Prop} {E : Prop} (hgd : o.guard = none) (s x : Operand) (t : TypeId)
    (ho : o.op = .call { callee := .builtin .append, args := #[s, x], argTypes := #[t, t] })
    (base : Nat) (e : TypeId) (i : TypeInfo) (z : Value) (bytes : Nat) (ht : P.underlying t = some (.slice e)) (hi : P.info? e = some i) (hz : i.zero = some z) (hsize : i.size = 1) (hby : i.bytes = bytes) (hzs : z.cells.size = 1)
    (b n cap : Nat) (xs : List Value) (hs : a.eval s = .slice (some ⟨b, 0, none⟩) n cap) (hown : w.ownsRow base e 1 (.slice (some ⟨b, 0, none⟩) n cap) n xs)
    (ad : Addr) (u : Value) (hx : a.eval x = .slice (some ad) 1 1) (hnews : ∀ j v, [u][j]? = some v → w.cell? (ad.add j) = some v) (h1 : u.oneCell' = true)
    (h63 : n + 1 ≤ maxLen) (hbytes : (n + 1) * bytes ≤ 140737488355328) (hbase : base ≤ w.heap.size)
    (h : ∀ g c w', w'.ownsRow base e 1 (.slice (some ⟨g, 0, none⟩) (n + 1) c) (n + 1) (xs ++ [u]) → w.grownBy w' (some b) → (∀ j v, xs[j]? = some v → w'.cell? ⟨b, j, none⟩ = some v) → K (a.put o.dst (.slice (some ⟨g, 0, none⟩) (n + 1) c)) w') :
    if Region.wanted o (yielded ops a.tmps) = true then Oper.wp P o a w K Q else E := by
  obtain ⟨b', c', hv, hb, rB⟩ := Row.ofOwns hown (by intro e; cases e)
  injection hv with e1 _ e3
  injection e1 with e1
  injection e1 with e1
  subst e1 e3
  have hxl : xs.length = n := by have := hown.1; omega
  by_cases hr : n + 1 ≤ cap
  · obtain ⟨cur, hc, hcs, htk⟩ := rB.there
    refine step_append_room hgd s x t ho e i 1 ht hi hsize b 0 n cap hs ad 1 1 [u] hx rfl hnews (by simpa using h1) hr ?_ ?_
    · intro j hj
      obtain rfl : j = 0 := by simpa using hj
      rw [Nat.zero_add, Nat.mul_one, Nat.add_zero]
      refine ⟨?_, rB.frozen _⟩
      rw [cell_of_row w b n cur e (0, 0) hc, Array.getElem?_eq_getElem (by omega)]; rfl
    · obtain ⟨hl, hor⟩ := hown
      rcases hor with ⟨hv, _⟩ | ⟨g, c, cur2, hv, hbb, hc2, hnc, hcm, hcz, htk2⟩
      · cases hv
      · injection hv with e1 _ e3
        injection e1 with e1
        injection e1 with e1
        subst e1 e3
        have e2 : w.setCells b (0 + n * 1) [u] = w.setCell ⟨b, n, none⟩ u := by rw [Nat.zero_add, Nat.mul_one]; rfl
        rw [e2]
        have hh := heap_setCell_at w b n u cur2 e (0, 0) hc2
        refine h b cap _ ⟨by simp; omega, .inr ⟨b, cap, _, rfl, hbb, hh, hr, hcm, by simpa using hcz, ?_⟩⟩ (World.ownsRow.stored ⟨hl, .inr ⟨b, cap, cur2, rfl, hbb, hc2, hnc, hcm, hcz, htk2⟩⟩ n u).2 ?_
        · rw [Nat.mul_one, Array.toList_setIfInBounds, List.take_set, List.take_add_one]
          rw [Nat.mul_one] at htk2
          rw [htk2, List.getElem?_eq_getElem (by simp; omega)]
          rw [Option.toList_some, List.set_append_right _ _ (by omega), hxl, Nat.sub_self]
          rfl
        · intro j v hv
          have hjn : j < n := by have := (List.getElem?_eq_some_iff.1 hv).1; omega
          have := (Row.set rB n u).cell j (v := v) (by rw [List.getElem?_set_ne (by omega)]; exact hv)
          exact this
  · refine step_append_grows hgd s x t ho e i z 1 bytes ht hi hz hsize hby hzs (by decide) (some ⟨b, 0, none⟩) n cap xs hs (by intro h; cases h) (by omega) ?_ ad 1 1 [u] hx rfl hnews (by simpa using h1) (by omega) h63 hbytes ?_
    · intro b0 hb0 j v hv
      injection hb0 with hb0
      subst hb0
      rw [Addr.add_off, Nat.zero_add]
      exact rB.cell j hv
    · intro v' w' hown' hg
      obtain ⟨g, c, hv', hb', _⟩ := World.ownsRow.form hown' (by omega)
      subst hv'
      refine h g c w' ⟨hown'.1, ?_⟩ ⟨hg.os, hg.tape, hg.output, hg.size, fun k hk _ => hg.block k hk (by simp)⟩ ?_
      · rcases hown'.2 with h0 | ⟨g2, c2, cur2, hv2, hb2, r⟩
        · exact .inl h0
        · exact .inr ⟨g2, c2, cur2, hv2, by omega, r⟩
      · intro j v hv
        exact (World.cell?_of_block (hg.block b rB.lt (by simp))).trans (rB.cell j hv)
end Go.Proofs.YtlnmbfddhdjioaaDoor
