/-
  Plain primitives: the names that give cells again. Written by draft/genpl4.py.
-/
import Derived.Test.YtfnjjanknfmibaaGreatPlDo
import Derived.Test.YtfnjjanknfmibaaGreatPlEff
namespace Go.Proofs.YtfnjjanknfmibaaGreat
open Go.RowKit
set_option linter.unusedVariables false

theorem entered_of {k : Nat} {fn : Func} {c : Code} (hf : Tryz.prog.funcs[k]? = some fn) (hname : (fn.name == "runtime.NumGoroutine") = false) (hb : fn.body = some c) : Entered k := enters_of hf hname hb
theorem entered_those1 : Entered 114 := entered_of Tryz.func114 (by kernel_rfl) rfl
set_option maxRecDepth 100000 in
theorem those_any (w : World) (a : Option Addr) (n : Nat) : Calls Tryz.prog 44 #[.slice a n n] w fun e w' => e = .returned (.func (.func 114) #[] #[.pointer (some ⟨w.heap.size, 0, none⟩)]) ∧ w' = w.alloc (.cells #[.slice a n n] 127) := by
  go_enter Tryz.func44, Tryz.ntmps44
  go_wp2
  go_ret
  exact ⟨rfl, rfl⟩

theorem moved_does (gs gr gm k : Nat) (W : World) (ns : List Nat) (n : Nat) (hn : ns.length = n) (hn6 : n ≤ 6) (hk : ∀ (i x : Nat), ns[i]? = some x → x < k) (a : Option Addr) (W1 : World) (hK : Keeps [] W W1) (b : Nat) (hb : W1.heap.size = b)
    (hc : ∀ (i x : Nat), ns[i]? = some x → ∃ ad, a = some ad ∧ W1.cell? (ad.add i) = some (.int .i64 (x : Int))) :
    Keeps [] W (W1.alloc (.cells #[.slice a n n] 127)) ∧ Does gs gr gm k (pureE fun c => (those ns c, 0)) (W1.alloc (.cells #[.slice a n n] 127)) 114 #[] #[.pointer (some ⟨b, 0, none⟩)] := by
  subst hb
  refine ⟨hK.trans (Keeps.alloc [] _ _), Does.pure _ entered_those1 (fun c _ => by simp [those]; omega) ?_⟩
  intro w M c hkw hcl hcells
  refine those1_gives w _ M k k n a ns c (hkw.cell ((cell_of_row _ _ _ _ _ (0, 0) (heap_alloc_new _ _)).trans rfl) (by simp)) hn hn6 (fun i x hx => ⟨hk i x hx, ?_⟩) hcl (Nat.le_refl _) hcells
  obtain ⟨ad, e, h⟩ := hc i x hx
  exact ⟨ad, e, ((Keeps.alloc [] W1 _).trans hkw).cell h (by simp)⟩

theorem ints_new (W : World) (ns : List Nat) (cs : Array Value) (T : TypeId) (h : cs = (ns.map fun (x : Nat) => Value.int .i64 (x : Int)).toArray) (i x : Nat) (hx : ns[i]? = some x) : ∃ ad, some (⟨W.heap.size, 0, none⟩ : Addr) = some ad ∧ (W.alloc (.cells cs T)).cell? (ad.add i) = some (.int .i64 (x : Int)) := by
  refine ⟨_, rfl, ?_⟩
  rw [Addr.add_off, Nat.zero_add, cell_of_row _ _ _ cs T (0, 0) (heap_alloc_new _ _), h]
  simp [hx]
theorem below_all (ns : List Nat) (k : Nat) (h : ns.all (fun x => decide (x < k)) = true) (i x : Nat) (hx : ns[i]? = some x) : x < k :=
  of_decide_eq_true (List.all_eq_true.1 h x (List.mem_of_getElem? hx))

set_option maxRecDepth 100000 in
theorem yes_dup (gs gr gm : Nat) (s : ByteArray) (hs : (s.toList == [68, 85, 80]) = true) (hn : noneOf s []) : SaysYes 32 #[.string s] (Does gs gr gm 1 (pureE fun c => (those [0, 0] c, 0))) := by
  intro W
  clear hn
  have HM := Lib.hid (moved_does gs gr gm 1 W [0, 0] 2 rfl (by decide) (below_all _ _ (by decide)) (some ⟨W.heap.size, 0, none⟩) (W.alloc (.cells #[Value.int .i64 0, Value.int .i64 0] 3)) (Keeps.alloc [] W _) (W.heap.size + 1) (by simp) (ints_new W [0, 0] #[Value.int .i64 0, Value.int .i64 0] 3 rfl))
  go_enter Tryz.func32, Tryz.ntmps32
  go_wp2_with (refine (those_any _ _ _).mono ?_; rintro e w1 ⟨rfl, rfl⟩)
  go_ret
  exact ⟨_, _, _, rfl, HM.out⟩

set_option maxRecDepth 100000 in
theorem yes_drop (gs gr gm : Nat) (s : ByteArray) (hs : (s.toList == [68, 82, 79, 80]) = true) (hn : noneOf s [[68, 85, 80]]) : SaysYes 32 #[.string s] (Does gs gr gm 1 (pureE fun c => (those [] c, 0))) := by
  intro W
  have n0 := hn.at [68, 85, 80] (by simp)
  clear hn
  go_enter Tryz.func32, Tryz.ntmps32
  go_wp2_with (refine (those_any _ _ _).mono ?_; rintro e w1 ⟨rfl, rfl⟩)
  go_ret
  exact ⟨_, _, _, rfl, moved_does gs gr gm 1 W [] 0 rfl (by decide) (by simp) none W (Keeps.refl [] W) W.heap.size rfl (by simp)⟩

set_option maxRecDepth 100000 in
theorem yes_drop2 (gs gr gm : Nat) (s : ByteArray) (hs : (s.toList == [50, 68, 82, 79, 80]) = true) (hn : noneOf s [[68, 85, 80], [68, 82, 79, 80]]) : SaysYes 32 #[.string s] (Does gs gr gm 2 (pureE fun c => (those [] c, 0))) := by
  intro W
  have n0 := hn.at [68, 85, 80] (by simp)
  have n1 := hn.at [68, 82, 79, 80] (by simp)
  clear hn
  go_enter Tryz.func32, Tryz.ntmps32
  go_wp2_with (refine (those_any _ _ _).mono ?_; rintro e w1 ⟨rfl, rfl⟩)
  go_ret
  exact ⟨_, _, _, rfl, moved_does gs gr gm 2 W [] 0 rfl (by decide) (by simp) none W (Keeps.refl [] W) W.heap.size rfl (by simp)⟩

set_option maxRecDepth 100000 in
theorem yes_swap (gs gr gm : Nat) (s : ByteArray) (hs : (s.toList == [83, 87, 65, 80]) = true) (hn : noneOf s [[68, 85, 80], [68, 82, 79, 80], [50, 68, 82, 79, 80]]) : SaysYes 32 #[.string s] (Does gs gr gm 2 (pureE fun c => (those [1, 0] c, 0))) := by
  intro W
  have n0 := hn.at [68, 85, 80] (by simp)
  have n1 := hn.at [68, 82, 79, 80] (by simp)
  have n2 := hn.at [50, 68, 82, 79, 80] (by simp)
  clear hn
  have HM := Lib.hid (moved_does gs gr gm 2 W [1, 0] 2 rfl (by decide) (below_all _ _ (by decide)) (some ⟨W.heap.size, 0, none⟩) (W.alloc (.cells #[Value.int .i64 1, Value.int .i64 0] 3)) (Keeps.alloc [] W _) (W.heap.size + 1) (by simp) (ints_new W [1, 0] #[Value.int .i64 1, Value.int .i64 0] 3 rfl))
  go_enter Tryz.func32, Tryz.ntmps32
  go_wp2_with (refine (those_any _ _ _).mono ?_; rintro e w1 ⟨rfl, rfl⟩)
  go_ret
  exact ⟨_, _, _, rfl, HM.out⟩

set_option maxRecDepth 100000 in
theorem yes_over (gs gr gm : Nat) (s : ByteArray) (hs : (s.toList == [79, 86, 69, 82]) = true) (hn : noneOf s [[68, 85, 80], [68, 82, 79, 80], [50, 68, 82, 79, 80], [83, 87, 65, 80]]) : SaysYes 32 #[.string s] (Does gs gr gm 2 (pureE fun c => (those [0, 1, 0] c, 0))) := by
  intro W
  have n0 := hn.at [68, 85, 80] (by simp)
  have n1 := hn.at [68, 82, 79, 80] (by simp)
  have n2 := hn.at [50, 68, 82, 79, 80] (by simp)
  have n3 := hn.at [83, 87, 65, 80] (by simp)
  clear hn
  have HM := Lib.hid (moved_does gs gr gm 2 W [0, 1, 0] 3 rfl (by decide) (below_all _ _ (by decide)) (some ⟨W.heap.size, 0, none⟩) (W.alloc (.cells #[Value.int .i64 0, Value.int .i64 1, Value.int .i64 0] 3)) (Keeps.alloc [] W _) (W.heap.size + 1) (by simp) (ints_new W [0, 1, 0] #[Value.int .i64 0, Value.int .i64 1, Value.int .i64 0] 3 rfl))
  go_enter Tryz.func32, Tryz.ntmps32
  go_wp2_with (refine (those_any _ _ _).mono ?_; rintro e w1 ⟨rfl, rfl⟩)
  go_ret
  exact ⟨_, _, _, rfl, HM.out⟩

set_option maxRecDepth 100000 in
theorem yes_rot (gs gr gm : Nat) (s : ByteArray) (hs : (s.toList == [82, 79, 84]) = true) (hn : noneOf s [[68, 85, 80], [68, 82, 79, 80], [50, 68, 82, 79, 80], [83, 87, 65, 80], [79, 86, 69, 82]]) : SaysYes 32 #[.string s] (Does gs gr gm 3 (pureE fun c => (those [1, 2, 0] c, 0))) := by
  intro W
  have n0 := hn.at [68, 85, 80] (by simp)
  have n1 := hn.at [68, 82, 79, 80] (by simp)
  have n2 := hn.at [50, 68, 82, 79, 80] (by simp)
  have n3 := hn.at [83, 87, 65, 80] (by simp)
  have n4 := hn.at [79, 86, 69, 82] (by simp)
  clear hn
  have HM := Lib.hid (moved_does gs gr gm 3 W [1, 2, 0] 3 rfl (by decide) (below_all _ _ (by decide)) (some ⟨W.heap.size, 0, none⟩) (W.alloc (.cells #[Value.int .i64 1, Value.int .i64 2, Value.int .i64 0] 3)) (Keeps.alloc [] W _) (W.heap.size + 1) (by simp) (ints_new W [1, 2, 0] #[Value.int .i64 1, Value.int .i64 2, Value.int .i64 0] 3 rfl))
  go_enter Tryz.func32, Tryz.ntmps32
  go_wp2_with (refine (those_any _ _ _).mono ?_; rintro e w1 ⟨rfl, rfl⟩)
  go_ret
  exact ⟨_, _, _, rfl, HM.out⟩

set_option maxRecDepth 100000 in
theorem yes_nip (gs gr gm : Nat) (s : ByteArray) (hs : (s.toList == [78, 73, 80]) = true) (hn : noneOf s [[68, 85, 80], [68, 82, 79, 80], [50, 68, 82, 79, 80], [83, 87, 65, 80], [79, 86, 69, 82], [82, 79, 84]]) : SaysYes 32 #[.string s] (Does gs gr gm 2 (pureE fun c => (those [1] c, 0))) := by
  intro W
  have n0 := hn.at [68, 85, 80] (by simp)
  have n1 := hn.at [68, 82, 79, 80] (by simp)
  have n2 := hn.at [50, 68, 82, 79, 80] (by simp)
  have n3 := hn.at [83, 87, 65, 80] (by simp)
  have n4 := hn.at [79, 86, 69, 82] (by simp)
  have n5 := hn.at [82, 79, 84] (by simp)
  clear hn
  have HM := Lib.hid (moved_does gs gr gm 2 W [1] 1 rfl (by decide) (below_all _ _ (by decide)) (some ⟨W.heap.size, 0, none⟩) (W.alloc (.cells #[Value.int .i64 1] 3)) (Keeps.alloc [] W _) (W.heap.size + 1) (by simp) (ints_new W [1] #[Value.int .i64 1] 3 rfl))
  go_enter Tryz.func32, Tryz.ntmps32
  go_wp2_with (refine (those_any _ _ _).mono ?_; rintro e w1 ⟨rfl, rfl⟩)
  go_ret
  exact ⟨_, _, _, rfl, HM.out⟩

set_option maxRecDepth 100000 in
theorem yes_tuck (gs gr gm : Nat) (s : ByteArray) (hs : (s.toList == [84, 85, 67, 75]) = true) (hn : noneOf s [[68, 85, 80], [68, 82, 79, 80], [50, 68, 82, 79, 80], [83, 87, 65, 80], [79, 86, 69, 82], [82, 79, 84], [78, 73, 80]]) : SaysYes 32 #[.string s] (Does gs gr gm 2 (pureE fun c => (those [1, 0, 1] c, 0))) := by
  intro W
  have n0 := hn.at [68, 85, 80] (by simp)
  have n1 := hn.at [68, 82, 79, 80] (by simp)
  have n2 := hn.at [50, 68, 82, 79, 80] (by simp)
  have n3 := hn.at [83, 87, 65, 80] (by simp)
  have n4 := hn.at [79, 86, 69, 82] (by simp)
  have n5 := hn.at [82, 79, 84] (by simp)
  have n6 := hn.at [78, 73, 80] (by simp)
  clear hn
  have HM := Lib.hid (moved_does gs gr gm 2 W [1, 0, 1] 3 rfl (by decide) (below_all _ _ (by decide)) (some ⟨W.heap.size, 0, none⟩) (W.alloc (.cells #[Value.int .i64 1, Value.int .i64 0, Value.int .i64 1] 3)) (Keeps.alloc [] W _) (W.heap.size + 1) (by simp) (ints_new W [1, 0, 1] #[Value.int .i64 1, Value.int .i64 0, Value.int .i64 1] 3 rfl))
  go_enter Tryz.func32, Tryz.ntmps32
  go_wp2_with (refine (those_any _ _ _).mono ?_; rintro e w1 ⟨rfl, rfl⟩)
  go_ret
  exact ⟨_, _, _, rfl, HM.out⟩

set_option maxRecDepth 100000 in
theorem yes_dup2 (gs gr gm : Nat) (s : ByteArray) (hs : (s.toList == [50, 68, 85, 80]) = true) (hn : noneOf s [[68, 85, 80], [68, 82, 79, 80], [50, 68, 82, 79, 80], [83, 87, 65, 80], [79, 86, 69, 82], [82, 79, 84], [78, 73, 80], [84, 85, 67, 75]]) : SaysYes 32 #[.string s] (Does gs gr gm 2 (pureE fun c => (those [0, 1, 0, 1] c, 0))) := by
  intro W
  have n0 := hn.at [68, 85, 80] (by simp)
  have n1 := hn.at [68, 82, 79, 80] (by simp)
  have n2 := hn.at [50, 68, 82, 79, 80] (by simp)
  have n3 := hn.at [83, 87, 65, 80] (by simp)
  have n4 := hn.at [79, 86, 69, 82] (by simp)
  have n5 := hn.at [82, 79, 84] (by simp)
  have n6 := hn.at [78, 73, 80] (by simp)
  have n7 := hn.at [84, 85, 67, 75] (by simp)
  clear hn
  have HM := Lib.hid (moved_does gs gr gm 2 W [0, 1, 0, 1] 4 rfl (by decide) (below_all _ _ (by decide)) (some ⟨W.heap.size, 0, none⟩) (W.alloc (.cells #[Value.int .i64 0, Value.int .i64 1, Value.int .i64 0, Value.int .i64 1] 3)) (Keeps.alloc [] W _) (W.heap.size + 1) (by simp) (ints_new W [0, 1, 0, 1] #[Value.int .i64 0, Value.int .i64 1, Value.int .i64 0, Value.int .i64 1] 3 rfl))
  go_enter Tryz.func32, Tryz.ntmps32
  go_wp2_with (refine (those_any _ _ _).mono ?_; rintro e w1 ⟨rfl, rfl⟩)
  go_ret
  exact ⟨_, _, _, rfl, HM.out⟩

set_option maxRecDepth 100000 in
theorem yes_swap2 (gs gr gm : Nat) (s : ByteArray) (hs : (s.toList == [50, 83, 87, 65, 80]) = true) (hn : noneOf s [[68, 85, 80], [68, 82, 79, 80], [50, 68, 82, 79, 80], [83, 87, 65, 80], [79, 86, 69, 82], [82, 79, 84], [78, 73, 80], [84, 85, 67, 75], [50, 68, 85, 80]]) : SaysYes 32 #[.string s] (Does gs gr gm 4 (pureE fun c => (those [2, 3, 0, 1] c, 0))) := by
  intro W
  have n0 := hn.at [68, 85, 80] (by simp)
  have n1 := hn.at [68, 82, 79, 80] (by simp)
  have n2 := hn.at [50, 68, 82, 79, 80] (by simp)
  have n3 := hn.at [83, 87, 65, 80] (by simp)
  have n4 := hn.at [79, 86, 69, 82] (by simp)
  have n5 := hn.at [82, 79, 84] (by simp)
  have n6 := hn.at [78, 73, 80] (by simp)
  have n7 := hn.at [84, 85, 67, 75] (by simp)
  have n8 := hn.at [50, 68, 85, 80] (by simp)
  clear hn
  have HM := Lib.hid (moved_does gs gr gm 4 W [2, 3, 0, 1] 4 rfl (by decide) (below_all _ _ (by decide)) (some ⟨W.heap.size, 0, none⟩) (W.alloc (.cells #[Value.int .i64 2, Value.int .i64 3, Value.int .i64 0, Value.int .i64 1] 3)) (Keeps.alloc [] W _) (W.heap.size + 1) (by simp) (ints_new W [2, 3, 0, 1] #[Value.int .i64 2, Value.int .i64 3, Value.int .i64 0, Value.int .i64 1] 3 rfl))
  go_enter Tryz.func32, Tryz.ntmps32
  go_wp2_with (refine (those_any _ _ _).mono ?_; rintro e w1 ⟨rfl, rfl⟩)
  go_ret
  exact ⟨_, _, _, rfl, HM.out⟩

set_option maxRecDepth 100000 in
theorem yes_over2 (gs gr gm : Nat) (s : ByteArray) (hs : (s.toList == [50, 79, 86, 69, 82]) = true) (hn : noneOf s [[68, 85, 80], [68, 82, 79, 80], [50, 68, 82, 79, 80], [83, 87, 65, 80], [79, 86, 69, 82], [82, 79, 84], [78, 73, 80], [84, 85, 67, 75], [50, 68, 85, 80], [50, 83, 87, 65, 80]]) : SaysYes 32 #[.string s] (Does gs gr gm 4 (pureE fun c => (those [0, 1, 2, 3, 0, 1] c, 0))) := by
  intro W
  have n0 := hn.at [68, 85, 80] (by simp)
  have n1 := hn.at [68, 82, 79, 80] (by simp)
  have n2 := hn.at [50, 68, 82, 79, 80] (by simp)
  have n3 := hn.at [83, 87, 65, 80] (by simp)
  have n4 := hn.at [79, 86, 69, 82] (by simp)
  have n5 := hn.at [82, 79, 84] (by simp)
  have n6 := hn.at [78, 73, 80] (by simp)
  have n7 := hn.at [84, 85, 67, 75] (by simp)
  have n8 := hn.at [50, 68, 85, 80] (by simp)
  have n9 := hn.at [50, 83, 87, 65, 80] (by simp)
  clear hn
  have HM := Lib.hid (moved_does gs gr gm 4 W [0, 1, 2, 3, 0, 1] 6 rfl (by decide) (below_all _ _ (by decide)) (some ⟨W.heap.size, 0, none⟩) (W.alloc (.cells #[Value.int .i64 0, Value.int .i64 1, Value.int .i64 2, Value.int .i64 3, Value.int .i64 0, Value.int .i64 1] 3)) (Keeps.alloc [] W _) (W.heap.size + 1) (by simp) (ints_new W [0, 1, 2, 3, 0, 1] #[Value.int .i64 0, Value.int .i64 1, Value.int .i64 2, Value.int .i64 3, Value.int .i64 0, Value.int .i64 1] 3 rfl))
  go_enter Tryz.func32, Tryz.ntmps32
  go_wp2_with (refine (those_any _ _ _).mono ?_; rintro e w1 ⟨rfl, rfl⟩)
  go_ret
  exact ⟨_, _, _, rfl, HM.out⟩

end Go.Proofs.YtfnjjanknfmibaaGreat
