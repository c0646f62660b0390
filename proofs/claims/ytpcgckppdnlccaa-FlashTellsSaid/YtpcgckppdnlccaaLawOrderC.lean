/-
  FlashOrder answers true, whatever it is given.
-/
import Derived.Test.YtpcgckppdnlccaaLawOrderB
namespace Go.Proofs.Ytpcgckppdnlccaa
open Go.RowKit Go.Deep

theorem infoPut : (Try.prog.info? 49).map (fun i => (i.zero, i.size, i.bytes)) = some (some (.agg #[.int .u16 0, .slice none 0 0]), 2, 32) := by kernel_rfl

theorem PutsAt.first {w : World} {base : Nat} {ao : Option Addr} {n cap m L : Nat} {ps : List PutD} (h : PutsAt w base (.slice ao n cap) ps) (hn : ps.length = n) (hm : m = min n L) : PutsAt w base (.slice ao m cap) (ps.take L) := by
  rcases h with ⟨hv, rfl⟩ | ⟨ad, cap', hv, hcap, hmx, hp⟩
  · simp at hv
    obtain ⟨rfl, rfl, rfl⟩ := hv
    exact .inl ⟨by rw [hm]; simp, by simp⟩
  · simp at hv
    obtain ⟨rfl, rfl, rfl⟩ := hv
    refine .inr ⟨ad, cap, by rw [List.length_take, hm, Nat.min_comm], by rw [List.length_take]; omega, hmx, fun i p hi => ?_⟩
    rw [List.getElem?_take] at hi
    split at hi
    · exact hp i p hi
    · cases hi

theorem owns_cells {w : World} {base : Nat} {T : TypeId} {n cap : Nat} {av : Option Addr} {ps : List PutD} (h : w.ownsRow base T 2 (.slice av n cap) n (putCells ps)) (k : Nat) (p : PutD) (hp : ps[k]? = some p) :
    ∃ g, av = some ⟨g, 0, none⟩ ∧ base ≤ g ∧ w.cell? ⟨g, k * 2, none⟩ = some (.int .u16 p.word) ∧ w.cell? ⟨g, k * 2 + 1, none⟩ = some p.v := by
  obtain ⟨c0, c1⟩ := putCells_at ps k p hp
  have hl := h.1
  rw [putCells_length] at hl
  have hk := (List.getElem?_eq_some_iff.1 hp).1
  rcases h.2 with ⟨hv, rfl⟩ | ⟨g, cap', cur, hv, hb, _⟩
  · omega
  · simp at hv
    have hg := h.cells (g := g) (by rw [hv.1]; rfl)
    have d0 := hg (k * 2) _ c0
    have d1 := hg (k * 2 + 1) _ c1
    rw [Addr.add_off, Nat.zero_add] at d0 d1
    exact ⟨g, hv.1, hb, d0, d1⟩

theorem ownsRow_keeps {S : List Nat} {w w' : World} {base : Nat} {T : TypeId} {size n : Nat} {v : Value} {xs : List Value} (h : w.ownsRow base T size v n xs) (hk : Keeps S w w') (hS : ∀ x, v.ownBlock = some x → x ∉ S) : w'.ownsRow base T size v n xs := by
  refine ⟨h.1, ?_⟩
  rcases h.2 with q | ⟨g, cap, cur, rfl, hb, hg, r⟩
  · exact .inl q
  · exact .inr ⟨g, cap, cur, rfl, hb, hk.obj hg (hS g rfl), r⟩

set_option maxRecDepth 100000 in
set_option maxHeartbeats 8000000 in
theorem FlashOrder_any (w : World) (v : Value) (ps : List PutD) (h : PutsAt w w.heap.size v ps) :
    Calls Try.prog 5 #[v] w fun e w' => e = .returned (.bool true) ∧ Keeps [] w w' := by
  obtain ⟨ao, n, cap, m, rfl, hn, hln, hm, hmin, _⟩ := h.open 20 20 rfl
  have hPL := h.first hln hm
  have hll : (ps.take 20).length = m := by rw [List.length_take]; omega
  have hm20 : m ≤ 20 := by omega
  have htt : (ps.take 20).take 20 = ps.take 20 := List.take_of_length_le (by omega)
  obtain ⟨ao', n', cap', m', hv', _, hln', _, _, hp⟩ := hPL.open 20 20 rfl
  simp at hv'
  obtain ⟨rfl, rfl, rfl⟩ := hv'
  generalize ps.take 20 = ls at *
  obtain ⟨iP, hiP, hz0, hz1, hz2⟩ := info_parts infoPut
  have PL := Lib.hid hPL
  have Hll := Lib.hid hll
  have Htt := Lib.hid htt
  have Hp := Lib.hid hp
  clear h hPL hll htt hp hln hm hln'
  rcases hmin with ⟨hc, he, hsl2⟩ | ⟨hc, he, hsl2⟩
  all_goals
    have hsw := congrArg (fun t => Value.slice ao t cap) he.symm
    have HSW := Lib.hid hsw
    clear he hsw
    go_enter Try.func5, Try.ntmps5
    go_wp2_with fail
    rw [HSW.out]
    clear hsl2 hc HSW
    refine (after_any _ w.heap.size _ ls PL.out).mono ?_
    rintro e w1 ⟨F, B, W, M, rfl, gF, gB, gW, hF, hK⟩
    rw [Htt.out] at hF
    have HF1 := Lib.hid hF
    have HK1 := Lib.hid hK
    have lF := hF.lt
    have s1 := hK.size
    clear hF hK
    go_wp2
    go_loopw [4, 27] (fun v i wr => ∃ (t : Nat) (av : Option Addr) (cv : Nat), t ≤ 2 * m ∧ i = .int .i64 t ∧ v = .slice av t cv ∧ wr.ownsRow w1.heap.size 49 2 (.slice av t cv) t (putCells (backs ls t)) ∧ Keeps [] w1 wr) (fun _ i _ => 2 * m - (intOf i).toNat)
    case atStart => exact ⟨0, none, 0, Nat.zero_le _, rfl, rfl, World.ownsRow_nil _ _ _ _, Keeps.refl _ _⟩
    case round =>
      obtain ⟨t, av, cv, ht, rfl, rfl, hown, hKr⟩ := hrel
      have HO := Lib.hid hown
      have HKr := Lib.hid hKr
      clear hown hKr
      by_cases hlt : t < 2 * m
      · have hlt' : (t : Int) < 2 * m := by omega
        have hm0 : 0 < m := by omega
        have hmi : (1 : Int) ≤ m := by omega
        have hmz : ((m : Int) == 0) = false := by rw [beq_eq_false_iff_ne]; omega
        have hmod := Nat.mod_lt t hm0
        obtain ⟨ix, hix⟩ : ∃ ix, m - 1 - t % m = ix := ⟨_, rfl⟩
        have hixm : ix < m := by omega
        have hixi : (m : Int) - 1 - (t : Int) % (m : Int) = (ix : Int) := by omega
        have hgt : ls[ix]? = some (backAt ls t) := by
          unfold backAt
          rw [Hll.out, hix, List.getD_eq_getElem?_getD, List.getElem?_eq_getElem (by rw [Hll.out]; exact hixm)]
          rfl
        have HBS := Lib.hid (backs_succ ls t)
        obtain ⟨b, off, hao, hbb, ok, q0, q1⟩ := Hp.out ix _ hgt
        generalize backAt ls t = p at *
        have kw := HK1.out.trans HKr.out
        have r0 := kw.cell q0 (by simp)
        have r1 := kw.cell q1 (by simp)
        obtain ⟨ap, cp, hv⟩ := readsShape ok.reads
        rw [hv] at r1
        have HV := Lib.hid hv
        have sr := HKr.out.size
        clear ok q0 q1 hv kw hgt hix hmod
        subst hao
        go_wp2_with (at_builtin; refine wpList_append_own _ rfl _ _ 46 rfl w1.heap.size 49 iP (.agg #[.int .u16 0, .slice none 0 0]) 2 32 Try.underlying46 hiP hz0 hz1 hz2 rfl (by decide) (.slice av t cv) t (putCells (backs ls t)) rfl (HO.out.alloc _) ⟨wr.heap.size, 0, none⟩ 1 1 [.int .u16 p.word, .slice ap p.b.length cp] rfl rfl ?c1 ?c2 ?c3 ?c4 ?c5 ?_)
        case c1 =>
          intro j u hu
          rw [Addr.add_off, Nat.zero_add, cell_alloc_new]
          match j, hu with
          | 0, hu => simpa using hu
          | 1, hu => simpa using hu
        case c2 => intro u hu; simp at hu; rcases hu with rfl | rfl <;> rfl
        case c3 => unfold maxLen; omega
        case c4 => omega
        case c5 => simp; omega
        intro v' w2 hown1 hg1 _
        have HK2 := Lib.hid ((HKr.out.trans (Keeps.alloc [] wr _)).owned (HO.out.alloc _) hg1)
        rw [← HV.out, ← putCells_snoc, ← HBS.out] at hown1
        obtain ⟨av', cv', rfl⟩ := owns_shape hown1
        have HO1 := Lib.hid hown1
        clear hown1 hg1
        go_wp2
        go_roundw
        case rel => exact ⟨t + 1, av', cv', by omega, by go_num, rfl, HO1.out, HK2.out⟩
        case measure => simp [intOf]; omega
      · have hge : ¬ ((t : Int) < 2 * m) := by omega
        have htm : t = 2 * m := by omega
        have HT := Lib.hid htm
        have ht40 : t ≤ 40 := by omega
        have HF2 := Lib.hid (HF1.out.keeps HKr.out (by simp) (by simp) (by simp) (by simp))
        have HK2 := Lib.hid (HK1.out.trans HKr.out)
        have sr := HKr.out.size
        clear htm
        go_wp2_with fail
        refine (New_ok _ 8 (by omega) (by omega)).mono ?_
        rintro e w3 ⟨G, BG, WG, MG, rfl, gG, gBG, gWG, hG, hK⟩
        have HG3 := Lib.hid hG
        have HF3 := Lib.hid (HF2.out.keeps hK (by simp) (by simp) (by simp) (by simp))
        have HO3 := Lib.hid (ownsRow_keeps HO.out hK (by simp))
        have HK3 := Lib.hid (HK2.out.trans hK)
        have s3 := hK.size
        have lG := hG.lt
        have lF2 := HF2.out.lt
        have hOB := HO.out.lt
        have HOB := Lib.hid hOB
        clear hG hK hOB
        go_wp2
        obtain ⟨wo1, rfl⟩ : ∃ wo : World, wo = wr := ⟨_, rfl⟩
        go_loopw [57] (fun i wr => ∃ k : Nat, k ≤ t ∧ i = .int .i64 k ∧ FlashAt wr G BG WG MG (puts ((backs ls t).take k) (FS.new 8)) ∧ Keeps [G, BG] w3 wr) (fun i _ => t - (intOf i).toNat)
        case atStart => exact ⟨0, Nat.zero_le _, rfl, HG3.out, Keeps.refl _ _⟩
        case round =>
          obtain ⟨k, hk, rfl, hGq, hKq⟩ := hrel
          have HGq := Lib.hid hGq
          have HKq := Lib.hid hKq
          have sq := hKq.size
          clear hGq hKq
          by_cases hkt : k < t
          · have hkt' : (k : Int) < t := by omega
            have hgk := backs_get ls t k hkt
            have hbl2 : k < (backs ls t).length := by rw [backs_length]; exact hkt
            have Htk := Lib.hid (show (backs ls t).take (k + 1) = (backs ls t).take k ++ [backAt ls k] by
              rw [List.take_succ_eq_append_getElem hbl2]
              congr 2
              have := List.getElem?_eq_getElem hbl2
              rw [hgk] at this
              exact (Option.some.inj this).symm)
            obtain ⟨g, hav, hgb, c0, c1⟩ := owns_cells HO3.out k _ hgk
            have hgO := (HOB.out g (by rw [hav]; rfl)).2
            have hmem := backAt_mem ls k (by rw [Hll.out]; omega)
            have ok : (backAt ls k).ok w w.heap.size := by
              obtain ⟨ixm, hixm, hixe⟩ := List.getElem_of_mem hmem
              obtain ⟨_, _, _, _, ok, _, _⟩ := Hp.out ixm (backAt ls k) (by rw [← hixe]; exact List.getElem?_eq_getElem hixm)
              exact ok
            generalize backAt ls k = p at *
            have r0 := HKq.out.cell c0 (by simp; omega)
            have r1 := HKq.out.cell c1 (by simp; omega)
            have kwq : Keeps [] w wr := HK3.out.then HKq.out (fun x hx => by simp at hx; right; omega)
            have ok1 := ok.keeps kwq (by simp)
            obtain ⟨ap, cp, hv⟩ := readsShape ok1.reads
            rw [hv] at r1
            have HV := Lib.hid hv
            have HOK := Lib.hid ok1
            have hpl := p.place_le
            have hbl := p.len_le
            have lGq := HGq.out.lt
            clear hgk hbl2 c0 c1 hmem ok ok1 hv kwq
            subst hav
            go_wp2_with fail
            rw [← HV.out]
            refine (at_some p _ w.heap.size (HOK.out.keeps (Keeps.alloc [] wr _) (by simp))).mono ?_
            rintro e w5 ⟨bb, cc, rfl, hb2, hR2, hK2⟩
            have hk2 : Keeps [] wr w5 := (Keeps.alloc [] wr _).trans hK2
            have hG2 := HGq.out.keeps hk2 (by simp) (by simp) (by simp) (by simp)
            have hPp := (plain_new.puts ((backs ls t).take k)).program p.place p.bytes hpl.2 (by rw [p.bytes_length]; omega) (by rw [p.bytes_length]; exact hpl.1)
            simp only [World.size_alloc] at hb2
            have hcall := Program_yes w5 hG2 p.place _ p.bytes bb hR2.reads ⟨by omega, by omega⟩ (by rw [p.bytes_length]; omega)
            rw [hPp, p.bytes_length] at hcall
            have HC := Lib.hid hcall
            have HK5 := Lib.hid hk2
            clear hcall hk2 hG2 hPp hR2 hK2
            go_wp2_with fail
            refine HC.out.mono ?_
            rintro e w6 ⟨rfl, hG6, hK6⟩
            have HG6 := Lib.hid hG6
            have HK6 := Lib.hid ((HKq.out.trans (HK5.out.mono (by simp))).trans hK6)
            clear hG6 hK6
            go_wp2
            go_roundw
            case rel => exact ⟨k + 1, by omega, by go_num, by rw [Htk.out]; unfold puts; rw [List.foldl_append]; exact HG6.out, HK6.out⟩
            case measure => simp [intOf]; omega
          · have hkt' : ¬ ((k : Int) < t) := by omega
            have hGS := Lib.hid (show (puts ((backs ls t).take k) (FS.new 8)).bs = (puts ls (FS.new 8)).bs by
              have ht2 := HT.out
              rw [List.take_of_length_le (by rw [backs_length]; omega), ht2, ← Hll.out, backs_all])
            have hPG := Lib.hid (plain_new.puts ((backs ls t).take k))
            have hPF := Lib.hid (plain_new.puts ls)
            generalize puts ((backs ls t).take k) (FS.new 8) = sg at *
            have HFq := Lib.hid (HF3.out.keepsNil hPF.out.mask HKq.out (by simp; omega) (by simp; omega) (by simp; omega))
            have kq : Keeps [] w wr := HK3.out.then HKq.out (fun x hx => by simp at hx; right; omega)
            have HKw := Lib.hid kq
            have sw := kq.size
            clear kq
            have hAll := All_any wr 255 2048 (by omega) (by omega)
            have HALL := Lib.hid (show Calls Try.prog 28 #[.int .u8 255, .int .i64 2048] wr _ from hAll)
            clear hAll
            go_wp2_with fail
            refine HALL.out.mono ?_
            rintro e w7 ⟨bw, kw, rfl, gbw, hR, hK⟩
            have HW7 := Lib.hid (show Row w7 bw 5 ((puts (ls.take 0) (FS.new 8)).bs.map bv) kw from hR)
            have HF7 := Lib.hid (HFq.out.keeps hK (by simp) (by simp) (by simp) (by simp))
            have HG7 := Lib.hid (HGq.out.keeps hK (by simp) (by simp) (by simp) (by simp))
            have HK7 := Lib.hid (HKw.out.trans hK)
            have s7 := hK.size
            have lbw := hR.lt
            clear hR hK HALL
            go_wp2
            obtain ⟨wo2, rfl⟩ : ∃ wo : World, wo = wr := ⟨_, rfl⟩
            go_loopw [72] (fun i wr => ∃ j : Nat, j ≤ m ∧ i = .int .i64 j ∧ Row wr bw 5 ((puts (ls.take j) (FS.new 8)).bs.map bv) kw ∧ Keeps [bw] w7 wr) (fun i _ => m - (intOf i).toNat)
            case atStart => exact ⟨0, Nat.zero_le _, rfl, HW7.out, Keeps.refl _ _⟩
            case round =>
              obtain ⟨j, hj, rfl, hWx, hKx⟩ := hrel
              have HWx := Lib.hid hWx
              have HKx := Lib.hid hKx
              have sx := hKx.size
              clear hWx hKx
              by_cases hjm : j < m
              · have hjm' : (j : Int) < m := by omega
                have hjl : j < ls.length := by rw [Hll.out]; exact hjm
                have Htk := Lib.hid (show ls.take (j + 1) = ls.take j ++ [ls[j]] from List.take_succ_eq_append_getElem hjl)
                obtain ⟨b, off, hao, hbb, ok, q0, q1⟩ := Hp.out j _ (List.getElem?_eq_getElem hjl)
                generalize ls[j] = p at *
                have kwx : Keeps [] w wr := HK7.out.then HKx.out (fun x hx => by simp at hx; right; omega)
                have r0 := kwx.cell q0 (by simp)
                have r1 := kwx.cell q1 (by simp)
                have ok1 := ok.keeps kwx (by simp)
                obtain ⟨ap, cp, hv⟩ := readsShape ok.reads
                rw [hv] at r1
                have HV := Lib.hid hv
                have HOK := Lib.hid ok1
                have hpl := p.place_le
                have hbl := p.len_le
                have lbx := HWx.out.lt
                clear hjl ok ok1 q0 q1 hv kwx
                subst hao
                go_wp2_with fail
                rw [← HV.out]
                refine (at_some p _ w.heap.size (HOK.out.keeps (Keeps.alloc [] wr _) (by simp))).mono ?_
                rintro e w8 ⟨bb, cc, rfl, hb2, hR2, hK2⟩
                simp only [World.size_alloc] at hb2
                have hk2 : Keeps [] wr w8 := (Keeps.alloc [] wr _).trans hK2
                have HB8 := Lib.hid hR2
                have HW8 := Lib.hid (HWx.out.keeps hk2 (by simp))
                have HK8 := Lib.hid (HKx.out.trans (hk2.mono (by simp)))
                have Hwl := Lib.hid (show (puts (ls.take j) (FS.new 8)).bs.length = 2048 from (plain_new.puts (ls.take j)).len)
                have Hbl := Lib.hid p.bytes_length
                have Hpb := Lib.hid (show (puts (ls.take (j + 1)) (FS.new 8)).bs = span (puts (ls.take j) (FS.new 8)).bs p.place p.bytes.length (gClear p.bytes 255) by
                  rw [Htk.out]; unfold puts; rw [List.foldl_append]; rfl)
                generalize (puts (ls.take j) (FS.new 8)).bs = wb at *
                clear hk2 hR2 hK2 HOK HV r0 r1
                go_wp2
                obtain ⟨wo3, rfl⟩ : ∃ wo : World, wo = wr := ⟨_, rfl⟩
                go_loopw [83] (fun i wr => ∃ k : Nat, k ≤ p.len ∧ i = .int .i64 k ∧ Row wr bw 5 ((span wb p.place k (gClear p.bytes 255)).map bv) kw ∧ Keeps [bw] w8 wr) (fun i _ => p.len - (intOf i).toNat)
                case atStart => exact ⟨0, Nat.zero_le _, rfl, by rw [span_zero]; exact HW8.out, Keeps.refl _ _⟩
                case round =>
                  obtain ⟨k, hk, rfl, hWy, hKy⟩ := hrel
                  have HKy := Lib.hid hKy
                  by_cases hkn : k < p.len
                  · have hkn' : (k : Int) < p.len := by omega
                    obtain ⟨old, hold⟩ : ∃ old, wb[p.place + k]? = some old := ⟨_, List.getElem?_eq_getElem (by have := Hwl.out; omega)⟩
                    have hck : p.bytes[k]? = some (p.bytes.getD k 0) := by
                      have := Hbl.out
                      rw [List.getElem?_eq_getElem (by omega)]
                      simp [List.getD, List.getElem?_eq_getElem (show k < p.bytes.length by omega)]
                    have q0 : wr.cell? ⟨bw, p.place + k, none⟩ = some (bv old) := hWy.cell (p.place + k) (by rw [List.getElem?_map, span_at, hold]; rfl)
                    have pc : wr.cell? ⟨bb, k, none⟩ = some (bv (p.bytes.getD k 0)) := hKy.cell (HB8.out.cell k (by rw [List.getElem?_map, hck]; rfl)) (by simp; omega)
                    have HX := Lib.hid (span_more wb p.place k (gClear p.bytes 255) _ hold)
                    have hg : gClear p.bytes 255 k old = old &&& p.bytes.getD k 0 := clears_255 _ _
                    rw [hg] at HX
                    have HS := Lib.hid (hWy.set (p.place + k) (bv (old &&& p.bytes.getD k 0)))
                    have fz := hWy.frozen (p.place + k)
                    have hau := and_u8 old (p.bytes.getD k 0)
                    generalize p.bytes.getD k 0 = xx at *
                    clear hold hck hg hWy hKy
                    unfold bv at q0 pc
                    go_wp2
                    have hnv : Value.int .u8 ((old.toNat &&& xx.toNat : Nat) : Int) = bv (old &&& xx) := by unfold bv; rw [UInt8.toNat_and]
                    refine ⟨⟨k + 1, by omega, by go_num, ?_, ?_⟩, by simp [intOf]; omega⟩
                    · rw [hnv, ← HX.out]; exact HS.out
                    · exact HKy.out.trans (Keeps.setCell _ (by simp) _)
                  · have hge : ¬ ((k : Int) < p.len) := by omega
                    obtain rfl : k = p.len := by omega
                    rw [← Hbl.out, ← Hpb.out] at hWy
                    have HWz := Lib.hid hWy
                    have HKz := Lib.hid (HK8.out.trans hKy)
                    clear hWy hKy
                    go_wp2
                    go_roundw
                    case rel => exact ⟨j + 1, by omega, by go_num, HWz.out, HKz.out⟩
                    case measure => simp [intOf]; omega
              · have hge : ¬ ((j : Int) < m) := by omega
                obtain rfl : j = m := by omega
                have hWx := HWx.out
                rw [List.take_of_length_le (by rw [Hll.out]; omega)] at hWx
                have HWf := Lib.hid hWx
                have HF8 := Lib.hid (HF7.out.keepsNil hPF.out.mask HKx.out (by simp; omega) (by simp; omega) (by simp; omega))
                have HG8 := Lib.hid (HG7.out.keepsNil hPG.out.mask HKx.out (by simp; omega) (by simp; omega) (by simp; omega))
                have HK8 := Lib.hid (show Keeps [] w wr from HK7.out.then HKx.out (fun x hx => by simp at hx; right; omega))
                clear hWx HWx HKx HK7
                go_wp2_with fail
                refine (all_yes _ HF8.out hPF.out.down hPF.out.len).mono ?_
                rintro e w9 ⟨b1, k1, rfl, gb1, hR, hK⟩
                have HN9 := Lib.hid hR
                have HW9 := Lib.hid (HWf.out.keeps hK (by simp))
                have HG9 := Lib.hid (HG8.out.keeps hK (by simp) (by simp) (by simp) (by simp))
                have HK9 := Lib.hid (HK8.out.trans hK)
                clear hR hK
                go_wp2_with fail
                refine (Is_same _ _ _ _ _ _ (HN9.out.readsLen hPF.out.len) (HW9.out.readsLen hPF.out.len)).mono ?_
                rintro e w9' ⟨rfl, rfl⟩
                go_wp2_with fail
                refine (all_yes _ HG9.out hPG.out.down hPG.out.len).mono ?_
                rintro e w10 ⟨b2, k2, rfl, gb2, hR, hK⟩
                rw [hGS.out] at hR
                have HN10 := Lib.hid hR
                have HW10 := Lib.hid (HW9.out.keeps hK (by simp))
                have HK10 := Lib.hid (HK9.out.trans hK)
                clear hR hK
                go_wp2_with fail
                refine (Is_same _ _ _ _ _ _ (HN10.out.readsLen hPF.out.len) (HW10.out.readsLen hPF.out.len)).mono ?_
                rintro e w10' ⟨rfl, rfl⟩
                go_wp2_with fail
                refine (awake_any _).mono ?_
                rintro e w11 ⟨rfl, hK11⟩
                go_wp2
                go_ret
                exact ⟨rfl, HK10.out.trans hK11⟩
end Go.Proofs.Ytpcgckppdnlccaa
