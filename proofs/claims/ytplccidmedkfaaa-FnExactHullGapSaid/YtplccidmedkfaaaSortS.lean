/-
  A walk for l04Sort of the model.
-/
import Derived.Test.YtplccidmedkfaaaChainS
import Derived.Test.YtplccidmedkfaaaStart
namespace Go.Proofs.Ytplccidmedkfaaa
open Go.RowKit

theorem ptsA_grown {w w' : World} {g : Nat} {r : Option Nat} {L : List P2} (h : PtsA w (some ⟨g, 0, none⟩) L) (hg : w.grownBy w' r) (hne : some g ≠ r) : PtsA w' (some ⟨g, 0, none⟩) L := fun k hk => by
  obtain ⟨g', e, h1, h2⟩ := h k hk
  cases e
  exact ⟨g, rfl, hg.cell h1 hne, hg.cell h2 hne⟩
theorem own_pos {w : World} {B n : Nat} {e : TypeId} {size : Nat} {v : Value} {xs : List Value} (h : w.ownsRow B e size v n xs) (h0 : 0 < n) : ∃ g cap, v = .slice (some ⟨g, 0, none⟩) n cap := by
  rcases h.2 with ⟨_, h1⟩ | ⟨g, cap, _, hv, _⟩
  · omega
  · exact ⟨g, cap, hv⟩
set_option maxRecDepth 100000 in
set_option maxHeartbeats 8000000 in
theorem sortS_any (A : Option Addr) (c : Nat) (P : List P2) (w : World) (hA : PtsA w A P) (h2 : P.length ≤ 1000) :
    Calls Try.prog 97 #[.slice A P.length c] w (Lists w (sortD P)) := by
  have HA := Lib.hid hA
  clear hA
  obtain ⟨i0, hi0, hz0, hz1, hz2⟩ := info_parts infoPt
  have HU : Hid (Lists w (sortD P) = fun e w' => ∃ v, e = .returned v ∧ w'.ownsRow w.heap.size 27 2 v (sortD P).length (flat (sortD P)) ∧ Below w.heap.size w w') := rfl
  have own0 := World.ownsRow_lit (base := w.heap.size) (e := 27) (size := 2) w #[] 0 (Nat.le_refl _) (by decide) rfl
  have b0 := below1 w (.cells #[] 27)
  go_enter Try.func97, Try.ntmps97
  go_wp2_with fail
  go_loopw [3, 5, 6, 7, 11] (fun s _ _ _ i wr => ∃ (k g5 cap : Nat) (M : List P2), k ≤ P.length ∧ i = .int .i64 k ∧ s = .slice (some ⟨g5, 0, none⟩) M.length cap ∧ Hid (M = sortD (P.take k)) ∧ wr.ownsRow w.heap.size 27 2 (.slice (some ⟨g5, 0, none⟩) M.length cap) M.length (flat M) ∧ Below w.heap.size w wr) (fun _ _ _ _ i _ => P.length - (intOf i).toNat)
  case atStart => exact ⟨0, w.heap.size, 0, [], Nat.zero_le _, rfl, rfl, rfl, own0, b0⟩
  case round =>
    obtain ⟨wo, rfl⟩ : ∃ wo : World, wo = wr := ⟨_, rfl⟩
    clear own0 b0
    obtain ⟨k, g5, cap, M, hk, rfl, rfl, HM, hown, hb⟩ := hrel
    by_cases hlt : k < P.length
    · obtain ⟨g, rfl, -⟩ := HA.out k hlt
      obtain ⟨c1, c2⟩ := gt_cells (ptsA_on HA.out hb) hlt
      have HST : Hid (sortD (P.take (k + 1)) = insD M (gt P k)) := by
        show _ = _
        rw [sortD_take hlt, ← HM.out]
      have hML : M.length ≤ 1000 := by
        rw [HM.out]
        have := sortD_len _ (P.take k) rfl
        rw [List.length_take] at this
        omega
      clear HM
      generalize gt P k = p at *
      obtain ⟨x, y⟩ := p
      simp only at c1 c2
      have n1 := at_new wo x y 27
      obtain ⟨w1, e1⟩ : ∃ w1, w1 = wo.alloc (.cells #[.int .i64 x, .int .i64 y] 27) := ⟨_, rfl⟩
      have HW1 := Lib.hid e1
      have b1 := hb.alloc hb.size (.cells #[.int .i64 x, .int .i64 y] 27)
      have own1 := hown.alloc (.cells #[.int .i64 x, .int .i64 y] 27)
      rw [← e1] at n1 b1 own1
      obtain ⟨xb, hxb⟩ : ∃ xb, xb = wo.heap.size := ⟨_, rfl⟩
      have hcap := own_cap hown
      clear e1 hown hb
      go_wp2_with fail
      rw [← HW1.out]
      rw [← hxb] at n1 ⊢
      clear hxb HW1 c1 c2
      have HO1 := Lib.hid own1
      clear own1
      go_loopw [6] (fun s wr => ∃ q : Nat, q ≤ M.length ∧ s = .int .i64 q ∧ Hid (slotC (x, y) M M.length = slotC (x, y) M q) ∧ Below w1.heap.size w1 wr) (fun s _ => (intOf s).toNat)
      case atStart => exact ⟨M.length, Nat.le_refl _, rfl, rfl, Below.refl _ _⟩
      case round =>
        obtain ⟨wi, rfl⟩ : ∃ wi : World, wi = wr := ⟨_, rfl⟩
        obtain ⟨q, hq, rfl, HQ, hb⟩ := hrel
        have m1 := n1.step hb
        have d1 := m1.c0; have d2 := m1.c1
        have own := own_below HO1.out hb
        by_cases hq0 : 0 < q
        · have hP := pts_own own rfl
          obtain ⟨r, hr⟩ : ∃ r, r = q - 1 := ⟨_, rfl⟩
          have hqr : q = r + 1 := by omega
          obtain ⟨p3, p4⟩ := hP r (by omega)
          have HSC : Hid (slotC (x, y) M q = bif befP (x, y) (gt M r) then slotC (x, y) M r else q) := by
            show _ = _
            rw [hqr]; rfl
          have HBF : Hid (befP (x, y) (gt M r) = beforeB x y (gt M r).1 (gt M r).2) := rfl
          have HEQ : Hid (slotC (x, y) M M.length = q → insD M (x, y) = bif (gt M r).1 == x && (gt M r).2 == y then M else M.take q ++ (x, y) :: M.drop q) := fun h => by
            unfold insD
            rw [h, decide_eq_true hq0, show q - 1 = r from hr.symm, Bool.true_and]
          have f1 : (q : Int) - 1 = (r : Int) := by omega
          have f2 : wrap64 ((q : Int) - 1) = (r : Int) := by rw [IntWalk.wrap64_in _ (by omega)]; omega
          have f3 : IntKind.i64.wrap ((q : Int) - 1) = (r : Int) := by rw [IntWalk.i64_in _ (by omega)]; omega
          have f4 : (r : Int) < (M.length : Int) := by omega
          have f5 : (0 : Int) < (q : Int) := by omega
          have f6 : decide ((0 : Int) < (q : Int)) = true := decide_eq_true f5
          have hrM : r < M.length := by omega
          generalize (gt M r).1 = ax at *
          generalize (gt M r).2 = ay at *
          have HBC := Lib.hid (fun w => spec_before x y ax ay w)
          have k1 := cell_regrown p3; have k2 := cell_regrown p4; have k5 := cell_regrown d1; have k6 := cell_regrown d2
          have hrq : r ≤ M.length := by omega
          clear hP hqr hr
          cases hbf : beforeB x y ax ay
          case true =>
            have HN : Hid (slotC (x, y) M M.length = slotC (x, y) M r) := by
              show _ = _
              rw [HQ.out, HSC.out, HBF.out, hbf]; rfl
            rw [hbf] at HBC
            go_wp2_with fail
            refine wp_region_quiet_below (by kernel_rfl) (by kernel_rfl) ?_
            repeat (first
              | go_big_quiet_step (first | exact Calls.regrown_of (HBC.out _))
              | quiet_step (first | exact Calls.regrown_of (HBC.out _)))
            refine wpQuiet_nil ?_
            rintro _ ⟨⟨dq, osq⟩, rfl⟩
            have hst := below_regrown wi dq osq
            have b15 := hb.trans (hst.mono hb.size)
            clear k1 k2 k5 k6 p3 p4 d1 d2 hst hb own m1
            simp only at *
            generalize Go.Sort.grow (redrawn wi dq) osq = w5 at *
            go_wp2_with fail
            go_roundw
            case rel => exact ⟨r, hrq, by first | rfl | go_num, HN, b15⟩
            case measure => simp [intOf]; omega
          case false =>
            have HSL : Hid (slotC (x, y) M M.length = q) := by
              show _ = _
              rw [HQ.out, HSC.out, HBF.out, hbf]; rfl
            rw [hbf] at HBC
            go_wp2_with fail
            refine wp_region_quiet_below (by kernel_rfl) (by kernel_rfl) ?_
            repeat (first
              | go_big_quiet_step (first | exact Calls.regrown_of (HBC.out _))
              | quiet_step (first | exact Calls.regrown_of (HBC.out _)))
            refine wpQuiet_nil ?_
            rintro _ ⟨⟨dq, osq⟩, rfl⟩
            have hst := below_regrown wi dq osq
            have b15 := hb.trans (hst.mono hb.size)
            have own5 := own_below own hst
            have m5 := m1.step hst
            have p5 := cell_on hst rfl p3
            have p6 := cell_on hst rfl p4
            clear k1 k2 k5 k6 p3 p4 d1 d2 hst hb own m1
            simp only at *
            generalize Go.Sort.grow (redrawn wi dq) osq = w5 at *
            have d1 := m5.c0; have d2 := m5.c1
            have GP := guard_pt
            have EP := fun w x y x' y' => eql_pt w x y x' y'
            have k1 := cell_regrown p5; have k2 := cell_regrown p6; have k5 := cell_regrown d1; have k6 := cell_regrown d2
            have b5' := b1.trans (b15.mono b1.size)
            clear b15 HBC
            cases he : (ax == x && ay == y)
            case true =>
              have HIM : Hid (M = sortD (P.take (k + 1))) := by
                show _ = _
                rw [HST.out, HEQ.out HSL.out, he]; rfl
              go_wp2_with fail
              refine wp_region_quiet_below (by kernel_rfl) (by kernel_rfl) ?_
              repeat (first
                | go_big_quiet_step (fail)
                | quiet_step (fail))
              refine wpQuiet_nil ?_
              rintro _ ⟨⟨dq, osq⟩, rfl⟩
              have hst := below_regrown w5 dq osq
              have R := Lib.hid (And.intro (own_below own5 hst) (b5'.trans (hst.mono b5'.size)))
              clear k1 k2 k5 k6 p5 p6 d1 d2 hst own5 m5 b5'
              simp only at *
              generalize Go.Sort.grow (redrawn w5 dq) osq = w6 at *
              go_wp2_with fail
              first
                | exact ⟨⟨k + 1, g5, cap, M, by omega, by go_num, rfl, HIM, R.out.1, R.out.2⟩, by simp [intOf]; omega⟩
                | (go_roundw
                   case rel => exact ⟨k + 1, g5, cap, M, by omega, by go_num, rfl, HIM, R.out.1, R.out.2⟩
                   case measure => simp [intOf]; omega)
            case false =>
              have HIN : Hid (insD M (x, y) = M.take q ++ (x, y) :: M.drop q) := by
                show _ = _
                rw [HEQ.out HSL.out, he]; rfl
              go_wp2_with fail
              refine wp_region_quiet_below (by kernel_rfl) (by kernel_rfl) ?_
              repeat (first
                | go_big_quiet_step (fail)
                | quiet_step (fail))
              refine wpQuiet_nil ?_
              rintro _ ⟨⟨dq, osq⟩, rfl⟩
              have hst := below_regrown w5 dq osq
              have own6 := own_below own5 hst
              have m6 := m5.step hst
              have b6 := b5'.trans (hst.mono b5'.size)
              clear k1 k2 k5 k6 p5 p6 d1 d2 hst own5 m5 b5' HEQ HSL HSC HBF HQ f1 f2 f3 f4 f5 f6
              simp only at *
              generalize Go.Sort.grow (redrawn w5 dq) osq = w6 at *
              obtain ⟨w5, rfl⟩ : ∃ w5, w5 = w6 := ⟨_, rfl⟩
              have own5 := own6; have m5 := m6; have b5 := b6
              clear own6 m6 b6
              have d1 := m5.c0; have d2 := m5.c1
              have hs5 := b5.size
              have hg5 := own5.lt g5 rfl
              have HXB := Lib.hid m5.lt
              have PM := Lib.hid (ptsA_of own5)
              have own6 := World.ownsRow_lit (base := w5.heap.size) (e := 27) (size := 2) w5 #[] 0 (Nat.le_refl _) (by decide) rfl
              have pm6 := Lib.hid (ptsA_on PM.out (below1 w5 (.cells #[] 27)))
              have t6 := m5.alloc (.cells #[] 27)
              have b6 := b5.alloc hs5 (.cells #[] 27)
              clear own5 m5 b5 d1 d2
              have hqn : (q : Int) ≤ (M.length : Int) := by omega
              have hnc : (M.length : Int) ≤ (cap : Int) := by omega
              have hqc2 : (q : Int) ≤ (cap : Int) := by omega
              by_cases hqc : q = cap
              · obtain rfl : q = cap := hqc
                have HT := Lib.hid (ptsA_take pm6.out q)
                clear HT
                go_wp2_with (at_builtin; refine wpList_append_own _ rfl _ _ 23 rfl w5.heap.size 27 i0 (.agg #[.int .i64 0, .int .i64 0]) 2 16 Try.underlying23 hi0 hz0 hz1 hz2 rfl (by decide) _ _ _ rfl own6 ⟨g5, 0, none⟩ q q (flat (M.take q)) rfl (by rw [flat_len, List.length_take]; omega) (ptsA_take pm6.out q) (flat_one _) ?d3 ?d4 (by simp) ?_)
                case d3 => unfold maxLen; omega
                case d4 => omega
                intro v7 w7 own7 hg7 _
                try simp only [Nat.zero_add, List.nil_append] at own7
                have pm7 := Lib.hid (ptsA_grown pm6.out hg7 (by simp [Value.ownBlock]; omega))
                have t7 := t6.grown hg7 (by simp [Value.ownBlock]; have := HXB.out; omega)
                have b7 := b6.grown hg7 b6.size (fun k e => by simp [Value.ownBlock] at e; omega)
                have hs7 : w5.heap.size ≤ w7.heap.size := by have := hg7.size; simp at this; omega
                clear own6 t6 hg7 b6
                have d1 := t7.c0; have d2 := t7.c1
                go_wp2_with (at_builtin; refine wpList_append_own _ rfl _ _ 23 rfl w5.heap.size 27 i0 (.agg #[.int .i64 0, .int .i64 0]) 2 16 Try.underlying23 hi0 hz0 hz1 hz2 rfl (by decide) _ _ _ rfl (own7.alloc _) ⟨w7.heap.size, 0, none⟩ 1 1 [.int .i64 x, .int .i64 y] rfl rfl ?d1 ?d2 ?d3 ?d4 ?d5 ?_)
                case d1 => exact World.news_of_block (cs := #[.int .i64 x, .int .i64 y]) (t := 27) (fr := (0, 0)) (heap_alloc_new w7 _)
                case d2 => simp [Value.oneCell']
                case d3 => unfold maxLen; omega
                case d4 => omega
                case d5 => simp; omega
                intro v8 w8 own8 hg8 _
                have hv7 := fun k hk => (own7.lt k hk).1
                have pm8 := Lib.hid (ptsA_grown (ptsA_on pm7.out (below1 w7 (.cells #[.int .i64 x, .int .i64 y] 27))) hg8 (fun e => by have := hv7 _ e.symm; omega))
                have b8 := (b7.alloc b7.size (.cells #[.int .i64 x, .int .i64 y] 27)).grown hg8 (by have := b7.size; simp; omega) (fun k e => by have := hv7 _ e; omega)
                have hs8 : w5.heap.size ≤ w8.heap.size := by have := hg8.size; simp at this; omega
                clear own7 t7 hg8 b7 d1 d2
                go_wp2_with (at_builtin; refine wpList_append_own _ rfl _ _ 23 rfl w5.heap.size 27 i0 (.agg #[.int .i64 0, .int .i64 0]) 2 16 Try.underlying23 hi0 hz0 hz1 hz2 rfl (by decide) _ _ _ rfl own8 _ _ _ [] rfl ?dl ?d1 ?d2 ?d3 ?d4 hs8 ?_)
                case dl => simp
                case d1 => intro j u hj; simp at hj
                case d2 => intro u hu; simp at hu
                case d3 => unfold maxLen; omega
                case d4 => omega
                intro v9 w9 own9 hg9 _
                obtain ⟨g9, cp9, rfl⟩ := own_pos own9 (by omega)
                have hv8 := fun k hk => (own8.lt k hk).1
                have HNN : Hid ((insD M (x, y)).length = q + 1) := by
                  show _ = _
                  rw [HIN.out]; simp; omega
                have R : Hid (w9.ownsRow w.heap.size 27 2 (.slice (some ⟨g9, 0, none⟩) (insD M (x, y)).length cp9) (insD M (x, y)).length (flat (insD M (x, y))) ∧ Below w.heap.size w w9) := by
                  refine ⟨own_base (B := w5.heap.size) ?_ hs5, b8.grown hg9 b8.size (fun k e => by have := hv8 _ e; omega)⟩
                  rw [HNN.out]
                  have hf : flat (insD M (x, y)) = flat (M.take q) ++ [.int .i64 x, .int .i64 y] ++ [] := by
                    rw [HIN.out]
                    rw [List.drop_of_length_le (by omega)]
                    simp only [flat_append, List.append_nil]
                    rfl
                  rw [hf]
                  simpa [List.append_assoc] using own9
                clear own8 own9 hg9 b8
                go_wp2_with fail
                first
                  | exact ⟨⟨k + 1, g9, cp9, insD M (x, y), by omega, by go_num, by rw [HNN.out], HST.out.symm, R.out.1, R.out.2⟩, by simp [intOf]; omega⟩
                  | (go_roundw
                     case rel => exact ⟨k + 1, g9, cp9, insD M (x, y), by omega, by go_num, by rw [HNN.out], HST.out.symm, R.out.1, R.out.2⟩
                     case measure => simp [intOf]; omega)
              · have hqc' : ¬ cap = q := fun e => hqc e.symm
                have HT := Lib.hid (ptsA_take pm6.out q)
                clear HT
                go_wp2_with (at_builtin; refine wpList_append_own _ rfl _ _ 23 rfl w5.heap.size 27 i0 (.agg #[.int .i64 0, .int .i64 0]) 2 16 Try.underlying23 hi0 hz0 hz1 hz2 rfl (by decide) _ _ _ rfl own6 ⟨g5, 0, none⟩ q cap (flat (M.take q)) rfl (by rw [flat_len, List.length_take]; omega) (ptsA_take pm6.out q) (flat_one _) ?d3 ?d4 (by simp) ?_)
                case d3 => unfold maxLen; omega
                case d4 => omega
                intro v7 w7 own7 hg7 _
                try simp only [Nat.zero_add, List.nil_append] at own7
                have pm7 := Lib.hid (ptsA_grown pm6.out hg7 (by simp [Value.ownBlock]; omega))
                have t7 := t6.grown hg7 (by simp [Value.ownBlock]; have := HXB.out; omega)
                have b7 := b6.grown hg7 b6.size (fun k e => by simp [Value.ownBlock] at e; omega)
                have hs7 : w5.heap.size ≤ w7.heap.size := by have := hg7.size; simp at this; omega
                clear own6 t6 hg7 b6
                have d1 := t7.c0; have d2 := t7.c1
                go_wp2_with (at_builtin; refine wpList_append_own _ rfl _ _ 23 rfl w5.heap.size 27 i0 (.agg #[.int .i64 0, .int .i64 0]) 2 16 Try.underlying23 hi0 hz0 hz1 hz2 rfl (by decide) _ _ _ rfl (own7.alloc _) ⟨w7.heap.size, 0, none⟩ 1 1 [.int .i64 x, .int .i64 y] rfl rfl ?d1 ?d2 ?d3 ?d4 ?d5 ?_)
                case d1 => exact World.news_of_block (cs := #[.int .i64 x, .int .i64 y]) (t := 27) (fr := (0, 0)) (heap_alloc_new w7 _)
                case d2 => simp [Value.oneCell']
                case d3 => unfold maxLen; omega
                case d4 => omega
                case d5 => simp; omega
                intro v8 w8 own8 hg8 _
                have hv7 := fun k hk => (own7.lt k hk).1
                have pm8 := Lib.hid (ptsA_grown (ptsA_on pm7.out (below1 w7 (.cells #[.int .i64 x, .int .i64 y] 27))) hg8 (fun e => by have := hv7 _ e.symm; omega))
                have b8 := (b7.alloc b7.size (.cells #[.int .i64 x, .int .i64 y] 27)).grown hg8 (by have := b7.size; simp; omega) (fun k e => by have := hv7 _ e; omega)
                have hs8 : w5.heap.size ≤ w8.heap.size := by have := hg8.size; simp at this; omega
                clear own7 t7 hg8 b7 d1 d2
                go_wp2_with (at_builtin; refine wpList_append_own _ rfl _ _ 23 rfl w5.heap.size 27 i0 (.agg #[.int .i64 0, .int .i64 0]) 2 16 Try.underlying23 hi0 hz0 hz1 hz2 rfl (by decide) _ _ _ rfl own8 ⟨g5, q * 2, none⟩ (M.length - q) (cap - q) (flat (M.drop q)) rfl ?dl ?d1 ?d2 ?d3 ?d4 hs8 ?_)
                case dl => rw [flat_len, List.length_drop]
                case d1 => exact ptsA_news pm8.out q
                case d2 => exact flat_one _
                case d3 => unfold maxLen; omega
                case d4 => omega
                intro v9 w9 own9 hg9 _
                obtain ⟨g9, cp9, rfl⟩ := own_pos own9 (by omega)
                have hv8 := fun k hk => (own8.lt k hk).1
                have HNN : Hid ((insD M (x, y)).length = q + 1 + (M.length - q)) := by
                  show _ = _
                  rw [HIN.out]; simp; omega
                have R : Hid (w9.ownsRow w.heap.size 27 2 (.slice (some ⟨g9, 0, none⟩) (insD M (x, y)).length cp9) (insD M (x, y)).length (flat (insD M (x, y))) ∧ Below w.heap.size w w9) := by
                  refine ⟨own_base (B := w5.heap.size) ?_ hs5, b8.grown hg9 b8.size (fun k e => by have := hv8 _ e; omega)⟩
                  rw [HNN.out]
                  have hf : flat (insD M (x, y)) = flat (M.take q) ++ [.int .i64 x, .int .i64 y] ++ flat (M.drop q) := by
                    rw [HIN.out]
                    simp only [flat_append, List.append_assoc]
                    rfl
                  rw [hf]
                  simpa [List.append_assoc] using own9
                clear own8 own9 hg9 b8
                go_wp2_with fail
                first
                  | exact ⟨⟨k + 1, g9, cp9, insD M (x, y), by omega, by go_num, by rw [HNN.out], HST.out.symm, R.out.1, R.out.2⟩, by simp [intOf]; omega⟩
                  | (go_roundw
                     case rel => exact ⟨k + 1, g9, cp9, insD M (x, y), by omega, by go_num, by rw [HNN.out], HST.out.symm, R.out.1, R.out.2⟩
                     case measure => simp [intOf]; omega)
        · have HSL : Hid (slotC (x, y) M M.length = q) := by
            show _ = _
            rw [HQ.out, show q = 0 by omega]; rfl
          have HIN : Hid (insD M (x, y) = M.take q ++ (x, y) :: M.drop q) := by
            show _ = _
            unfold insD
            rw [HSL.out, decide_eq_false hq0]; rfl
          have f5 : ¬ (0 : Int) < (q : Int) := by omega
          have f6 : decide ((0 : Int) < (q : Int)) = false := decide_eq_false f5
          have k5 := cell_regrown d1; have k6 := cell_regrown d2
          clear HSL HQ
          go_wp2_with fail
          refine wp_region_quiet_below (by kernel_rfl) (by kernel_rfl) ?_
          repeat (first
            | go_big_quiet_step (fail)
            | quiet_step (fail))
          refine wpQuiet_nil ?_
          rintro _ ⟨⟨dq, osq⟩, rfl⟩
          have hst := below_regrown wi dq osq
          have b15 := hb.trans (hst.mono hb.size)
          have own5 := own_below own hst
          have m5 := m1.step hst
          clear k5 k6 d1 d2 hst hb own m1
          simp only at *
          generalize Go.Sort.grow (redrawn wi dq) osq = w4 at *
          have d1 := m5.c0; have d2 := m5.c1
          have k5 := cell_regrown d1; have k6 := cell_regrown d2
          have b5' := b1.trans (b15.mono b1.size)
          clear b15
          go_wp2_with fail
          refine wp_region_quiet_below (by kernel_rfl) (by kernel_rfl) ?_
          repeat (first
            | go_big_quiet_step (fail)
            | quiet_step (fail))
          refine wpQuiet_nil ?_
          rintro _ ⟨⟨dq, osq⟩, rfl⟩
          have hst := below_regrown w4 dq osq
          have own6 := own_below own5 hst
          have m6 := m5.step hst
          have b6 := b5'.trans (hst.mono b5'.size)
          clear k5 k6 d1 d2 hst own5 m5 b5'
          simp only at *
          generalize Go.Sort.grow (redrawn w4 dq) osq = w6 at *
          obtain ⟨w5, rfl⟩ : ∃ w5, w5 = w6 := ⟨_, rfl⟩
          have own5 := own6; have m5 := m6; have b5 := b6
          clear own6 m6 b6 f5 f6
          have d1 := m5.c0; have d2 := m5.c1
          have hs5 := b5.size
          have hg5 := own5.lt g5 rfl
          have HXB := Lib.hid m5.lt
          have PM := Lib.hid (ptsA_of own5)
          have own6 := World.ownsRow_lit (base := w5.heap.size) (e := 27) (size := 2) w5 #[] 0 (Nat.le_refl _) (by decide) rfl
          have pm6 := Lib.hid (ptsA_on PM.out (below1 w5 (.cells #[] 27)))
          have t6 := m5.alloc (.cells #[] 27)
          have b6 := b5.alloc hs5 (.cells #[] 27)
          clear own5 m5 b5 d1 d2
          have hqn : (q : Int) ≤ (M.length : Int) := by omega
          have hnc : (M.length : Int) ≤ (cap : Int) := by omega
          have hqc2 : (q : Int) ≤ (cap : Int) := by omega
          by_cases hqc : q = cap
          · obtain rfl : q = cap := hqc
            have HT := Lib.hid (ptsA_take pm6.out q)
            clear HT
            go_wp2_with (at_builtin; refine wpList_append_own _ rfl _ _ 23 rfl w5.heap.size 27 i0 (.agg #[.int .i64 0, .int .i64 0]) 2 16 Try.underlying23 hi0 hz0 hz1 hz2 rfl (by decide) _ _ _ rfl own6 ⟨g5, 0, none⟩ q q (flat (M.take q)) rfl (by rw [flat_len, List.length_take]; omega) (ptsA_take pm6.out q) (flat_one _) ?d3 ?d4 (by simp) ?_)
            case d3 => unfold maxLen; omega
            case d4 => omega
            intro v7 w7 own7 hg7 _
            try simp only [Nat.zero_add, List.nil_append] at own7
            have pm7 := Lib.hid (ptsA_grown pm6.out hg7 (by simp [Value.ownBlock]; omega))
            have t7 := t6.grown hg7 (by simp [Value.ownBlock]; have := HXB.out; omega)
            have b7 := b6.grown hg7 b6.size (fun k e => by simp [Value.ownBlock] at e; omega)
            have hs7 : w5.heap.size ≤ w7.heap.size := by have := hg7.size; simp at this; omega
            clear own6 t6 hg7 b6
            have d1 := t7.c0; have d2 := t7.c1
            go_wp2_with (at_builtin; refine wpList_append_own _ rfl _ _ 23 rfl w5.heap.size 27 i0 (.agg #[.int .i64 0, .int .i64 0]) 2 16 Try.underlying23 hi0 hz0 hz1 hz2 rfl (by decide) _ _ _ rfl (own7.alloc _) ⟨w7.heap.size, 0, none⟩ 1 1 [.int .i64 x, .int .i64 y] rfl rfl ?d1 ?d2 ?d3 ?d4 ?d5 ?_)
            case d1 => exact World.news_of_block (cs := #[.int .i64 x, .int .i64 y]) (t := 27) (fr := (0, 0)) (heap_alloc_new w7 _)
            case d2 => simp [Value.oneCell']
            case d3 => unfold maxLen; omega
            case d4 => omega
            case d5 => simp; omega
            intro v8 w8 own8 hg8 _
            have hv7 := fun k hk => (own7.lt k hk).1
            have pm8 := Lib.hid (ptsA_grown (ptsA_on pm7.out (below1 w7 (.cells #[.int .i64 x, .int .i64 y] 27))) hg8 (fun e => by have := hv7 _ e.symm; omega))
            have b8 := (b7.alloc b7.size (.cells #[.int .i64 x, .int .i64 y] 27)).grown hg8 (by have := b7.size; simp; omega) (fun k e => by have := hv7 _ e; omega)
            have hs8 : w5.heap.size ≤ w8.heap.size := by have := hg8.size; simp at this; omega
            clear own7 t7 hg8 b7 d1 d2
            go_wp2_with (at_builtin; refine wpList_append_own _ rfl _ _ 23 rfl w5.heap.size 27 i0 (.agg #[.int .i64 0, .int .i64 0]) 2 16 Try.underlying23 hi0 hz0 hz1 hz2 rfl (by decide) _ _ _ rfl own8 _ _ _ [] rfl ?dl ?d1 ?d2 ?d3 ?d4 hs8 ?_)
            case dl => simp
            case d1 => intro j u hj; simp at hj
            case d2 => intro u hu; simp at hu
            case d3 => unfold maxLen; omega
            case d4 => omega
            intro v9 w9 own9 hg9 _
            obtain ⟨g9, cp9, rfl⟩ := own_pos own9 (by omega)
            have hv8 := fun k hk => (own8.lt k hk).1
            have HNN : Hid ((insD M (x, y)).length = q + 1) := by
              show _ = _
              rw [HIN.out]; simp; omega
            have R : Hid (w9.ownsRow w.heap.size 27 2 (.slice (some ⟨g9, 0, none⟩) (insD M (x, y)).length cp9) (insD M (x, y)).length (flat (insD M (x, y))) ∧ Below w.heap.size w w9) := by
              refine ⟨own_base (B := w5.heap.size) ?_ hs5, b8.grown hg9 b8.size (fun k e => by have := hv8 _ e; omega)⟩
              rw [HNN.out]
              have hf : flat (insD M (x, y)) = flat (M.take q) ++ [.int .i64 x, .int .i64 y] ++ [] := by
                rw [HIN.out]
                rw [List.drop_of_length_le (by omega)]
                simp only [flat_append, List.append_nil]
                rfl
              rw [hf]
              simpa [List.append_assoc] using own9
            clear own8 own9 hg9 b8
            go_wp2_with fail
            first
              | exact ⟨⟨k + 1, g9, cp9, insD M (x, y), by omega, by go_num, by rw [HNN.out], HST.out.symm, R.out.1, R.out.2⟩, by simp [intOf]; omega⟩
              | (go_roundw
                 case rel => exact ⟨k + 1, g9, cp9, insD M (x, y), by omega, by go_num, by rw [HNN.out], HST.out.symm, R.out.1, R.out.2⟩
                 case measure => simp [intOf]; omega)
          · have hqc' : ¬ cap = q := fun e => hqc e.symm
            have HT := Lib.hid (ptsA_take pm6.out q)
            clear HT
            go_wp2_with (at_builtin; refine wpList_append_own _ rfl _ _ 23 rfl w5.heap.size 27 i0 (.agg #[.int .i64 0, .int .i64 0]) 2 16 Try.underlying23 hi0 hz0 hz1 hz2 rfl (by decide) _ _ _ rfl own6 ⟨g5, 0, none⟩ q cap (flat (M.take q)) rfl (by rw [flat_len, List.length_take]; omega) (ptsA_take pm6.out q) (flat_one _) ?d3 ?d4 (by simp) ?_)
            case d3 => unfold maxLen; omega
            case d4 => omega
            intro v7 w7 own7 hg7 _
            try simp only [Nat.zero_add, List.nil_append] at own7
            have pm7 := Lib.hid (ptsA_grown pm6.out hg7 (by simp [Value.ownBlock]; omega))
            have t7 := t6.grown hg7 (by simp [Value.ownBlock]; have := HXB.out; omega)
            have b7 := b6.grown hg7 b6.size (fun k e => by simp [Value.ownBlock] at e; omega)
            have hs7 : w5.heap.size ≤ w7.heap.size := by have := hg7.size; simp at this; omega
            clear own6 t6 hg7 b6
            have d1 := t7.c0; have d2 := t7.c1
            go_wp2_with (at_builtin; refine wpList_append_own _ rfl _ _ 23 rfl w5.heap.size 27 i0 (.agg #[.int .i64 0, .int .i64 0]) 2 16 Try.underlying23 hi0 hz0 hz1 hz2 rfl (by decide) _ _ _ rfl (own7.alloc _) ⟨w7.heap.size, 0, none⟩ 1 1 [.int .i64 x, .int .i64 y] rfl rfl ?d1 ?d2 ?d3 ?d4 ?d5 ?_)
            case d1 => exact World.news_of_block (cs := #[.int .i64 x, .int .i64 y]) (t := 27) (fr := (0, 0)) (heap_alloc_new w7 _)
            case d2 => simp [Value.oneCell']
            case d3 => unfold maxLen; omega
            case d4 => omega
            case d5 => simp; omega
            intro v8 w8 own8 hg8 _
            have hv7 := fun k hk => (own7.lt k hk).1
            have pm8 := Lib.hid (ptsA_grown (ptsA_on pm7.out (below1 w7 (.cells #[.int .i64 x, .int .i64 y] 27))) hg8 (fun e => by have := hv7 _ e.symm; omega))
            have b8 := (b7.alloc b7.size (.cells #[.int .i64 x, .int .i64 y] 27)).grown hg8 (by have := b7.size; simp; omega) (fun k e => by have := hv7 _ e; omega)
            have hs8 : w5.heap.size ≤ w8.heap.size := by have := hg8.size; simp at this; omega
            clear own7 t7 hg8 b7 d1 d2
            go_wp2_with (at_builtin; refine wpList_append_own _ rfl _ _ 23 rfl w5.heap.size 27 i0 (.agg #[.int .i64 0, .int .i64 0]) 2 16 Try.underlying23 hi0 hz0 hz1 hz2 rfl (by decide) _ _ _ rfl own8 ⟨g5, q * 2, none⟩ (M.length - q) (cap - q) (flat (M.drop q)) rfl ?dl ?d1 ?d2 ?d3 ?d4 hs8 ?_)
            case dl => rw [flat_len, List.length_drop]
            case d1 => exact ptsA_news pm8.out q
            case d2 => exact flat_one _
            case d3 => unfold maxLen; omega
            case d4 => omega
            intro v9 w9 own9 hg9 _
            obtain ⟨g9, cp9, rfl⟩ := own_pos own9 (by omega)
            have hv8 := fun k hk => (own8.lt k hk).1
            have HNN : Hid ((insD M (x, y)).length = q + 1 + (M.length - q)) := by
              show _ = _
              rw [HIN.out]; simp; omega
            have R : Hid (w9.ownsRow w.heap.size 27 2 (.slice (some ⟨g9, 0, none⟩) (insD M (x, y)).length cp9) (insD M (x, y)).length (flat (insD M (x, y))) ∧ Below w.heap.size w w9) := by
              refine ⟨own_base (B := w5.heap.size) ?_ hs5, b8.grown hg9 b8.size (fun k e => by have := hv8 _ e; omega)⟩
              rw [HNN.out]
              have hf : flat (insD M (x, y)) = flat (M.take q) ++ [.int .i64 x, .int .i64 y] ++ flat (M.drop q) := by
                rw [HIN.out]
                simp only [flat_append, List.append_assoc]
                rfl
              rw [hf]
              simpa [List.append_assoc] using own9
            clear own8 own9 hg9 b8
            go_wp2_with fail
            first
              | exact ⟨⟨k + 1, g9, cp9, insD M (x, y), by omega, by go_num, by rw [HNN.out], HST.out.symm, R.out.1, R.out.2⟩, by simp [intOf]; omega⟩
              | (go_roundw
                 case rel => exact ⟨k + 1, g9, cp9, insD M (x, y), by omega, by go_num, by rw [HNN.out], HST.out.symm, R.out.1, R.out.2⟩
                 case measure => simp [intOf]; omega)
    · have HQ : Hid (M = sortD P) := by
        show _ = _
        rw [HM.out, List.take_of_length_le (by omega)]
      have R := Lib.hid hown
      clear hown HM
      go_wp2_with fail
      go_ret
      rw [HU.out]
      exact ⟨_, rfl, by rw [← HQ.out]; exact R.out, hb⟩
end Go.Proofs.Ytplccidmedkfaaa
