/-
  Walks for spec.l01Once, spec.l03Draw and spec.MakePolygon: what is drawn is a polygon.
-/
import Derived.Test.YtieekeodbflgfaaAhead
import Derived.Test.YtieekeodbflgfaaDrawPoly
import Derived.Test.YtieekeodbflgfaaStart
import Derived.Test.YtieekeodbflgfaaLawMk
import Derived.Deep.DeepCutAuto
namespace Go.Proofs.Ytieekeodbflgfaa
open Go.RowKit

theorem CurAt.on {w w' : World} {A : Option Addr} {n c g : Nat} (h : CurAt w A n c g) (hb : Below w.heap.size w w') : CurAt w' A n c g := by
  have hl := h.lt
  obtain ⟨i, x, hh, hi⟩ := h
  exact ⟨i, x, (hb.block g hl).trans hh, hi⟩
/-- The reader in block g, in a world that grew from w. -/
def Cu (w : World) (A : Option Addr) (n c g : Nat) (W : World) : Prop := CurAt W A n c g ∧ w.grownBy W (some g)
theorem Cu.on {w W W' : World} {A : Option Addr} {n c g : Nat} (h : Cu w A n c g W) (hb : Below W.heap.size W W') : Cu w A n c g W' :=
  ⟨h.1.on hb, h.2.trans ⟨hb.os, hb.tape, hb.output, hb.size, fun k hk _ => hb.block k hk⟩⟩
theorem Cu.alloc {w W : World} {A : Option Addr} {n c g : Nat} (h : Cu w A n c g W) (o : Obj) : Cu w A n c g (W.alloc o) := h.on ((Below.refl _ W).alloc (Nat.le_refl _) o)
/-- The reader's points, owned. -/
def St (w : World) (A : Option Addr) (n c g : Nat) (v : Value) (M : List (Int × Int)) (W : World) : Prop := W.ownsRow w.heap.size 27 2 v M.length (flat M) ∧ Cu w A n c g W
theorem St.on {w W W' : World} {A : Option Addr} {n c g : Nat} {v : Value} {M : List (Int × Int)} (h : St w A n c g v M W) (hb : Below W.heap.size W W') : St w A n c g v M W' :=
  ⟨own_below h.1 hb, h.2.on hb⟩
theorem below_c (A : Option Addr) (n c g B : Nat) (m : Int) (w W : World) (hC : CodeAt w B A n) (hB : B ≤ g) (hg : g < w.heap.size) (hn : n ≤ 1048576) (hm1 : 1 ≤ m) (hm2 : m ≤ 256) (h : Cu w A n c g W) :
    Calls Try.prog 67 #[.pointer (some ⟨g, 0, none⟩), .int .i64 m] W fun e w' => (∃ x : Nat, (x : Int) < m ∧ e = .returned (.int .i64 x)) ∧ W.grownBy w' (some g) ∧ Cu w A n c g w' := by
  refine (below_any A n c g B m W (hC.below (og_below h.2 hB hg)) h.1 hB hn hm1 hm2).mono ?_
  rintro e w' ⟨⟨x, h1, h2, rfl⟩, h3, h4⟩
  refine ⟨⟨x.toNat, by omega, by rw [Int.toNat_of_nonneg h1]⟩, h4, h3, h.2.trans h4⟩
theorem St.grow {w W W' : World} {A : Option Addr} {n c g : Nat} {v : Value} {M : List (Int × Int)} (hg : g < w.heap.size) (h : St w A n c g v M W) (h1 : W.grownBy W' (some g)) (h2 : Cu w A n c g W') : St w A n c g v M W' :=
  ⟨h.1.kept h1 (by
    cases hv : v.ownBlock with
    | none => exact .inl rfl
    | some k => exact .inr fun e => by have := (h.1.lt k hv).1; simp only [Option.some.injEq] at e; omega), h2⟩
set_option maxRecDepth 100000 in
set_option maxHeartbeats 400000 in
theorem once_c (A : Option Addr) (n c g B : Nat) (m : Int) (w W : World) (hC : CodeAt w B A n) (hB : B ≤ g) (hg : g < w.heap.size) (hn : n ≤ 1048576) (hm1 : 1 ≤ m) (hm2 : m ≤ 256) (h : Cu w A n c g W) :
    Calls Try.prog 98 #[.pointer (some ⟨g, 0, none⟩), .int .i64 m] W fun e w' => (∃ b : Bool, e = .returned (.bool b)) ∧ W.grownBy w' (some g) ∧ Cu w A n c g w' := by
  have HB := Lib.hid (below_c A n c g B m w W hC hB hg hn hm1 hm2 h)
  clear hC h
  go_enter Try.func98, Try.ntmps98
  go_wp2_with fail
  refine HB.out.mono ?_
  rintro e w1 ⟨⟨x, hx, rfl⟩, R⟩
  have HR := Lib.hid R
  clear R
  go_wp2_with fail
  go_ret
  exact ⟨⟨_, rfl⟩, HR.out⟩

set_option maxRecDepth 100000 in
set_option maxHeartbeats 8000000 in
theorem drawP_any (A : Option Addr) (n c g B : Nat) (w : World) (hC : CodeAt w B A n) (hg : CurAt w A n c g) (hB : B ≤ g) (hn : n ≤ 1048576) (HT : ∀ M, polyB M = true → polyB (turnL M) = true) :
    Calls Try.prog 55 #[.pointer (some ⟨g, 0, none⟩)] w fun e w' => ∃ v M, e = .returned v ∧ polyB M = true ∧ St w A n c g v M w' := by
  obtain ⟨i0, hi0, hz0, hz1, hz2⟩ := info_parts infoPt
  have hgl := hg.lt
  have HBc := Lib.hid (fun m W h1 h2 h => below_c A n c g B m w W hC hB hgl hn h1 h2 h)
  have HOc := Lib.hid (fun m W h1 h2 h => once_c A n c g B m w W hC hB hgl hn h1 h2 h)
  have HTU := Lib.hid HT
  have HC0 : Hid (Cu w A n c g w) := ⟨hg, World.grownBy.refl w _⟩
  clear hC hg HT
  go_enter Try.func55, Try.ntmps55
  go_wp2_with fail
  refine (HBc.out 2 _ (by omega) (by omega) HC0.out).mono ?_
  rintro e w1 ⟨⟨xa, ha, rfl⟩, -, C1⟩
  have HC1 := Lib.hid C1
  clear C1 HC0
  go_wp2_with fail
  refine (HBc.out 4 _ (by omega) (by omega) HC1.out).mono ?_
  rintro e w2 ⟨⟨xb, hb, rfl⟩, -, C1⟩
  have HC2 := Lib.hid C1
  clear C1 HC1
  go_wp2_with fail
  refine (HBc.out 3 _ (by omega) (by omega) HC2.out).mono ?_
  rintro e w3 ⟨⟨xc, hc, rfl⟩, -, C1⟩
  have HC3 := Lib.hid C1
  clear C1 HC2
  go_wp2_with fail
  refine (HBc.out 5 _ (by omega) (by omega) HC3.out).mono ?_
  rintro e w4 ⟨⟨xd, hd, rfl⟩, -, C1⟩
  have HC4 := Lib.hid C1
  clear C1 HC3
  go_wp2_with fail
  refine (HBc.out 4 _ (by omega) (by omega) HC4.out).mono ?_
  rintro e w5 ⟨⟨xe, he, rfl⟩, -, C1⟩
  have HC5 := Lib.hid C1
  clear C1 HC4
  go_wp2_with fail
  have S5 : Hid (St w A n c g (.slice (some ⟨w5.heap.size, 0, none⟩) 3 3) (triL xa xb xc xd xe) (w5.alloc (.cells #[.int .i64 (1 + (xa : Int)), .int .i64 1, .int .i64 (5 + (xb : Int)), .int .i64 (1 + (xc : Int)), .int .i64 (3 + (xd : Int)), .int .i64 (5 + (xe : Int))] 27))) := by
    refine ⟨?_, HC5.out.alloc _⟩
    have h := World.ownsRow_lit (base := w.heap.size) (e := 27) (size := 2) w5 #[.int .i64 (1 + (xa : Int)), .int .i64 1, .int .i64 (5 + (xb : Int)), .int .i64 (1 + (xc : Int)), .int .i64 (3 + (xd : Int)), .int .i64 (5 + (xe : Int))] 3 HC5.out.2.size (by decide) rfl
    simpa [flat, triL] using h
  have PT : Hid (polyB (triL xa xb xc xd xe) = true) := tri_poly (by omega) (by omega) (by omega) (by omega) (by omega)
  generalize (w5.alloc (.cells #[.int .i64 (1 + (xa : Int)), .int .i64 1, .int .i64 (5 + (xb : Int)), .int .i64 (1 + (xc : Int)), .int .i64 (3 + (xd : Int)), .int .i64 (5 + (xe : Int))] 27)) = w6 at *
  refine (HOc.out 3 _ (by omega) (by omega) S5.out.2).mono ?_
  rintro e w7 ⟨⟨b1, rfl⟩, C6, C7⟩
  have S7 := Lib.hid (S5.out.grow hgl C6 C7)
  clear C6 C7 S5 HC5
  go_upto_if 30 with (fail)
  go_cut [3] (fun s wx => ∃ M, Hid (polyB M = true) ∧ Hid (St w A n c g s M wx))
  case first =>
    cases b1
    · go_wp2_with fail
      go_meet
      exact ⟨_, PT, S7⟩
    · go_wp2_with fail
      refine (HBc.out 6 _ (by omega) (by omega) S7.out.2).mono ?_
      rintro e w8 ⟨⟨xw, hw, rfl⟩, -, C1⟩
      have HC8 := Lib.hid C1
      clear C1 S7
      go_wp2_with fail
      refine (HBc.out 6 _ (by omega) (by omega) HC8.out).mono ?_
      rintro e w9 ⟨⟨xh, hh, rfl⟩, -, C1⟩
      have HC9 := Lib.hid C1
      clear C1 HC8
      go_wp2_with fail
      go_meet
      refine ⟨rectL (2 + xw) (2 + xh), rect_poly (by omega) (by omega) (by omega) (by omega), ?_, HC9.out.alloc _⟩
      have h := World.ownsRow_lit (base := w.heap.size) (e := 27) (size := 2) w9 #[.int .i64 1, .int .i64 1, .int .i64 (1 + (2 + (xw : Int))), .int .i64 1, .int .i64 (1 + (2 + (xw : Int))), .int .i64 (1 + (2 + (xh : Int))), .int .i64 1, .int .i64 (1 + (2 + (xh : Int)))] 4 HC9.out.2.size (by decide) rfl
      simpa [flat, rectL] using h
  case rest =>
    obtain ⟨M0, PM0, S0⟩ := hcut
    go_wp2_with fail
    refine (HBc.out 5 _ (by omega) (by omega) S0.out.2).mono ?_
    rintro e w10 ⟨⟨x5, h5, rfl⟩, C6, C7⟩
    have S1 := Lib.hid (S0.out.grow hgl C6 C7)
    clear C6 C7 S0
    go_wp2_with fail
    go_loopw [3, 6, 7, 8, 9] (fun s k _ _ _ wr => ∃ (j : Nat) (M : List (Int × Int)), k = .int .i64 j ∧ j < 1000 ∧ Hid (polyB M = true) ∧ Hid (St w A n c g s M wr)) (fun _ k _ _ _ _ => (intOf k).toNat)
    case atStart => exact ⟨x5, M0, rfl, by omega, PM0, S1⟩
    case round =>
      obtain ⟨wo, rfl⟩ : ∃ wo : World, wo = wr := ⟨_, rfl⟩
      clear S1 PM0
      obtain ⟨j, M, rfl, hj, PM, SM⟩ := hrel
      by_cases hlt : 0 < j
      · obtain ⟨hM3, hM10, -⟩ := polyB_all PM.out
        obtain ⟨g3, cp, rfl, hg3, hg3l⟩ := SM.out.1.form (by omega)
        have hcap := own_cap SM.out.1
        go_wp2_with fail
        refine (HBc.out M.length _ (by omega) (by omega) SM.out.2).mono ?_
        rintro e w11 ⟨⟨k, hk, rfl⟩, C6, C7⟩
        have SM1 := Lib.hid (SM.out.grow hgl C6 C7)
        clear C6 C7 SM
        go_wp2_with fail
        refine (HBc.out 10 _ (by omega) (by omega) SM1.out.2).mono ?_
        rintro e w12 ⟨⟨x, hx, rfl⟩, C6, C7⟩
        have SM2 := Lib.hid (SM1.out.grow hgl C6 C7)
        clear C6 C7 SM1
        go_wp2_with fail
        refine (HBc.out 10 _ (by omega) (by omega) SM2.out.2).mono ?_
        rintro e w13 ⟨⟨y, hy, rfl⟩, C6, C7⟩
        have SM3 := Lib.hid (SM2.out.grow hgl C6 C7)
        clear C6 C7 SM2
        obtain ⟨k1, hk0, hk1, HF⟩ : ∃ k1 : Nat, 0 < k1 ∧ k1 ≤ M.length ∧ Hid ((k : Int) + 1 = (k1 : Int)) :=
          ⟨k + 1, by omega, by omega, show _ = _ by omega⟩
        have HFL := Lib.hid (show (flat (M.take k1)).length = k1 * 2 from by rw [flat_len, List.length_take]; omega)
        have HD3 := Lib.hid (show 0 + k1 ≤ maxLen from by unfold maxLen; omega)
        have HD4 := Lib.hid (show (0 + k1) * 16 ≤ 140737488355328 from by omega)
        have hk2 : (k1 : Int) ≤ (cp : Int) := by omega
        have hk3 : (k1 : Int) ≤ (M.length : Int) := by omega
        have hk4 : (M.length : Int) ≤ (cp : Int) := by omega
        have SM4 := Lib.hid (SM3.out.on ((Below.refl _ w13).alloc (Nat.le_refl _) (.cells #[.int .i64 (x : Int), .int .i64 (y : Int)] 27)))
        have HX : Hid ((w13.alloc (.cells #[.int .i64 (x : Int), .int .i64 (y : Int)] 27)).cell? ⟨w13.heap.size, 0, none⟩ = some (.int .i64 (x : Int)) ∧ (w13.alloc (.cells #[.int .i64 (x : Int), .int .i64 (y : Int)] 27)).cell? ⟨w13.heap.size, 1, none⟩ = some (.int .i64 (y : Int))) :=
          ⟨cell_of_row _ _ 0 _ _ _ (heap_alloc_new w13 _), cell_of_row _ _ 1 _ _ _ (heap_alloc_new w13 _)⟩
        clear SM3
        go_upto_region 11 with (fail)
        generalize (w13.alloc (.cells #[.int .i64 (x : Int), .int .i64 (y : Int)] 27)) = W1 at *
        generalize w13.heap.size = gx at *
        have own0 := World.ownsRow_lit (base := W1.heap.size) (e := 27) (size := 2) W1 #[] 0 (Nat.le_refl _) (by unfold maxLen; omega) (by rfl)
        have hb0 := below1 W1 (.cells #[] 27)
        have HN := Lib.hid (ptsA_take (ptsA_on (ptsA_of SM4.out.1) hb0) k1)
        have hf2 := HF.out
        go_wp2_with (at_builtin; refine wpList_append_own _ rfl _ _ 23 rfl W1.heap.size 27 i0 (.agg #[.int .i64 0, .int .i64 0]) 2 16 Try.underlying23 hi0 hz0 hz1 hz2 rfl (by decide) _ _ _ rfl own0 ⟨g3, 0, none⟩ k1 cp (flat (M.take k1)) rfl HFL.out HN.out (flat_one _) HD3.out HD4.out (by simp) ?_)
        clear hf2
        intro v6 w6 own6 hgrow _
        have B6 : Hid (Below W1.heap.size W1 w6) := hb0.grown hgrow (by simp) (fun q hq => (own0.lt q hq).1)
        have own6' : w6.ownsRow W1.heap.size 27 2 v6 k1 (flat (M.take k1)) := by simpa using own6
        obtain ⟨g6, c6, rfl, hg6, hg6l⟩ := own6'.form (by omega)
        have cx := cell_on B6.out rfl HX.out.1
        have cy := cell_on B6.out rfl HX.out.2
        have hsz := B6.out.size
        clear own0 own6 hgrow hb0 HN
        go_wp2_with (at_builtin; refine wpList_append_lies _ rfl _ _ 23 rfl W1.heap.size 27 i0 (.agg #[.int .i64 0, .int .i64 0]) 2 16 Try.underlying23 hi0 hz0 hz1 hz2 rfl (by decide) _ _ _ rfl (own6'.alloc _) ⟨w6.heap.size, 0, none⟩ 1 1 [.int .i64 (x : Int), .int .i64 (y : Int)] rfl rfl ?d1 ?d2 (by omega) ?d3 ?d4 ?d5 (w6.heap.size + 1) (by simp) ?_)
        case d1 => exact World.news_of_block (cs := #[.int .i64 (x : Int), .int .i64 (y : Int)]) (t := 27) (fr := (0, 0)) (heap_alloc_new w6 _)
        case d2 => simp [Value.oneCell']
        case d3 => unfold maxLen; omega
        case d4 => omega
        case d5 => simp; omega
        intro g7 c7 w7 own7 hgrow _ _
        have B7 : Hid (Below W1.heap.size W1 w7) := (B6.out.alloc hsz _).grown hgrow (by simp; omega) (fun q hq => (own6'.lt q hq).1)
        clear own6' hgrow cx cy B6 hsz
        obtain ⟨Q1, HQ1⟩ : ∃ Q1, Hid (Q1 = M.take k1 ++ [((x : Int), (y : Int))]) := ⟨_, rfl⟩
        have HQL : Hid (Q1.length = k1 + 1) := by
          show _ = _
          rw [HQ1.out, List.length_append, List.length_take, Nat.min_eq_left hk1]; rfl
        have own7' : Hid (w7.ownsRow W1.heap.size 27 2 (.slice (some ⟨g7, 0, none⟩) (k1 + 1) c7) (k1 + 1) (flat Q1)) := by
          show World.ownsRow _ _ _ _ _ _ _
          rw [HQ1.out, flat_append]; exact own7
        have HD5 := Lib.hid (show k1 + 1 + (M.length - k1) ≤ maxLen from by unfold maxLen; omega)
        have HD6 := Lib.hid (show (k1 + 1 + (M.length - k1)) * 16 ≤ 140737488355328 from by omega)
        have HFM := Lib.hid (show (flat (M.drop k1)).length = (M.length - k1) * 2 from by rw [flat_len, List.length_drop])
        have PAM := Lib.hid (ptsA_on (ptsA_of SM4.out.1) B7.out)
        have hsz := B7.out.size
        clear own7
        have own8 := own7'.out
        obtain ⟨Q, HQ⟩ : ∃ Q, Hid (flat Q1 ++ flat (M.drop k1) = flat Q ∧ Q.length = k1 + 1 + (M.length - k1)) :=
          ⟨Q1 ++ M.drop k1, (flat_append _ _).symm, by rw [List.length_append, HQL.out, List.length_drop]⟩
        have HQ6 : Hid (Q.length ≤ 1048576) := by
          show Q.length ≤ 1048576
          rw [HQ.out.2]; omega
        have hwW := SM4.out.2.2.size
        by_cases hkc : k1 = cp
        · have e0 : M.drop k1 = [] := List.drop_eq_nil_of_le (by omega)
          have HE : Hid (flat Q1 ++ flat [] = flat Q ∧ Q.length = k1 + 1 + 0) := by
            have h := HQ.out
            rw [e0, show M.length - k1 = 0 from by omega] at h
            exact h
          have HN : Hid (∀ j u, (flat [])[j]? = some u → w7.cell? (Addr.add ⟨g3, 0, none⟩ j) = some u) := by
            intro j u hu
            simp [flat] at hu
          have HD7 := Lib.hid (show k1 + 1 + 0 ≤ maxLen from by unfold maxLen; omega)
          have HD8 := Lib.hid (show (k1 + 1 + 0) * 16 ≤ 140737488355328 from by omega)
          clear e0
          have hf2 := HF.out
          subst hkc
          go_wp2_with (at_builtin; refine wpList_append_own _ rfl _ _ 23 rfl W1.heap.size 27 i0 (.agg #[.int .i64 0, .int .i64 0]) 2 16 Try.underlying23 hi0 hz0 hz1 hz2 rfl (by decide) _ _ _ rfl own8 ⟨g3, 0, none⟩ 0 0 (flat []) rfl rfl HN.out (flat_one _) HD7.out HD8.out hsz ?_)
          intro v8 w8 own9 hgrow _
          have own10 : Hid (w8.ownsRow W1.heap.size 27 2 v8 Q.length (flat Q)) := by
            show World.ownsRow _ _ _ _ _ _ _
            rw [HE.out.2, ← HE.out.1]; exact own9
          have B8 : Hid (Below W1.heap.size W1 w8) := B7.out.grown hgrow hsz (fun q hq => (own8.lt q hq).1)
          obtain ⟨-, A8, c8, rfl, PA8, -⟩ := own_ptsc own10.out
          have SM8 := Lib.hid (SM4.out.on B8.out)
          have HP := Lib.hid (spec_poly A8 c8 Q w8 PA8 HQ6.out)
          clear own8 own9 hgrow HN hf2 PA8 hsz
          go_wp2_with fail
          refine HP.out.mono ?_
          rintro e w9 ⟨rfl, b9⟩
          have SM9 := Lib.hid (SM8.out.on b9)
          have own11 := Lib.hid (own_below own10.out b9)
          clear b9
          cases hq : polyB Q
          · go_wp2_with fail
            go_roundw
            case rel => exact ⟨j - 1, M, by first | rfl | go_num, by omega, PM, SM9⟩
            case measure => simp [intOf]; omega
          · have PQ : Hid (polyB Q = true) := hq
            have SQ : Hid (St w A n c g (.slice A8 Q.length c8) Q w9) := ⟨own_base own11.out hwW, SM9.out.2⟩
            go_wp2_with fail
            go_roundw
            case rel => exact ⟨j - 1, Q, by first | rfl | go_num, by omega, PQ, SQ⟩
            case measure => simp [intOf]; omega
        · have hkc' : ¬ cp = k1 := fun e => hkc e.symm
          have HN := Lib.hid (ptsA_news PAM.out k1)
          have hf2 := HF.out
          go_wp2_with (at_builtin; refine wpList_append_own _ rfl _ _ 23 rfl W1.heap.size 27 i0 (.agg #[.int .i64 0, .int .i64 0]) 2 16 Try.underlying23 hi0 hz0 hz1 hz2 rfl (by decide) _ _ _ rfl own8 ⟨g3, k1 * 2, none⟩ (M.length - k1) (cp - k1) (flat (M.drop k1)) rfl HFM.out HN.out (flat_one _) HD5.out HD6.out hsz ?_)
          intro v8 w8 own9 hgrow _
          have own10 : Hid (w8.ownsRow W1.heap.size 27 2 v8 Q.length (flat Q)) := by
            show World.ownsRow _ _ _ _ _ _ _
            rw [HQ.out.2, ← HQ.out.1]; exact own9
          have B8 : Hid (Below W1.heap.size W1 w8) := B7.out.grown hgrow hsz (fun q hq => (own8.lt q hq).1)
          obtain ⟨-, A8, c8, rfl, PA8, -⟩ := own_ptsc own10.out
          have SM8 := Lib.hid (SM4.out.on B8.out)
          have HP := Lib.hid (spec_poly A8 c8 Q w8 PA8 HQ6.out)
          clear own8 own9 hgrow HN hf2 PA8 hsz
          go_wp2_with fail
          refine HP.out.mono ?_
          rintro e w9 ⟨rfl, b9⟩
          have SM9 := Lib.hid (SM8.out.on b9)
          have own11 := Lib.hid (own_below own10.out b9)
          clear b9
          cases hq : polyB Q
          · go_wp2_with fail
            go_roundw
            case rel => exact ⟨j - 1, M, by first | rfl | go_num, by omega, PM, SM9⟩
            case measure => simp [intOf]; omega
          · have PQ : Hid (polyB Q = true) := hq
            have SQ : Hid (St w A n c g (.slice A8 Q.length c8) Q w9) := ⟨own_base own11.out hwW, SM9.out.2⟩
            go_wp2_with fail
            go_roundw
            case rel => exact ⟨j - 1, Q, by first | rfl | go_num, by omega, PQ, SQ⟩
            case measure => simp [intOf]; omega
      · obtain ⟨hM3, hM10, -⟩ := polyB_all PM.out
        obtain ⟨-, A3, c3, rfl, PA3, -⟩ := own_ptsc SM.out.1
        clear PA3
        go_wp2_with fail
        refine (HOc.out 3 _ (by omega) (by omega) SM.out.2).mono ?_
        rintro e w11 ⟨⟨b2, rfl⟩, C6, C7⟩
        have S := Lib.hid (SM.out.grow hgl C6 C7)
        clear C6 C7
        cases b2
        · go_wp2_with fail
          go_ret
          exact ⟨_, _, rfl, PM.out, S.out⟩
        · have HTN := Lib.hid (turn_any A3 c3 M w11 (ptsA_of S.out.1) (by omega) (by omega))
          go_wp2_with fail
          refine HTN.out.mono ?_
          rintro e w12 ⟨v, rfl, own, b⟩
          have HL := Lib.hid (And.intro own b)
          clear own b
          go_wp2_with fail
          go_ret
          exact ⟨_, turnL M, rfl, HTU.out M PM.out, own_base HL.out.1 S.out.2.2.size, S.out.2.on HL.out.2⟩

set_option maxRecDepth 100000 in
set_option maxHeartbeats 800000 in
/-- MakePolygon hands back a polygon. -/
theorem makeP_any (A : Option Addr) (n c : Nat) (w : World) (hC : CodeAt w w.heap.size A n) (hn : n ≤ 1048576) (HT : ∀ M, polyB M = true → polyB (turnL M) = true) :
    Calls Try.prog 12 #[.slice A n c, .int .i64 0] w fun e w' => ∃ v M, e = .returned v ∧ polyB M = true ∧ w'.ownsRow w.heap.size 27 2 v M.length (flat M) ∧ Below w.heap.size w w' := by
  have HN := Lib.hid (ahead_any A n c 0 w hC hn (by omega) (by omega))
  have HC := Lib.hid hC
  have HTT := Lib.hid HT
  clear hC HT
  go_enter Try.func12, Try.ntmps12
  go_wp2_with fail
  refine HN.out.mono ?_
  rintro e w1 ⟨g, rfl, hgw, hg, hb⟩
  have hgl := hg.lt
  have HD := Lib.hid (drawP_any A n c g w.heap.size w1 (HC.out.below hb) hg hgw hn HTT.out)
  have HBB := Lib.hid hb
  clear hg hb
  go_wp2_with fail
  refine HD.out.mono ?_
  rintro e w2 ⟨v, M, rfl, hp, hS⟩
  have R := Lib.hid (And.intro hp hS)
  clear hp hS
  go_wp2_with fail
  go_ret
  exact ⟨_, M, rfl, R.out.1, own_base R.out.2.1 HBB.out.size, HBB.out.trans (og_below R.out.2.2.2 hgw hgl)⟩
end Go.Proofs.Ytieekeodbflgfaa
