/-
  The walk of the law FnPolygons: begun.
-/
import Derived.Test.YtieekeodbflgfaaPolysA
import Derived.Test.YtieekeodbflgfaaPolysC
import Derived.Deep.Light
namespace Go.Proofs.Ytieekeodbflgfaa
open Go.RowKit

theorem next64 {k n : Nat} (h : k ≤ n) (hn : n ≤ 1000) : wrap64 ((k : Int) + 1) = (k : Int) + 1 ∧ IntKind.i64.wrap ((k : Int) + 1) = (k : Int) + 1 :=
  ⟨IntWalk.wrap64_in _ (by omega), IntWalk.i64_in _ (by omega)⟩
theorem le_1000 {n : Nat} (h : n ≤ 10) : n ≤ 1000 := by omega
theorem le_1000' {n : Nat} (h : n ≤ 100) : n ≤ 1000 := by omega
theorem q_w {a b : Int} {W : Nat} (e : a + (W : Int) = b + 1) (h0 : 0 ≤ a) (h2 : b ≤ 40) : W ≤ 41 := by omega
theorem q_cv {cv a : Int} {r H : Nat} (e : cv = a) (h : 0 ≤ a ∧ a ≤ r * 41) (hr : r ≤ H) (hH : H ≤ 41) : 0 ≤ cv ∧ cv ≤ 2000 := by omega
theorem q_y {a b y : Int} {W r : Nat} (e : a + (W : Int) = b + 1) (ey : y = a + (r : Int)) (hr : r < W) (h0 : 0 ≤ a) (h2 : b ≤ 40) : 0 ≤ y ∧ y ≤ 40 ∧ y ≤ b := by omega
theorem q_64 {y : Int} (h : 0 ≤ y) (h2 : y ≤ 4000) : wrap64 (y + 1) = y + 1 ∧ IntKind.i64.wrap (y + 1) = y + 1 := ⟨IntWalk.wrap64_in _ (by omega), IntWalk.i64_in _ (by omega)⟩
theorem q_dv {dv cv a : Int} {j W : Nat} (e : dv = cv + a) (ha : 0 ≤ a ∧ a ≤ j) (hc : 0 ≤ cv ∧ cv ≤ 2000) (hj : j ≤ W) (hW : W ≤ 41) : 0 ≤ dv ∧ dv ≤ 3000 := by omega
theorem q_nx {x a : Int} {j : Nat} (e : x = a + (j : Int)) : x + 1 = a + ((j + 1 : Nat) : Int) := by omega
theorem q_ms {x a : Int} {j W : Nat} (e : x = a + (j : Int)) (h : j < W) : (a + (W : Int) - (x + 1)).toNat < (a + (W : Int) - x).toNat := by omega
theorem q_gt {a b y : Int} {W r : Nat} (e : a + (W : Int) = b + 1) (ey : y = a + (r : Int)) (hr : ¬ r < W) : ¬ y ≤ b := by omega
theorem q_eq {j W : Nat} (h : j ≤ W) (h2 : ¬ j < W) : j = W := by omega
theorem q_ms' {n k : Nat} (h : k < n) : n - (k + 1) < n - k := by omega
theorem q_le {y : Int} (h : y ≤ 40) : y ≤ 4000 := by omega
theorem q_le' {y : Int} (h : y ≤ 3000) : y ≤ 4000 := by omega
theorem q_x1 {a b : Int} (h : 0 ≤ a) (h1 : a ≤ b) : 0 ≤ b := by omega
theorem q_same {cv : Int} (h : 0 ≤ cv ∧ cv ≤ 2000) : wrap64 cv = cv ∧ IntKind.i64.wrap cv = cv := ⟨IntWalk.wrap64_in _ (by omega), IntWalk.i64_in _ (by omega)⟩
set_option maxHeartbeats 8000000 in
set_option maxRecDepth 100000 in
theorem law_polys (A : Option Addr) (n c : Nat) (w : World) (hC : CodeAt w w.heap.size A n) :
    Calls Try.prog 3 #[.slice A n c] w fun e w' => e = .returned (.bool true) ∧ Below w.heap.size w w' := by
  by_cases h1 : n ≤ 1048576
  case neg =>
    clear hC
    go_enter Try.func3, Try.ntmps3
    go_wp2_with fail
    go_ret
    exact ⟨rfl, Below.refl _ _⟩
  have HP := Lib.hid (makeP_any A n c w hC h1 (fun M h => poly_turn h))
  have HMS := Lib.hid (fun (h : Nat) (W : World) (hb : Below w.heap.size w W) (hh : h ≤ 50) => makeS_any A n c 40 h W ((hC.below hb).mono hb.size) h1 (by omega) (by omega) hh)
  clear hC
  go_enter Try.func3, Try.ntmps3
  go_wp2_with fail
  refine HP.out.mono ?_
  rintro e w1 ⟨v, L, rfl, hp, own, b1⟩
  obtain ⟨-, A0, c0, rfl, P0, hc0⟩ := own_ptsc own
  have HPL := Lib.hid hp
  have AS := Lib.hid (asks_of hp)
  have hn3 := AS.out.n3
  have hn10 := AS.out.n10
  have hs1 := AS.out.slen
  have hs3 := AS.out.slen3
  have HP0 := Lib.hid P0
  have HB1 := Lib.hid b1
  clear hp own P0 b1 HP
  go_wp2_with fail
  refine ((AS.out.turn _ _ _ HP0.out).mono fun e w' h => gives_of AS.out.tlen h).mono ?_
  rintro e w2 ⟨At, ct, rfl, hct, PT, b⟩
  have HP2 := Lib.hid (ptsA_on HP0.out b)
  have HT2 := Lib.hid PT
  have HB2 := Lib.hid (below_on HB1.out b)
  clear PT b HP0 HB1
  go_wp2_with fail
  refine ((AS.out.straight _ _ _ HP2.out).mono fun e w' h => gives_of rfl h).mono ?_
  rintro e w3 ⟨As, cs, rfl, hcs, PS, b⟩
  have HP3 := Lib.hid (ptsA_on HP2.out b)
  have HT3 := Lib.hid (ptsA_on HT2.out b)
  have HS3 := Lib.hid PS
  have HB3 := Lib.hid (below_on HB2.out b)
  clear PS b HP2 HT2 HB2
  go_wp2_with fail
  obtain ⟨x0, y0, x1, y1, HBX⟩ : ∃ x0 y0 x1 y1, Hid (boxTill L L.length = ((x0, y0), (x1, y1))) := ⟨_, _, _, _, rfl⟩
  have CB := AS.out.box _ c0 _ HP3.out
  rw [HBX.out] at CB
  refine CB.mono ?_
  rintro e w4 ⟨rfl, b⟩
  have HP4 := Lib.hid (ptsA_on HP3.out b)
  have HT4 := Lib.hid (ptsA_on HT3.out b)
  have HS4 := Lib.hid (ptsA_on HS3.out b)
  have HB4 := Lib.hid (below_on HB3.out b)
  clear b CB HP3 HT3 HS3 HB3
  simp only [ptV]
  go_upto_region 8 with (fail)
  have B5 := below2 w4 (.cells #[.int .i64 x0, .int .i64 y0] 27) (.cells #[.int .i64 x1, .int .i64 y1] 27)
  have HQ1 := Lib.hid ((at_new w4 x0 y0 27).alloc (.cells #[.int .i64 x1, .int .i64 y1] 27))
  have HQ2 := at_new (w4.alloc (.cells #[.int .i64 x0, .int .i64 y0] 27)) x1 y1 27
  rw [size_alloc] at HQ2
  replace HQ2 := Lib.hid HQ2
  have HP5 := Lib.hid (ptsA_on HP4.out B5)
  have HT5 := Lib.hid (ptsA_on HT4.out B5)
  have HS5 := Lib.hid (ptsA_on HS4.out B5)
  have HB5 := Lib.hid (below_on HB4.out B5)
  clear B5 HP4 HT4 HS4 HB4
  generalize (w4.alloc (.cells #[.int .i64 x0, .int .i64 y0] 27)).alloc (.cells #[.int .i64 x1, .int .i64 y1] 27) = w5 at *
  obtain ⟨X, HX⟩ : ∃ X, Hid (twiceI L = X) := ⟨_, rfl⟩
  obtain ⟨hX1, hX2⟩ : -16000 ≤ X ∧ X ≤ 16000 := by
    have := twiceI_bd AS.out.ok hn10
    rw [HX.out] at this
    omega
  have HD5 : Hid (Below w5.heap.size w5 w5) := Below.refl _ _
  go_wp2_with fail
  have CC := AS.out.polyT _ ct _ HT5.out
  refine CC.mono ?_
  rintro e w6 ⟨rfl, b⟩
  have HP6 := Lib.hid (ptsA_on HP5.out b)
  have HT6 := Lib.hid (ptsA_on HT5.out b)
  have HS6 := Lib.hid (ptsA_on HS5.out b)
  have HB6 := Lib.hid (below_on HB5.out b)
  have HD6 := Lib.hid (below_on HD5.out b)
  clear b CC HP5 HT5 HS5 HB5 HD5
  go_wp2_with fail
  have CC := AS.out.twiceT _ ct _ HT6.out
  rw [HX.out] at CC
  refine CC.mono ?_
  rintro e w7 ⟨rfl, b⟩
  have HP7 := Lib.hid (ptsA_on HP6.out b)
  have HT7 := Lib.hid (ptsA_on HT6.out b)
  have HS7 := Lib.hid (ptsA_on HS6.out b)
  have HB7 := Lib.hid (below_on HB6.out b)
  have HD7 := Lib.hid (below_on HD6.out b)
  clear b CC HP6 HT6 HS6 HB6 HD6
  go_wp2_with fail
  have CC := AS.out.twice _ c0 _ HP7.out
  rw [HX.out] at CC
  refine CC.mono ?_
  rintro e w8 ⟨rfl, b⟩
  have HP8 := Lib.hid (ptsA_on HP7.out b)
  have HT8 := Lib.hid (ptsA_on HT7.out b)
  have HS8 := Lib.hid (ptsA_on HS7.out b)
  have HB8 := Lib.hid (below_on HB7.out b)
  have HD8 := Lib.hid (below_on HD7.out b)
  clear b CC HP7 HT7 HS7 HB7 HD7
  go_wp2_with fail
  have CC : Hid True := trivial
  refine ((AS.out.turn2 _ _ _ HT8.out).mono fun e w' h => gives_of rfl h).mono ?_
  rintro e w9 ⟨A7, c7, rfl, hc7, P7, b⟩
  have HU7 := Lib.hid P7
  clear P7
  have HP9 := Lib.hid (ptsA_on HP8.out b)
  have HT9 := Lib.hid (ptsA_on HT8.out b)
  have HS9 := Lib.hid (ptsA_on HS8.out b)
  have HB9 := Lib.hid (below_on HB8.out b)
  have HD9 := Lib.hid (below_on HD8.out b)
  clear b CC HP8 HT8 HS8 HB8 HD8
  go_wp2_with fail
  have CC : Hid True := trivial
  refine (points_same A7 A0 c7 c0 L _ HU7.out HP9.out (by omega) (by omega)).mono ?_
  rintro e w10 ⟨rfl, b⟩
  have HP10 := Lib.hid (ptsA_on HP9.out b)
  have HT10 := Lib.hid (ptsA_on HT9.out b)
  have HS10 := Lib.hid (ptsA_on HS9.out b)
  have HB10 := Lib.hid (below_on HB9.out b)
  have HD10 := Lib.hid (below_on HD9.out b)
  clear b CC HP9 HT9 HS9 HB9 HD9
  go_wp2_with fail
  have CC := AS.out.count _ c0 _ HP10.out
  refine CC.mono ?_
  rintro e w11 ⟨rfl, b⟩
  have HP11 := Lib.hid (ptsA_on HP10.out b)
  have HT11 := Lib.hid (ptsA_on HT10.out b)
  have HS11 := Lib.hid (ptsA_on HS10.out b)
  have HB11 := Lib.hid (below_on HB10.out b)
  have HD11 := Lib.hid (below_on HD10.out b)
  clear b CC HP10 HT10 HS10 HB10 HD10
  go_wp2_with fail
  have CC := AS.out.sameS _ _ c0 cs _ HP11.out HS11.out
  refine CC.mono ?_
  rintro e w12 ⟨rfl, b⟩
  have HP12 := Lib.hid (ptsA_on HP11.out b)
  have HT12 := Lib.hid (ptsA_on HT11.out b)
  have HS12 := Lib.hid (ptsA_on HS11.out b)
  have HB12 := Lib.hid (below_on HB11.out b)
  have HD12 := Lib.hid (below_on HD11.out b)
  clear b CC HP11 HT11 HS11 HB11 HD11
  go_wp2_with fail
  have CC := AS.out.twiceS _ cs _ HS12.out
  rw [HX.out] at CC
  refine CC.mono ?_
  rintro e w13 ⟨rfl, b⟩
  have HP13 := Lib.hid (ptsA_on HP12.out b)
  have HT13 := Lib.hid (ptsA_on HT12.out b)
  have HS13 := Lib.hid (ptsA_on HS12.out b)
  have HB13 := Lib.hid (below_on HB12.out b)
  have HD13 := Lib.hid (below_on HD12.out b)
  clear b CC HP12 HT12 HS12 HB12 HD12
  go_wp2_with fail
  have CC := AS.out.twice _ c0 _ HP13.out
  rw [HX.out] at CC
  refine CC.mono ?_
  rintro e w14 ⟨rfl, b⟩
  have HP14 := Lib.hid (ptsA_on HP13.out b)
  have HT14 := Lib.hid (ptsA_on HT13.out b)
  have HS14 := Lib.hid (ptsA_on HS13.out b)
  have HB14 := Lib.hid (below_on HB13.out b)
  have HD14 := Lib.hid (below_on HD13.out b)
  clear b CC HP13 HT13 HS13 HB13 HD13
  go_wp2_with fail
  have CC : Hid True := trivial
  refine ((AS.out.straight2 _ _ _ HS14.out).mono fun e w' h => gives_of rfl h).mono ?_
  rintro e w15 ⟨A8, c8, rfl, hc8, P8, b⟩
  have HU8 := Lib.hid P8
  clear P8
  have HP15 := Lib.hid (ptsA_on HP14.out b)
  have HT15 := Lib.hid (ptsA_on HT14.out b)
  have HS15 := Lib.hid (ptsA_on HS14.out b)
  have HB15 := Lib.hid (below_on HB14.out b)
  have HD15 := Lib.hid (below_on HD14.out b)
  clear b CC HP14 HT14 HS14 HB14 HD14
  go_wp2_with fail
  have CC : Hid True := trivial
  refine (points_same A8 As c8 cs (straightL L) _ HU8.out HS15.out (by omega) (by omega)).mono ?_
  rintro e w16 ⟨rfl, b⟩
  have HP16 := Lib.hid (ptsA_on HP15.out b)
  have HT16 := Lib.hid (ptsA_on HT15.out b)
  have HS16 := Lib.hid (ptsA_on HS15.out b)
  have HB16 := Lib.hid (below_on HB15.out b)
  have HD16 := Lib.hid (below_on HD15.out b)
  clear b CC HP15 HT15 HS15 HB15 HD15
  go_wp2_with fail
  obtain ⟨h, hh1, hh2, HH⟩ : ∃ h : Nat, h < L.length ∧ h ≤ 50 ∧ Hid ((L.length : Int) - 1 = (h : Int)) := ⟨L.length - 1, by omega, by omega, show _ = _ by omega⟩
  have AS2 := Lib.hid (asks2_of HPL.out)
  clear HU7 HU8 hc7 hc8 hs1 hs3
  have CC := HMS.out h w16 HB16.out hh2
  rw [← HH.out] at CC
  refine CC.mono ?_
  rintro e w17 ⟨⟨k, hk, rfl⟩, b⟩
  have hkL : k < L.length := by omega
  have HP17 := Lib.hid (ptsA_on HP16.out b)
  have HT17 := Lib.hid (ptsA_on HT16.out b)
  have HS17 := Lib.hid (ptsA_on HS16.out b)
  have HB17 := Lib.hid (below_on HB16.out b)
  have HD17 := Lib.hid (below_on HD16.out b)
  clear b CC HP16 HT16 HS16 HB16 HD16
  clear hk hh1 hh2 HH HMS HS17
  go_wp2_with fail
  have CC : Hid True := trivial
  refine (AS2.out.start A0 c0 k _ HP17.out hc0 hkL).mono ?_
  rintro e w18 ⟨Aq, cq, rfl, hcq, Pq, b⟩
  have HR18 := Lib.hid Pq
  clear Pq
  have HP18 := Lib.hid (ptsA_on HP17.out b)
  have HT18 := Lib.hid (ptsA_on HT17.out b)
  have HB18 := Lib.hid (below_on HB17.out b)
  have HD18 := Lib.hid (below_on HD17.out b)
  clear b CC HP17 HT17 HB17 HD17
  go_wp2_with fail
  have CC := AS2.out.sameR A0 Aq c0 cq k _ HP18.out HR18.out hkL
  refine CC.mono ?_
  rintro e w19 ⟨rfl, b⟩
  have HP19 := Lib.hid (ptsA_on HP18.out b)
  have HT19 := Lib.hid (ptsA_on HT18.out b)
  have HR19 := Lib.hid (ptsA_on HR18.out b)
  have HB19 := Lib.hid (below_on HB18.out b)
  have HD19 := Lib.hid (below_on HD18.out b)
  clear b CC HP18 HT18 HR18 HB18 HD18
  go_wp2_with fail
  have CC := AS2.out.sameT At Aq ct cq k _ HT19.out HR19.out hkL
  refine CC.mono ?_
  rintro e w20 ⟨rfl, b⟩
  have HP20 := Lib.hid (ptsA_on HP19.out b)
  have HT20 := Lib.hid (ptsA_on HT19.out b)
  have HR20 := Lib.hid (ptsA_on HR19.out b)
  have HB20 := Lib.hid (below_on HB19.out b)
  have HD20 := Lib.hid (below_on HD19.out b)
  clear b CC HP19 HT19 HR19 HB19 HD19
  go_wp2_with fail
  have CC := AS2.out.twiceR Aq cq k _ HR20.out hkL
  rw [HX.out] at CC
  refine CC.mono ?_
  rintro e w21 ⟨rfl, b⟩
  have HP21 := Lib.hid (ptsA_on HP20.out b)
  have HT21 := Lib.hid (ptsA_on HT20.out b)
  have HR21 := Lib.hid (ptsA_on HR20.out b)
  have HB21 := Lib.hid (below_on HB20.out b)
  have HD21 := Lib.hid (below_on HD20.out b)
  clear b CC HP20 HT20 HR20 HB20 HD20
  go_wp2_with fail
  have CC := AS.out.twice _ c0 _ HP21.out
  rw [HX.out] at CC
  refine CC.mono ?_
  rintro e w22 ⟨rfl, b⟩
  have HP22 := Lib.hid (ptsA_on HP21.out b)
  have HT22 := Lib.hid (ptsA_on HT21.out b)
  have HR22 := Lib.hid (ptsA_on HR21.out b)
  have HB22 := Lib.hid (below_on HB21.out b)
  have HD22 := Lib.hid (below_on HD21.out b)
  clear b CC HP21 HT21 HR21 HB21 HD21
  clear HT22 HR22 hct hcs hcq
  have FC := Lib.hid (facts_of HPL.out HBX.out)
  obtain ⟨hx0, hx01, hx1, hy0, hy01, hy1⟩ := FC.out.b
  clear hX1 hX2 HX HBX
  obtain ⟨g, rfl, -⟩ := HP22.out 0 (by omega)
  have HIQ : Hid (∀ x y W, Below w22.heap.size w22 W → Calls Try.prog 23 #[.slice (some ⟨g, 0, none⟩) L.length c0, (.agg #[.int .i64 x, .int .i64 y])] W fun e w' => e = .returned (.bool (inQ L x y)) ∧ Below W.heap.size W w') := fun x y W hb => AS2.out.inside _ c0 x y W (ptsA_on HP22.out hb)
  go_wp2_with fail
  go_loopw [12, 13, 14, 16, 136] (fun _ _ _ _ i wr => ∃ k : Nat, k ≤ L.length ∧ i = .int .i64 k ∧ Hid (Below w22.heap.size w22 wr)) (fun _ _ _ _ i _ => L.length - (intOf i).toNat)
  case atStart => exact ⟨0, Nat.zero_le _, rfl, Below.refl _ _⟩
  case round =>
    obtain ⟨wo, rfl⟩ : ∃ wo : World, wo = wr := ⟨_, rfl⟩
    obtain ⟨k, hk, rfl, HBo⟩ := hrel
    by_cases hlt : k < L.length
    · obtain ⟨hr, hrl⟩ := next_int (i := k) (n := L.length) (by omega)
      rw [show (k + 1) % L.length = nx L k from rfl] at hr hrl
      have hap := ptsA_on HP22.out HBo.out
      obtain ⟨c1, c2⟩ := gt_cells hap hlt
      obtain ⟨c3, c4⟩ := gt_cells hap hrl
      obtain ⟨u1, u2, u3, u4⟩ := FC.out.box k hlt
      have HSD := Lib.hid (FC.out.side k hlt)
      have HFW := Lib.hid (FC.out.few k hlt)
      have HIN : Hid (∀ W, Below w22.heap.size w22 W → Calls Try.prog 23 #[.slice (some ⟨g, 0, none⟩) L.length c0, (.agg #[.int .i64 (gt L k).1, .int .i64 (gt L k).2])] W fun e w' => e = .returned (.bool true) ∧ Below W.heap.size W w') := fun W hb => by
        have q := HIQ.out (gt L k).1 (gt L k).2 W hb
        rw [FC.out.corner k hlt] at q
        exact q
      have HLN : Hid (∀ W, Calls Try.prog 24 #[(.agg #[.int .i64 (gt L k).1, .int .i64 (gt L k).2]), (.agg #[.int .i64 (gt L (nx L k)).1, .int .i64 (gt L (nx L k)).2])] W fun e w' => ∃ v, e = .returned v ∧ w'.ownsRow W.heap.size 27 2 v (lineV (gt L k).1 (gt L k).2 (gt L (nx L k)).1 (gt L (nx L k)).2).length (flat (lineV (gt L k).1 (gt L k).2 (gt L (nx L k)).1 (gt L (nx L k)).2)) ∧ Below W.heap.size W w') := fun W => impl_line (gt L k).1 (gt L k).2 (gt L (nx L k)).1 (gt L (nx L k)).2 W
      clear hap
      generalize lineV (gt L k).1 (gt L k).2 (gt L (nx L k)).1 (gt L (nx L k)).2 = M at *
      generalize nx L k = r at *
      generalize (gt L k).1 = x at *
      generalize (gt L k).2 = y at *
      generalize (gt L r).1 = x' at *
      generalize (gt L r).2 = y' at *
      have hp1 : (r : Int) < (L.length : Int) := by omega
      have hp2 : (0 : Int) ≤ (r : Int) := by omega
      have hne : ¬ L.length = 0 := by omega
      obtain ⟨f5, f5'⟩ : wrap64 ((k : Int) + 1) = (k : Int) + 1 ∧ IntKind.i64.wrap ((k : Int) + 1) = (k : Int) + 1 := by
        have hb64 : -9223372036854775808 ≤ (k : Int) + 1 ∧ (k : Int) + 1 ≤ 9223372036854775807 := (by omega)
        exact ⟨IntWalk.wrap64_in _ hb64, IntWalk.i64_in _ hb64⟩
      have l1 := (HQ1.out.step HD22.out).step HBo.out
      have l2 := (HQ2.out.step HD22.out).step HBo.out
      have hal := (Below.refl wo.heap.size wo).alloc (Nat.le_refl _) (.cells #[.int .i64 x, .int .i64 y] 27)
      have d3 := cell_on hal rfl c3; have d4 := cell_on hal rfl c4
      have hal2 := hal.alloc (by simp) (.cells #[.int .i64 x', .int .i64 y'] 27)
      have m1 := l1.step hal2
      have m2 := l2.step hal2
      have m3 := (at_new wo x y 27).alloc (.cells #[.int .i64 x', .int .i64 y'] 27)
      have m4 := at_new (wo.alloc (.cells #[.int .i64 x, .int .i64 y] 27)) x' y' 27
      rw [size_alloc] at m4
      have b7 := Lib.hid (below_on HBo.out hal2)
      have v1 := m3.c0; have v2 := m3.c1
      have HMM := Lib.hid (And.intro m1 (And.intro m2 (And.intro m3 m4)))
      clear hal hal2 l1 l2 m1 m2 m3 m4 HBo
      go_wp2_with fail
      refine (HIN.out _ b7.out).mono ?_
      rintro e w8 ⟨rfl, hb8⟩
      have b8 := Lib.hid (below_on b7.out hb8)
      have m1 := HMM.out.1.step hb8
      have m2 := HMM.out.2.1.step hb8
      have m3 := HMM.out.2.2.1.step hb8
      have m4 := HMM.out.2.2.2.step hb8
      clear hb8 b7 HMM v1 v2 c1 c2 c3 c4 d3 d4 f5 f5' hp1 hp2 hne hr
      have v1 := m1.c0; have v2 := m1.c1; have v3 := m2.c0; have v4 := m2.c1; have v5 := m3.c0; have v6 := m3.c1; have v7 := m4.c0; have v8 := m4.c1
      have z1 : decide (x < x0) = false := decide_eq_false (by omega)
      have z2 : decide (x1 < x) = false := decide_eq_false (by omega)
      have z3 : decide (y < y0) = false := decide_eq_false (by omega)
      have z4 : decide (y1 < y) = false := decide_eq_false (by omega)
      clear m1 m2 m3 m4
      go_wp2_with fail
      refine (HLN.out _).mono ?_
      rintro e w9 ⟨v9, rfl, own9, hb9⟩
      obtain ⟨-, A9, c9, rfl, P9⟩ := own_pts own9
      have b9 := Lib.hid (below_on b8.out hb9)
      have HP9' := Lib.hid P9
      clear own9 hb9 b8 P9 v1 v2 v3 v4 v5 v6 v7 v8 z1 z2 z3 z4 u1 u2 u3 u4 HIN HLN
      go_wp2_with fail
      go_loopw [16, 184] (fun _ i wr => ∃ m : Nat, m ≤ M.length ∧ i = .int .i64 m ∧ Hid (Below w9.heap.size w9 wr)) (fun _ i _ => M.length - (intOf i).toNat)
      case atStart => exact ⟨0, Nat.zero_le _, rfl, Below.refl _ _⟩
      case round =>
        obtain ⟨wi, rfl⟩ : ∃ wi : World, wi = wr := ⟨_, rfl⟩
        obtain ⟨m, hm, rfl, HBi⟩ := hrel
        by_cases hlm : m < M.length
        · obtain ⟨g9, rfl, e1, e2⟩ := ptsA_on HP9'.out HBi.out m hlm
          have q2 := HSD.out _ (List.getElem_mem hlm)
          generalize (M[m]).1 = zx at *
          generalize (M[m]).2 = zy at *
          have HIZ : Hid (∀ W, Below w22.heap.size w22 W → Calls Try.prog 23 #[.slice (some ⟨g, 0, none⟩) L.length c0, (.agg #[.int .i64 zx, .int .i64 zy])] W fun e w' => e = .returned (.bool true) ∧ Below W.heap.size W w') := fun W hb => by
            have q := HIQ.out zx zy W hb
            rw [q2] at q
            exact q
          obtain ⟨f5, f5'⟩ : wrap64 ((m : Int) + 1) = (m : Int) + 1 ∧ IntKind.i64.wrap ((m : Int) + 1) = (m : Int) + 1 := by
            have hb64 : -9223372036854775808 ≤ (m : Int) + 1 ∧ (m : Int) + 1 ≤ 9223372036854775807 := (by have := HFW.out; omega)
            exact ⟨IntWalk.wrap64_in _ hb64, IntWalk.i64_in _ hb64⟩
          have hal := (Below.refl wi.heap.size wi).alloc (Nat.le_refl _) (.cells #[.int .i64 zx, .int .i64 zy] 27)
          have m1 := at_new wi zx zy 27
          have v1 := m1.c0; have v2 := m1.c1
          have bi := Lib.hid (below_on HBi.out hal)
          have bb := Lib.hid (below_on b9.out bi.out)
          clear hal m1 HBi q2
          go_wp2_with fail
          refine (HIZ.out _ bb.out).mono ?_
          rintro e w10 ⟨rfl, hb10⟩
          have bj := Lib.hid (below_on bi.out hb10)
          clear hb10 bi bb v1 v2 e1 e2 HIZ
          go_wp2_with fail
          clear f5 f5'
          go_roundw
          case rel => exact ⟨m + 1, hlm, by go_num, bj⟩
          case measure => simpa [intOf] using q_ms' hlm
        · obtain ⟨f5, f5'⟩ := next64 hk (le_1000 hn10)
          have bj := Lib.hid (below_on b9.out HBi.out)
          clear HBi b9 HP9' HSD HFW HIQ FC AS AS2 HB22 HD22 HP22 HQ1 HQ2 HPL hm
          go_wp2_with fail
          clear f5 f5'
          go_roundw
          case rel => exact ⟨k + 1, hlt, by go_num, bj⟩
          case measure => simpa [intOf] using q_ms' hlt
    · obtain ⟨Wd, Hd, eW, eH, hcnt⟩ := FC.out.count
      have hzr := FC.out.right
      have hWd : Wd ≤ 41 := q_w eW hx0 hx1
      have hHd : Hd ≤ 41 := q_w eH hy0 hy1
      have hbd := fun r => allC_bd L x0 y0 Wd hWd r
      have l1 := (HQ1.out.step HD22.out).step HBo.out
      have l2 := (HQ2.out.step HD22.out).step HBo.out
      have v1 := l1.c0; have v2 := l1.c1; have v3 := l2.c0; have v4 := l2.c1
      have HL := Lib.hid (And.intro l1 l2)
      have HBD := Lib.hid hbd
      have HCN := Lib.hid hcnt
      have HEW := Lib.hid eW
      have HEH := Lib.hid eH
      have HZR := Lib.hid hzr
      clear l1 l2 hbd hcnt eW eH hzr
      go_wp2_with fail
      go_loopw [17, 18, 19] (fun c y _ wr => ∃ (r : Nat) (cv yv : Int), r ≤ Hd ∧ Hid (cv = allC L x0 y0 Wd r) ∧ Hid (yv = y0 + (r : Int)) ∧ c = .int .i64 cv ∧ y = .int .i64 yv ∧ Hid (Below wo.heap.size wo wr)) (fun _ y _ _ => ((y0 + (Hd : Int)) - intOf y).toNat)
      case atStart => exact ⟨0, 0, y0, Nat.zero_le _, rfl, by show y0 = y0 + ((0 : Nat) : Int); exact (Int.add_zero y0).symm, rfl, rfl, Below.refl _ _⟩
      case round =>
        obtain ⟨wy, rfl⟩ : ∃ wy : World, wy = wr := ⟨_, rfl⟩
        obtain ⟨r, cv, yv, hr, HCV, HYV, rfl, rfl, HBy⟩ := hrel
        have hcb := HBD.out r
        by_cases hlr : r < Hd
        · have l1 := HL.out.1.step HBy.out
          have l2 := HL.out.2.step HBy.out
          have v1 := l1.c0; have v2 := l1.c1; have v3 := l2.c0; have v4 := l2.c1
          have HM := Lib.hid (And.intro l1 l2)
          have hcr : 0 ≤ cv ∧ cv ≤ 2000 := q_cv HCV.out hcb hr hHd
          have hy40 : 0 ≤ yv ∧ yv ≤ 40 ∧ yv ≤ y1 := q_y HEH.out HYV.out hlr hy0 hy1
          have f1 : decide (yv ≤ y1) = true := decide_eq_true hy40.2.2
          have f2 : decide (yv ≤ 40) = true := decide_eq_true hy40.2.1
          have Hf3 : Hid (wrap64 (yv + 1) = yv + 1 ∧ IntKind.i64.wrap (yv + 1) = yv + 1) := q_64 hy40.1 (q_le hy40.2.1)
          clear l1 l2 hcb
          as_aux_lemma =>
            go_wp2_with fail
            go_loopw [17, 19] (fun c x wr => ∃ (j : Nat) (dv xv : Int), j ≤ Wd ∧ Hid (dv = cv + rowC L x0 yv j) ∧ Hid (xv = x0 + (j : Int)) ∧ c = .int .i64 dv ∧ x = .int .i64 xv ∧ Hid (Below wy.heap.size wy wr)) (fun _ x _ => ((x0 + (Wd : Int)) - intOf x).toNat)
            case atStart => exact ⟨0, cv, x0, Nat.zero_le _, (Int.add_zero cv).symm, (Int.add_zero x0).symm, rfl, rfl, Below.refl _ _⟩
            case round =>
              obtain ⟨wx, rfl⟩ : ∃ wx : World, wx = wr := ⟨_, rfl⟩
              obtain ⟨j, dv, xv, hj, HDV, HXV, rfl, rfl, HBx⟩ := hrel
              have hdb := rowC_bd L x0 yv j
              have l1 := HM.out.1.step HBx.out
              have l2 := HM.out.2.step HBx.out
              have v1 := l1.c0; have v2 := l1.c1; have v3 := l2.c0; have v4 := l2.c1
              by_cases hlj : j < Wd
              · have hx40 : 0 ≤ xv ∧ xv ≤ 40 ∧ xv ≤ x1 := q_y HEW.out HXV.out hlj hx0 hx1
                have g1 : decide (xv ≤ x1) = true := decide_eq_true hx40.2.2
                have g2 : decide (xv ≤ 40) = true := decide_eq_true hx40.2.1
                have Hg3 : Hid (wrap64 (xv + 1) = xv + 1 ∧ IntKind.i64.wrap (xv + 1) = xv + 1) := q_64 hx40.1 (q_le hx40.2.1)
                have hdr : 0 ≤ dv ∧ dv ≤ 3000 := q_dv HDV.out hdb hcr hj hWd
                have HS : Hid (dv + ind (inQ L xv yv) = cv + rowC L x0 yv (j + 1)) := by
                  have hst : rowC L x0 yv (j + 1) = rowC L x0 yv j + ind (inQ L xv yv) := by rw [rowC_step, HXV.out]
                  show _ = _
                  rw [hst, HDV.out, Int.add_assoc]
                have bb := Lib.hid (below_on HBo.out (below_on HBy.out HBx.out))
                have HBX := HBx
                clear hdb l1 l2 HBx
                go_wp2_with fail
                refine (HIQ.out xv yv _ bb.out).mono ?_
                rintro e w10 ⟨rfl, hb10⟩
                have bj := Lib.hid (below_on HBX.out hb10)
                clear hb10 bb v1 v2 v3 v4
                cases hq : inQ L xv yv
                · have HS' : Hid (dv = cv + rowC L x0 yv (j + 1)) := by
                    show _ = _
                    rw [← HS.out, hq]; exact (Int.add_zero dv).symm
                  clear HS
                  have g3 := Hg3.out.1; have g3' := Hg3.out.2
                  go_wp2_with fail
                  clear g3 g3'
                  go_roundw
                  case rel => exact ⟨j + 1, dv, xv + 1, hlj, HS', q_nx HXV.out, rfl, rfl, bj⟩
                  case measure => exact q_ms HXV.out hlj
                · have HS' : Hid (dv + 1 = cv + rowC L x0 yv (j + 1)) := by
                    show _ = _
                    rw [← HS.out, hq]; rfl
                  have Hg4 : Hid (wrap64 (dv + 1) = dv + 1 ∧ IntKind.i64.wrap (dv + 1) = dv + 1) := q_64 hdr.1 (q_le' hdr.2)
                  clear HS
                  have g3 := Hg3.out.1; have g3' := Hg3.out.2; have g4 := Hg4.out.1; have g4' := Hg4.out.2
                  go_wp2_with fail
                  clear g3 g3' g4 g4'
                  go_roundw
                  case rel => exact ⟨j + 1, dv + 1, xv + 1, hlj, HS', q_nx HXV.out, rfl, rfl, bj⟩
                  case measure => exact q_ms HXV.out hlj
              · have g1 : decide (xv ≤ x1) = false := decide_eq_false (q_gt HEW.out HXV.out hlj)
                have HS' : Hid (dv = allC L x0 y0 Wd (r + 1)) := by
                  show _ = _
                  rw [HDV.out, allC_step, HCV.out, ← HYV.out, q_eq hj hlj]
                have bj := Lib.hid (below_on HBy.out HBx.out)
                clear hdb l1 l2 HBx
                have f3 := Hf3.out.1; have f3' := Hf3.out.2
                go_wp2_with fail
                clear f3 f3'
                go_roundw
                case rel => exact ⟨r + 1, dv, yv + 1, hlr, HS', q_nx HYV.out, rfl, rfl, bj⟩
                case measure => exact q_ms HYV.out hlr
        · have HRE : Hid (r = Hd) := q_eq hr hlr
          have l1 := HL.out.1.step HBy.out
          have l2 := HL.out.2.step HBy.out
          have v1 := l1.c0; have v2 := l1.c1; have v3 := l2.c0; have v4 := l2.c1
          have f1 : decide (yv ≤ y1) = false := decide_eq_false (q_gt HEH.out HYV.out hlr)
          have HCE : Hid (cv = rimI L + pickI L) := by
            show _ = _
            rw [HCV.out, HRE.out, HCN.out]
          have hcr : 0 ≤ cv ∧ cv ≤ 2000 := q_cv HCV.out hcb hr hHd
          have Hf2 : Hid (wrap64 (x1 + 1) = x1 + 1 ∧ IntKind.i64.wrap (x1 + 1) = x1 + 1) := q_64 (q_x1 hx0 hx01) (q_le hx1)
          have Hf3 : Hid (wrap64 (rimI L + pickI L) = cv ∧ IntKind.i64.wrap (rimI L + pickI L) = cv) := by
            show _ ∧ _
            rw [← HCE.out]
            exact q_same hcr
          have hal := (Below.refl wy.heap.size wy).alloc (Nat.le_refl _) (.cells #[.int .i64 (x1 + 1), .int .i64 y0] 27)
          have m1 := at_new wy (x1 + 1) y0 27
          have HM1 := Lib.hid m1
          have d1 := m1.c0; have d2 := m1.c1
          have HA := Lib.hid (below_on HBo.out (below_on HBy.out hal))
          have f2 := Hf2.out.1; have f2' := Hf2.out.2
          clear hal m1 l1 l2 hcb
          as_aux_lemma =>
            have HPz := Lib.hid (ptsA_on HP22.out HA.out)
            go_wp2_with fail
            refine (AS2.out.rim _ c0 _ HPz.out).mono ?_
            rintro e w30 ⟨rfl, hb30⟩
            have HA30 := Lib.hid (below_on HA.out hb30)
            have HP30 := Lib.hid (ptsA_on HPz.out hb30)
            have HM30 := Lib.hid (HM1.out.step hb30)
            clear hb30 d1 d2 f2 f2' v1 v2 v3 v4 HPz
            have f3 := Hf3.out.1; have f3' := Hf3.out.2
            go_wp2_with fail
            refine (AS2.out.inner _ c0 _ HP30.out).mono ?_
            rintro e w31 ⟨rfl, hb31⟩
            have HA31 := Lib.hid (below_on HA30.out hb31)
            have HP31 := Lib.hid (ptsA_on HP30.out hb31)
            have m31 := HM30.out.step hb31
            have d1 := m31.c0; have d2 := m31.c1
            clear hb31 m31 HP30 HA30 HM30
            go_wp2_with fail
            have CZ := HIQ.out (x1 + 1) y0 _ HA31.out
            rw [HZR.out] at CZ
            refine CZ.mono ?_
            rintro e w32 ⟨rfl, hb32⟩
            have HA32 := Lib.hid (below_on HA31.out hb32)
            have HP32 := Lib.hid (ptsA_on HP31.out hb32)
            clear hb32 CZ HA31 HP31 d1 d2
            go_wp2_with fail
            refine (AS2.out.none _ c0 _ HP32.out hc0).mono ?_
            rintro e w33 ⟨Ae, ce, rfl, -, -, hb33⟩
            have HA33 := Lib.hid (below_on HB22.out (below_on HA32.out hb33))
            clear hb33 HA32 HP32
            go_wp2_with fail
            go_ret
            exact ⟨rfl, HA33.out⟩
end Go.Proofs.Ytieekeodbflgfaa
