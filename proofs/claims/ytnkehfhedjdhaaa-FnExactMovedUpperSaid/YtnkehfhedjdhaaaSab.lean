/-
  Walks and facts of this seat, part Sab (merged by a script of this repo out of smaller texts).
-/
import Derived.Test.YtnkehfhedjdhaaaSaa
import Derived.ProofKit
import Derived.OpenShut
/-! Conc11 -/
namespace Go.Proofs.Ytnkehfhedjdhaaa
open Go.RowKit

/-- After k rounds of a reversal. -/
def revFAt (M : List (Int × Int)) (k t : Nat) : Int × Int := if t < k ∨ M.length - k ≤ t then gt M (M.length - 1 - t) else gt M t
def revF (M : List (Int × Int)) (k : Nat) : List (Int × Int) := (List.range M.length).map (revFAt M k)
theorem revF_len (M : List (Int × Int)) (k : Nat) : (revF M k).length = M.length := by simp [revF]
theorem revF_zero (M : List (Int × Int)) : revF M 0 = M := by
  apply List.ext_getElem (by simp [revF])
  intro t h1 h2
  simp only [revF, List.getElem_map, List.getElem_range, revFAt]
  rw [if_neg (by omega), gt_at h2]
theorem revF_all (M : List (Int × Int)) {k : Nat} (h : M.length ≤ 2 * k + 1) : revF M k = M.reverse := by
  apply List.ext_getElem (by simp [revF])
  intro t h1 h2
  have ht : t < M.length := by simpa [revF] using h1
  simp only [revF, List.getElem_map, List.getElem_range, revFAt, List.getElem_reverse]
  by_cases hc : t < k ∨ M.length - k ≤ t
  · rw [if_pos hc, gt_at (by omega)]
  · rw [if_neg hc, gt_at ht]
    congr 1; omega
theorem gt_revF (M : List (Int × Int)) (k t : Nat) (ht : t < M.length) : gt (revF M k) t = revFAt M k t := by
  rw [gt_at (by rw [revF_len]; exact ht)]
  simp [revF]
theorem revF_step (M : List (Int × Int)) (k : Nat) (h : 2 * k + 1 < M.length) :
    revF M (k + 1) = ((revF M k).set k (gt (revF M k) (M.length - 1 - k))).set (M.length - 1 - k) (gt (revF M k) k) := by
  rw [gt_revF _ _ _ (by omega), gt_revF _ _ _ (by omega)]
  apply List.ext_getElem (by simp [revF])
  intro t h1 h2
  have ht : t < M.length := by simpa [revF] using h1
  rw [List.getElem_set, List.getElem_set]
  simp only [revF, List.getElem_map, List.getElem_range, revFAt]
  by_cases e1 : M.length - 1 - k = t
  · rw [if_pos e1, if_pos (by omega), if_neg (by omega)]; congr 1; omega
  · rw [if_neg e1]
    by_cases e2 : k = t
    · rw [if_pos e2, if_pos (by omega), if_neg (by omega)]; congr 1; omega
    · rw [if_neg e2]
      by_cases hc : t < k ∨ M.length - k ≤ t
      · rw [if_pos (by omega), if_pos hc]
      · rw [if_neg (by omega), if_neg hc]
set_option maxRecDepth 100000 in
set_option maxHeartbeats 2000000 in
theorem revF_any (B g cap : Nat) (M : List (Int × Int)) (w : World) (hown : w.ownsRow B 46 2 (.slice (some ⟨g, 0, none⟩) M.length cap) M.length (flat M)) (h1 : 1 ≤ M.length) (h2 : M.length ≤ 1048576) :
    Calls Try.prog 73 #[.slice (some ⟨g, 0, none⟩) M.length cap] w fun e w' => (∃ v, e = .returned v) ∧ w'.ownsRow B 46 2 (.slice (some ⟨g, 0, none⟩) M.length cap) M.length (flat M.reverse) ∧ w.grownBy w' (some g) := by
  obtain ⟨n, hn⟩ : ∃ n, n = M.length := ⟨_, rfl⟩
  have HN := Lib.hid hn
  rw [← hn] at hown h1 h2 ⊢
  clear hn
  have f1 : (n : Int) - 1 = ((n - 1 : Nat) : Int) := by omega
  go_enter Try.func73, Try.ntmps73
  go_wp2_with fail
  go_loopw [2, 3] (fun i j wr => ∃ k q : Nat, i = .int .i64 k ∧ j = .int .i64 q ∧ Hid (k + q + 1 = n ∧ k ≤ q + 1) ∧ wr.ownsRow B 46 2 (.slice (some ⟨g, 0, none⟩) n cap) n (flat (revF M k)) ∧ w.grownBy wr (some g)) (fun i j _ => n - (intOf i).toNat)
  case atStart => exact ⟨0, n - 1, rfl, by first | rfl | go_num | exact congrArg _ f1, ⟨by omega, by omega⟩, by rw [revF_zero]; exact hown, World.grownBy.refl _ _⟩
  case round =>
    obtain ⟨k, q, rfl, rfl, HK, own, hgr⟩ := hrel
    have hk1 := HK.out.1
    by_cases hlt : k < q
    · obtain ⟨x, hx⟩ : ∃ x, x = (gt (revF M k) k).1 := ⟨_, rfl⟩
      obtain ⟨y, hy⟩ : ∃ y, y = (gt (revF M k) k).2 := ⟨_, rfl⟩
      obtain ⟨x', hx'⟩ : ∃ x', x' = (gt (revF M k) q).1 := ⟨_, rfl⟩
      obtain ⟨y', hy'⟩ : ∃ y', y' = (gt (revF M k) q).2 := ⟨_, rfl⟩
      have hP := pts_own own (by rw [revF_len]; exact HN.out.symm)
      have p1 := hP k (by omega)
      have p2 := hP q (by omega)
      rw [← hx, ← hy] at p1
      rw [← hx', ← hy'] at p2
      obtain ⟨c1, c2⟩ := p1
      obtain ⟨c3, c4⟩ := p2
      have f2 := own.frozenAt (k * 2)
      have f3 := own.frozenAt (k * 2 + 1)
      have f4 := own.frozenAt (q * 2)
      have f5 := own.frozenAt (q * 2 + 1)
      have hk2 : (k : Int) < (n : Int) := by omega
      have hq2 : (q : Int) < (n : Int) := by omega
      have hml : (revF M k).length = n := by rw [revF_len]; exact HN.out.symm
      have own4 := ((((own.stored (k * 2) (.int .i64 x')).1.stored (k * 2 + 1) (.int .i64 y')).1.stored (q * 2) (.int .i64 x)).1.stored (q * 2 + 1) (.int .i64 y)).1
      have hq1 : M.length - 1 - k = q := by have := HN.out; omega
      have hstep : revF M (k + 1) = ((revF M k).set k (x', y')).set q (x, y) := by
        rw [revF_step M k (by have := HN.out; omega), hq1, hx, hy, hx', hy']
      have hflat : ((((flat (revF M k)).set (k * 2) (.int .i64 x')).set (k * 2 + 1) (.int .i64 y')).set (q * 2) (.int .i64 x)).set (q * 2 + 1) (.int .i64 y) = flat (revF M (k + 1)) := by
        rw [hstep, flat_set1 _ _ _ (by rw [List.length_set]; omega), flat_set1 _ _ _ (by omega)]
      rw [hflat] at own4
      have hgr4 := only_set (only_set (only_set (only_set hgr (k * 2) (.int .i64 x')) (k * 2 + 1) (.int .i64 y')) (q * 2) (.int .i64 x)) (q * 2 + 1) (.int .i64 y)
      have R := Lib.hid (And.intro own4 hgr4)
      clear own own4 hgr hgr4 hP hx hy hx' hy' hk1 hown hflat hstep hq1 hml f1
      have hq0 : (0 : Int) ≤ (q : Int) - 1 := by omega
      have g1 : (q : Int) - 1 = ((q - 1 : Nat) : Int) := by omega
      go_wp2_with fail
      go_region
      go_wp2_with fail
      go_roundw
      case rel => exact ⟨k + 1, q - 1, by go_num, by first | rfl | go_num | exact congrArg _ g1, ⟨by have := HK.out.1; omega, by omega⟩, own_drew R.out.1, grown_drew R.out.2⟩
      case measure => simp [intOf]; omega
    · have e : revF M k = M.reverse := revF_all M (by have := HN.out; have := HK.out; omega)
      rw [e] at own
      have R := Lib.hid (And.intro own hgr)
      clear own hgr hown hk1 e f1
      go_wp2_with fail
      go_end0
      exact ⟨⟨_, rfl⟩, R.out.1, R.out.2⟩
def catPN (n1 n2 : Nat) : Nat → Nat
  | 0 => 0
  | 1 => n1
  | _ => n1 + n2
def catPL (h1 h2 : List Value) : Nat → List Value
  | 0 => []
  | 1 => h1
  | _ => h1 ++ h2
set_option maxRecDepth 100000 in
set_option maxHeartbeats 4000000 in
theorem concatP_any (g1 n1 c1 g2 n2 c2 gs : Nat) (h1 h2 : List Value) (w : World) (l1 : h1.length = n1 * 2) (l2 : h2.length = n2 * 2) (hn : n1 + n2 ≤ 1048576) (h0 : 1 ≤ n1 + n2)
    (C1 : ∀ j u, h1[j]? = some u → w.cell? ⟨g1, j, none⟩ = some u) (C2 : ∀ j u, h2[j]? = some u → w.cell? ⟨g2, j, none⟩ = some u) (o1 : ∀ u ∈ h1, u.oneCell' = true) (o2 : ∀ u ∈ h2, u.oneCell' = true)
    (s0 : w.cell? ⟨gs, 0, none⟩ = some (.slice (some ⟨g1, 0, none⟩) n1 c1)) (s1 : w.cell? ⟨gs, 1, none⟩ = some (.slice (some ⟨g2, 0, none⟩) n2 c2)) :
    Calls Try.prog 74 #[.slice (some ⟨gs, 0, none⟩) 2 2] w fun e w' => ∃ v, e = .returned v ∧ w'.ownsRow w.heap.size 46 2 v (n1 + n2) (h1 ++ h2) ∧ Below w.heap.size w w' := by
  obtain ⟨i0, hi0, hz0, hz1, hz2⟩ := info_parts infoPt
  have HU : Hid ((fun e w' => ∃ v, e = .returned v ∧ w'.ownsRow w.heap.size 46 2 v (n1 + n2) (h1 ++ h2) ∧ Below w.heap.size w w') = fun (e : Ending) (w' : World) => ∃ v, e = .returned v ∧ w'.ownsRow w.heap.size 46 2 v (catPN n1 n2 2) (catPL h1 h2 2) ∧ Below w.heap.size w w') := rfl
  rw [HU.out]
  have HN1 : Hid (∀ W, Below w.heap.size w W → ∀ j u, h1[j]? = some u → W.cell? (Addr.add ⟨g1, 0, none⟩ j) = some u) := fun W hb j u hu => by
    have e : Addr.add ⟨g1, 0, none⟩ j = ⟨g1, j, none⟩ := by unfold Addr.add; split <;> first | (subst_vars; rfl) | simp
    rw [e]; exact cell_on hb rfl (C1 j u hu)
  have HN2 : Hid (∀ W, Below w.heap.size w W → ∀ j u, h2[j]? = some u → W.cell? (Addr.add ⟨g2, 0, none⟩ j) = some u) := fun W hb j u hu => by
    have e : Addr.add ⟨g2, 0, none⟩ j = ⟨g2, j, none⟩ := by unfold Addr.add; split <;> first | (subst_vars; rfl) | simp
    rw [e]; exact cell_on hb rfl (C2 j u hu)
  have HO := Lib.hid (And.intro o1 o2)
  have HL := Lib.hid (And.intro l1 l2)
  have HS0 := Lib.hid s0
  have HS1 := Lib.hid s1
  have HGV := Lib.hid (fun W => grow_any (n1 + n2) W h0 hn)
  rw [Int.natCast_add] at HGV
  clear HU C1 C2 o1 o2 l1 l2
  go_enter Try.func74, Try.ntmps74
  go_wp2_with fail
  go_loop [3, 11] (fun s i => ∃ j : Nat, j ≤ 2 ∧ i = .int .i64 j ∧ s = .int .i64 (catPN n1 n2 j)) (fun _ i => 2 - (intOf i).toNat)
  case atStart => exact ⟨0, by omega, rfl, rfl⟩
  case round =>
    obtain ⟨j, hj, rfl, rfl⟩ := hrel
    match j, hj with
    | 0, _ =>
      have e0 : catPN n1 n2 0 = 0 := rfl
      rw [e0]
      clear e0 s1
      go_wp2_with fail
      go_round
      case rel => exact ⟨1, by omega, by first | rfl | go_num, by first | rfl | go_num⟩
      case measure => simp [intOf]
    | 1, _ =>
      have e0 : catPN n1 n2 1 = n1 := rfl
      have f1 : ((n1 + n2 : Nat) : Int) = (n1 : Int) + (n2 : Int) := by omega
      rw [e0]
      clear e0 s0
      go_wp2_with fail
      go_round
      case rel => exact ⟨2, by omega, by first | rfl | go_num, by first | rfl | go_num | exact congrArg _ f1.symm⟩
      case measure => simp [intOf]
    | 2, _ =>
      have e0 : ((catPN n1 n2 2 : Nat) : Int) = (n1 : Int) + (n2 : Int) := by show ((n1 + n2 : Nat) : Int) = _; omega
      have e3 : ¬ ((n1 : Int) + (n2 : Int) < 0) := by omega
      rw [e0]
      clear e0 s0 s1
      go_wp2_with fail
      refine (HGV.out w).mono ?_
      rintro e w1 ⟨g1', cp1, rfl, own1, b1⟩
      have R1 := Lib.hid (And.intro own1 b1)
      clear own1 b1 e3
      go_wp2_with fail
      go_loopw [6, 27] (fun v i wr => ∃ j : Nat, j ≤ 2 ∧ i = .int .i64 j ∧ wr.ownsRow w.heap.size 46 2 v (catPN n1 n2 j) (catPL h1 h2 j) ∧ Below w.heap.size w wr) (fun _ i _ => 2 - (intOf i).toNat)
      case atStart => exact ⟨0, by omega, by first | rfl | go_num, R1.out.1, R1.out.2⟩
      case round =>
        obtain ⟨j, hj, rfl, own, b⟩ := hrel
        match j, hj with
        | 0, _ =>
          have s0 := cell_on b rfl HS0.out
          have HN := Lib.hid (HN1.out _ b)
          have hsz := b.size
          have own0 : wr.ownsRow w.heap.size 46 2 u6 0 [] := own
          have HB := Lib.hid b
          clear own b
          go_wp2_with (at_builtin; refine wpList_append_own _ rfl _ _ 39 rfl w.heap.size 46 i0 (.agg #[.int .i64 0, .int .i64 0]) 2 16 Try.underlying39 hi0 hz0 hz1 hz2 rfl (by decide) _ _ _ rfl own0 ⟨g1, 0, none⟩ n1 c1 h1 rfl (by have := HL.out.1; omega) HN.out HO.out.1 ?x3 ?x4 hsz ?_)
          case x3 => unfold maxLen; omega
          case x4 => omega
          intro v' w6 own6 hgrow _
          have R : Hid (w6.ownsRow w.heap.size 46 2 v' (catPN n1 n2 1) (catPL h1 h2 1) ∧ Below w.heap.size w w6) :=
            ⟨show w6.ownsRow w.heap.size 46 2 v' n1 h1 from by simpa using own6, HB.out.grown hgrow hsz (fun q hq => (own0.lt q hq).1)⟩
          clear own0 own6 hgrow s0
          go_wp2_with fail
          go_roundw
          case rel => exact ⟨1, by omega, by first | rfl | go_num, R.out.1, R.out.2⟩
          case measure => simp [intOf]
        | 1, _ =>
          have s0 := cell_on b rfl HS1.out
          have HN := Lib.hid (HN2.out _ b)
          have hsz := b.size
          have own0 : wr.ownsRow w.heap.size 46 2 u6 n1 h1 := own
          have HB := Lib.hid b
          clear own b
          go_wp2_with (at_builtin; refine wpList_append_own _ rfl _ _ 39 rfl w.heap.size 46 i0 (.agg #[.int .i64 0, .int .i64 0]) 2 16 Try.underlying39 hi0 hz0 hz1 hz2 rfl (by decide) _ _ _ rfl own0 ⟨g2, 0, none⟩ n2 c2 h2 rfl (by have := HL.out.2; omega) HN.out HO.out.2 ?y3 ?y4 hsz ?_)
          case y3 => unfold maxLen; omega
          case y4 => omega
          intro v' w6 own6 hgrow _
          have R : Hid (w6.ownsRow w.heap.size 46 2 v' (catPN n1 n2 2) (catPL h1 h2 2) ∧ Below w.heap.size w w6) :=
            ⟨own6, HB.out.grown hgrow hsz (fun q hq => (own0.lt q hq).1)⟩
          clear own0 own6 hgrow s0
          go_wp2_with fail
          go_roundw
          case rel => exact ⟨2, by omega, by first | rfl | go_num, R.out.1, R.out.2⟩
          case measure => simp [intOf]
        | 2, _ =>
          have R := Lib.hid (And.intro own b)
          clear own b
          go_wp2_with fail
          go_ret
          exact ⟨_, rfl, R.out.1, R.out.2⟩
end Go.Proofs.Ytnkehfhedjdhaaa

/-! Step11B -/
namespace Go.Proofs.Ytnkehfhedjdhaaa
open Go.RowKit

/-- What the model has after k rounds. -/
def cutR (n a b : Int) (N k : Nat) : List (Int × Int) := if k < N then cutP n a b k ++ [((k : Int) * a, (n - k) * b)] else cutP n a b k
theorem cutR_lt {n a b : Int} {N k : Nat} (h : k < N) : cutR n a b N k = cutP n a b k ++ [((k : Int) * a, (n - k) * b)] := if_pos h
theorem cutR_ge {n a b : Int} {N k : Nat} (h : N ≤ k) : cutR n a b N k = cutP n a b k := if_neg (by omega)
set_option maxRecDepth 100000 in
set_option maxHeartbeats 4000000 in
theorem cut_any (N : Nat) (a b : Int) (w : World) (h1 : 1 ≤ N) (hN : N ≤ 3) (ha : 0 ≤ a ∧ a ≤ 10) (hb : 0 ≤ b ∧ b ≤ 10) :
    Calls Try.prog 91 #[.int .i64 N, .int .i64 a, .int .i64 b] w (Lists w (cutP N a b N)) := by
  obtain ⟨i0, hi0, hz0, hz1, hz2⟩ := info_parts infoPt
  have q0 := mul_small (x := (N : Int)) (y := b) (p := 3) (q := 10) (by omega) (by omega) hb.1 (by omega)
  have HS : Hid (cutR (N : Int) a b N 0 = [((0 : Int), (N : Int) * b)]) := by
    show _ = _
    rw [cutR_lt (by omega)]; simp [cutP]
  obtain ⟨y, hy⟩ : ∃ y, y = (N : Int) * b := ⟨_, rfl⟩
  rw [← hy] at q0 HS
  have f0 : IntKind.i64.wrap y = y := IntWalk.i64_in _ (by omega)
  have g0 := hy.symm
  have own0 := World.ownsRow_lit (base := w.heap.size) (e := 46) (size := 2) w #[.int .i64 0, .int .i64 y] 1 (Nat.le_refl _) (by decide) rfl
  have b0 := below1 w (.cells #[.int .i64 0, .int .i64 y] 46)
  clear hy q0
  go_enter Try.func91, Try.ntmps91
  go_wp2_with fail
  clear f0 g0
  go_loopw [7, 8] (fun v i wr => ∃ (I k : Nat) (M : List (Int × Int)), Hid (I = k + 1) ∧ I ≤ N + 1 ∧ i = .int .i64 I ∧ Hid (M = cutR N a b N k) ∧ wr.ownsRow w.heap.size 46 2 v M.length (flat M) ∧ Below w.heap.size w wr) (fun _ i _ => N + 1 - (intOf i).toNat)
  case atStart => exact ⟨1, 0, _, rfl, by omega, rfl, rfl, by rw [HS.out]; exact own0, b0⟩
  case round =>
    obtain ⟨wo, rfl⟩ : ∃ wo : World, wo = wr := ⟨_, rfl⟩
    obtain ⟨I, k, M, HI, hI, rfl, HM, own, hbl⟩ := hrel
    clear own0 b0
    by_cases hlt : I ≤ N
    · have q1 := mul_small (x := (N : Int) - I + 1) (y := b) (p := 3) (q := 10) (by have := HI.out; omega) (by have := HI.out; omega) hb.1 (by omega)
      have q2 := mul_small (x := (I : Int)) (y := a) (p := 3) (q := 10) (by omega) (by omega) ha.1 (by omega)
      have q3 := mul_small (x := (N : Int) - I) (y := b) (p := 3) (q := 10) (by omega) (by omega) hb.1 (by omega)
      have hml : M.length ≤ 10 := by
        rw [HM.out, cutR_lt (by have := HI.out; omega), List.length_append, cutP_len]; simp; have := HI.out; omega
      obtain ⟨y0, hy0⟩ : ∃ y, y = ((N : Int) - I + 1) * b := ⟨_, rfl⟩
      obtain ⟨x, hx⟩ : ∃ x, x = (I : Int) * a := ⟨_, rfl⟩
      obtain ⟨y1, hy1⟩ : ∃ y, y = ((N : Int) - I) * b := ⟨_, rfl⟩
      have HM1 : Hid (M ++ [(x, y0)] = cutP N a b (k + 1)) := by
        show _ = _
        rw [HM.out, cutR_lt (by have := HI.out; omega), cutP, hx, hy0, HI.out, List.append_assoc]
        have e : (N : Int) - ((k + 1 : Nat) : Int) + 1 = N - k := by omega
        rw [e]; simp
      have HM2 : Hid (M ++ [(x, y0)] ++ [(x, y1)] = cutP N a b (k + 1) ++ [(((k + 1 : Nat) : Int) * a, ((N : Int) - ((k + 1 : Nat) : Int)) * b)]) := by
        show _ = _
        rw [HM1.out, hx, hy1, HI.out]
      rw [← hy0] at q1
      rw [← hx] at q2
      rw [← hy1] at q3
      have f1 : IntKind.i64.wrap y0 = y0 := IntWalk.i64_in _ (by omega)
      have f2 : IntKind.i64.wrap x = x := IntWalk.i64_in _ (by omega)
      have f3 : IntKind.i64.wrap y1 = y1 := IntWalk.i64_in _ (by omega)
      have g1 := hy0.symm; have g2 := hx.symm; have g3 := hy1.symm
      have hsz := hbl.size
      have HB := Lib.hid hbl
      clear hy0 hx hy1 q1 q2 q3 hbl HM
      by_cases hl2 : I < N
      · go_wp2_with (at_builtin; refine wpList_append_own _ rfl _ _ 39 rfl w.heap.size 46 i0 (.agg #[.int .i64 0, .int .i64 0]) 2 16 Try.underlying39 hi0 hz0 hz1 hz2 rfl (by decide) _ _ _ rfl (own.alloc _) ⟨wo.heap.size, 0, none⟩ 1 1 [.int .i64 x, .int .i64 y0] rfl rfl (World.news_of_block (cs := #[.int .i64 x, .int .i64 y0]) (t := 46) (fr := (0, 0)) (heap_alloc_new wo _)) (by simp [Value.oneCell']) ?d3 ?d4 (by simp; omega) ?_)
        case d3 => unfold maxLen; omega
        case d4 => omega
        intro v' w6 own6 hgrow _
        have R : Hid (w6.ownsRow w.heap.size 46 2 v' (M ++ [(x, y0)]).length (flat (M ++ [(x, y0)])) ∧ Below w.heap.size w w6) := by
          refine ⟨by rw [flat_append, List.length_append]; exact own6, (HB.out.alloc hsz _).grown hgrow (by simp; omega) (fun q hq => (own.lt q hq).1)⟩
        have own7 := R.out.1
        have hsz6 := R.out.2.size
        have hm2 : (M ++ [(x, y0)]).length ≤ 11 := by rw [List.length_append]; simp; omega
        generalize M ++ [(x, y0)] = M2 at *
        clear own own6 hgrow
        go_wp2_with (at_builtin; refine wpList_append_own _ rfl _ _ 39 rfl w.heap.size 46 i0 (.agg #[.int .i64 0, .int .i64 0]) 2 16 Try.underlying39 hi0 hz0 hz1 hz2 rfl (by decide) _ _ _ rfl (own7.alloc _) ⟨w6.heap.size, 0, none⟩ 1 1 [.int .i64 x, .int .i64 y1] rfl rfl (World.news_of_block (cs := #[.int .i64 x, .int .i64 y1]) (t := 46) (fr := (0, 0)) (heap_alloc_new w6 _)) (by simp [Value.oneCell']) ?e3 ?e4 (by simp; omega) ?_)
        case e3 => unfold maxLen; omega
        case e4 => omega
        intro v'' w8 own8 hgrow8 _
        have R2 : Hid (w8.ownsRow w.heap.size 46 2 v'' (M2 ++ [(x, y1)]).length (flat (M2 ++ [(x, y1)])) ∧ Below w.heap.size w w8) := by
          refine ⟨by rw [flat_append, List.length_append]; exact own8, (R.out.2.alloc hsz6 _).grown hgrow8 (by simp; omega) (fun q hq => (own7.lt q hq).1)⟩
        clear own7 own8 hgrow8
        go_wp2_with fail
        go_roundw
        case rel => exact ⟨I + 1, k + 1, M2 ++ [(x, y1)], by show _ = _; rw [HI.out], by omega, by go_num, by show _ = _; rw [HM2.out, cutR_lt (by have := HI.out; omega)], R2.out.1, R2.out.2⟩
        case measure => simp [intOf]; omega
      · go_wp2_with (at_builtin; refine wpList_append_own _ rfl _ _ 39 rfl w.heap.size 46 i0 (.agg #[.int .i64 0, .int .i64 0]) 2 16 Try.underlying39 hi0 hz0 hz1 hz2 rfl (by decide) _ _ _ rfl (own.alloc _) ⟨wo.heap.size, 0, none⟩ 1 1 [.int .i64 x, .int .i64 y0] rfl rfl (World.news_of_block (cs := #[.int .i64 x, .int .i64 y0]) (t := 46) (fr := (0, 0)) (heap_alloc_new wo _)) (by simp [Value.oneCell']) ?d3 ?d4 (by simp; omega) ?_)
        case d3 => unfold maxLen; omega
        case d4 => omega
        intro v' w6 own6 hgrow _
        have R : Hid (w6.ownsRow w.heap.size 46 2 v' (M ++ [(x, y0)]).length (flat (M ++ [(x, y0)])) ∧ Below w.heap.size w w6) := by
          refine ⟨by rw [flat_append, List.length_append]; exact own6, (HB.out.alloc hsz _).grown hgrow (by simp; omega) (fun q hq => (own.lt q hq).1)⟩
        clear own own6 hgrow
        go_wp2_with fail
        go_roundw
        case rel => exact ⟨I + 1, k + 1, M ++ [(x, y0)], by show _ = _; rw [HI.out], by omega, by go_num, by show _ = _; rw [HM1.out, cutR_ge (by have := HI.out; omega)], R.out.1, R.out.2⟩
        case measure => simp [intOf]; omega
    · have HE : Hid (M = cutP N a b N) := by
        show _ = _
        rw [HM.out, cutR_ge (by have := HI.out; omega), show k = N from by have := HI.out; omega]
      have R := Lib.hid (And.intro own hbl)
      clear own hbl HM
      go_wp2_with fail
      go_ret
      exact ⟨_, rfl, by rw [← HE.out]; exact R.out.1, R.out.2⟩
def uprL (n a b : Int) : List (Int × Int) := cutP n a b n.toNat ++ [(n * a, (n + 1) * b), (0, (n + 1) * b)]
def uprV (n a b : Int) : List (Int × Int) := bif stpsB n a b then uprL n a b else []
def lwL (n a b : Int) : List (Int × Int) := [(0, 0), (n * a, 0)] ++ (cutP n a b n.toNat).reverse
def lwV (n a b : Int) : List (Int × Int) := bif stpsB n a b then lwL n a b else []
theorem uprV_len (n a b : Int) : (uprV n a b).length ≤ 8 := by
  unfold uprV
  cases h : stpsB n a b
  · simp
  · have := stpsB_bounds h
    simp [uprL, cutP_len]; omega
theorem lwV_len (n a b : Int) : (lwV n a b).length ≤ 8 := by
  unfold lwV
  cases h : stpsB n a b
  · simp
  · have := stpsB_bounds h
    simp [lwL, cutP_len]; omega
set_option maxRecDepth 100000 in
set_option maxHeartbeats 4000000 in
theorem spec_upper (n a b : Int) (w : World) :
    Calls Try.prog 46 #[.int .i64 n, .int .i64 a, .int .i64 b] w (Lists w (uprV n a b)) := by
  have H1 := Lib.hid (spec_stepsOk n a b w)
  have HU : Hid (∀ v w', w'.ownsRow w.heap.size 46 2 v (uprV n a b).length (flat (uprV n a b)) → Below w.heap.size w w' → Lists w (uprV n a b) (.returned v) w') := fun v w' h1 h2 => ⟨v, rfl, h1, h2⟩
  have HR : Hid (uprV n a b = bif stpsB n a b then uprL n a b else []) := rfl
  cases hok : stpsB n a b
  · rw [hok] at H1
    go_enter Try.func46, Try.ntmps46
    go_wp2_with fail
    refine H1.out.mono ?_
    rintro e w1 ⟨rfl, rfl⟩
    go_wp2_with fail
    go_ret
    exact HU.out _ _ (by rw [HR.out, hok]; exact World.ownsRow_nil _ _ _ _) (Below.refl _ _)
  · obtain ⟨h1, h2, h3, h4, h5, h6⟩ := stpsB_bounds hok
    have HE : Hid (uprV n a b = uprL n a b) := by show _ = _; rw [HR.out, hok]; rfl
    rw [hok] at H1
    obtain ⟨N, rfl⟩ : ∃ N : Nat, n = N := ⟨n.toNat, by omega⟩
    have HC := Lib.hid (cut_any N a b w (by omega) (by omega) (by omega) (by omega))
    have q1 := mul_small (x := (N : Int)) (y := a) (p := 3) (q := 10) (by omega) (by omega) (by omega) (by omega)
    have q2 := mul_small (x := (N : Int) + 1) (y := b) (p := 4) (q := 10) (by omega) (by omega) (by omega) (by omega)
    obtain ⟨C, hC⟩ : ∃ C, C = cutP (N : Int) a b N := ⟨_, rfl⟩
    have hCl : C.length ≤ 6 := by rw [hC, cutP_len]; omega
    rw [← hC] at HC
    obtain ⟨x, hx⟩ : ∃ x, x = (N : Int) * a := ⟨_, rfl⟩
    obtain ⟨y, hy⟩ : ∃ y, y = ((N : Int) + 1) * b := ⟨_, rfl⟩
    have HL : Hid (uprV N a b = C ++ [(x, y), (0, y)]) := by show _ = _; rw [HE.out, uprL, hC, hx, hy]; rfl
    rw [← hx] at q1
    rw [← hy] at q2
    have f1 : IntKind.i64.wrap y = y := IntWalk.i64_in _ (by omega)
    have f2 : IntKind.i64.wrap x = x := IntWalk.i64_in _ (by omega)
    have g1 := hy.symm; have g2 := hx.symm
    obtain ⟨i0, hi0, hz0, hz1, hz2⟩ := info_parts infoPt
    clear hx hy q1 q2 hC HE HR h5 h6 hok
    unfold Lists at HC
    go_enter Try.func46, Try.ntmps46
    go_wp2_with fail
    refine H1.out.mono ?_
    rintro e w1 ⟨rfl, rfl⟩
    go_wp2_with fail
    refine HC.out.mono ?_
    rintro e w2 ⟨v, rfl, own, hbl⟩
    have hsz := hbl.size
    go_wp2_with (at_builtin; refine wpList_append_own _ rfl _ _ 39 rfl w1.heap.size 46 i0 (.agg #[.int .i64 0, .int .i64 0]) 2 16 Try.underlying39 hi0 hz0 hz1 hz2 rfl (by decide) _ _ _ rfl (own.alloc _) ⟨w2.heap.size, 0, none⟩ 2 2 [.int .i64 x, .int .i64 y, .int .i64 0, .int .i64 y] rfl rfl (World.news_of_block (cs := #[.int .i64 x, .int .i64 y, .int .i64 0, .int .i64 y]) (t := 46) (fr := (0, 0)) (heap_alloc_new w2 _)) (by simp [Value.oneCell']) ?d3 ?d4 (by simp; omega) ?_)
    case d3 => unfold maxLen; omega
    case d4 => omega
    intro v' w6 own6 hgrow _
    have R : Hid (w6.ownsRow w1.heap.size 46 2 v' (C ++ [(x, y), (0, y)]).length (flat (C ++ [(x, y), (0, y)])) ∧ Below w1.heap.size w1 w6) := by
      refine ⟨by rw [flat_append, List.length_append]; exact own6, (hbl.alloc hsz _).grown hgrow (by simp; omega) (fun q hq => (own.lt q hq).1)⟩
    clear own own6 hgrow hbl
    go_wp2_with fail
    go_ret
    exact HU.out _ _ (by rw [HL.out]; exact R.out.1) R.out.2
set_option maxRecDepth 100000 in
set_option maxHeartbeats 4000000 in
theorem impl_upper (n a b : Int) (w : World) :
    Calls Try.prog 28 #[.int .i64 n, .int .i64 a, .int .i64 b] w (Lists w (uprV n a b)) := by
  have H1 := Lib.hid (impl_stepsOk n a b w)
  have HU : Hid (∀ v w', w'.ownsRow w.heap.size 46 2 v (uprV n a b).length (flat (uprV n a b)) → Below w.heap.size w w' → Lists w (uprV n a b) (.returned v) w') := fun v w' h1 h2 => ⟨v, rfl, h1, h2⟩
  have HR : Hid (uprV n a b = bif stpsB n a b then uprL n a b else []) := rfl
  cases hok : stpsB n a b
  · rw [hok] at H1
    go_enter Try.func28, Try.ntmps28
    go_wp2_with fail
    refine H1.out.mono ?_
    rintro e w1 ⟨rfl, rfl⟩
    go_wp2_with fail
    go_ret
    exact HU.out _ _ (by rw [HR.out, hok]; exact World.ownsRow_nil _ _ _ _) (Below.refl _ _)
  · obtain ⟨h1, h2, h3, h4, h5, h6⟩ := stpsB_bounds hok
    have HE : Hid (uprV n a b = uprL n a b) := by show _ = _; rw [HR.out, hok]; rfl
    rw [hok] at H1
    obtain ⟨N, rfl⟩ : ∃ N : Nat, n = N := ⟨n.toNat, by omega⟩
    have HC := Lib.hid (corners_any N a b w (by omega) (by omega) (by omega))
    have q1 := mul_small (x := (N : Int)) (y := a) (p := 3) (q := 10) (by omega) (by omega) (by omega) (by omega)
    have q2 := mul_small (x := (N : Int) + 1) (y := b) (p := 4) (q := 10) (by omega) (by omega) (by omega) (by omega)
    obtain ⟨C, hC⟩ : ∃ C, C = cutP (N : Int) a b N := ⟨_, rfl⟩
    have hCl : 2 * N = C.length := by rw [hC, cutP_len]
    rw [← hC, hCl] at HC
    have hCm : C.length ≤ 6 := by omega
    obtain ⟨x, hx⟩ : ∃ x, x = (N : Int) * a := ⟨_, rfl⟩
    obtain ⟨y, hy⟩ : ∃ y, y = ((N : Int) + 1) * b := ⟨_, rfl⟩
    have HL : Hid (uprV N a b = C ++ [(x, y), (0, y)]) := by show _ = _; rw [HE.out, uprL, hC, hx, hy]; rfl
    rw [← hx] at q1
    rw [← hy] at q2
    have f1 : IntKind.i64.wrap y = y := IntWalk.i64_in _ (by omega)
    have f2 : IntKind.i64.wrap x = x := IntWalk.i64_in _ (by omega)
    have g1 := hy.symm; have g2 := hx.symm
    obtain ⟨i0, hi0, hz0, hz1, hz2⟩ := info_parts infoPt
    clear hx hy q1 q2 hC HE HR h5 h6 hok hCl
    go_enter Try.func28, Try.ntmps28
    go_wp2_with fail
    refine H1.out.mono ?_
    rintro e w1 ⟨rfl, rfl⟩
    go_wp2_with fail
    refine HC.out.mono ?_
    rintro e w2 ⟨v, rfl, own, hbl⟩
    have hsz := hbl.size
    go_wp2_with (at_builtin; refine wpList_append_own _ rfl _ _ 39 rfl w1.heap.size 46 i0 (.agg #[.int .i64 0, .int .i64 0]) 2 16 Try.underlying39 hi0 hz0 hz1 hz2 rfl (by decide) _ _ _ rfl (own.alloc _) ⟨w2.heap.size, 0, none⟩ 2 2 [.int .i64 x, .int .i64 y, .int .i64 0, .int .i64 y] rfl rfl (World.news_of_block (cs := #[.int .i64 x, .int .i64 y, .int .i64 0, .int .i64 y]) (t := 46) (fr := (0, 0)) (heap_alloc_new w2 _)) (by simp [Value.oneCell']) ?d3 ?d4 (by simp; omega) ?_)
    case d3 => unfold maxLen; omega
    case d4 => omega
    intro v' w6 own6 hgrow _
    have R : Hid (w6.ownsRow w1.heap.size 46 2 v' (C ++ [(x, y), (0, y)]).length (flat (C ++ [(x, y), (0, y)])) ∧ Below w1.heap.size w1 w6) := by
      refine ⟨by rw [flat_append, List.length_append]; exact own6, (hbl.alloc hsz _).grown hgrow (by simp; omega) (fun q hq => (own.lt q hq).1)⟩
    clear own own6 hgrow hbl
    go_wp2_with fail
    go_ret
    exact HU.out _ _ (by rw [HL.out]; exact R.out.1) R.out.2
set_option maxRecDepth 100000 in
set_option maxHeartbeats 4000000 in
theorem impl_lower (n a b : Int) (w : World) :
    Calls Try.prog 27 #[.int .i64 n, .int .i64 a, .int .i64 b] w (Lists w (lwV n a b)) := by
  have H1 := Lib.hid (impl_stepsOk n a b w)
  have HU : Hid (∀ v w', w'.ownsRow w.heap.size 46 2 v (lwV n a b).length (flat (lwV n a b)) → Below w.heap.size w w' → Lists w (lwV n a b) (.returned v) w') := fun v w' h1 h2 => ⟨v, rfl, h1, h2⟩
  have HR : Hid (lwV n a b = bif stpsB n a b then lwL n a b else []) := rfl
  cases hok : stpsB n a b
  · rw [hok] at H1
    go_enter Try.func27, Try.ntmps27
    go_wp2_with fail
    refine H1.out.mono ?_
    rintro e w1 ⟨rfl, rfl⟩
    go_wp2_with fail
    go_ret
    exact HU.out _ _ (by rw [HR.out, hok]; exact World.ownsRow_nil _ _ _ _) (Below.refl _ _)
  · obtain ⟨h1, h2, h3, h4, h5, h6⟩ := stpsB_bounds hok
    have HE : Hid (lwV n a b = lwL n a b) := by show _ = _; rw [HR.out, hok]; rfl
    rw [hok] at H1
    obtain ⟨N, rfl⟩ : ∃ N : Nat, n = N := ⟨n.toNat, by omega⟩
    have HC := Lib.hid (corners_any N a b w (by omega) (by omega) (by omega))
    have q1 := mul_small (x := (N : Int)) (y := a) (p := 3) (q := 10) (by omega) (by omega) (by omega) (by omega)
    obtain ⟨C, hC⟩ : ∃ C, C = cutP (N : Int) a b N := ⟨_, rfl⟩
    have hCl : 2 * N = C.length := by rw [hC, cutP_len]
    rw [← hC, hCl] at HC
    have hCm : C.length ≤ 6 := by omega
    have hC1 : 1 ≤ C.length := by omega
    obtain ⟨x, hx⟩ : ∃ x, x = (N : Int) * a := ⟨_, rfl⟩
    have HL : Hid (lwV N a b = [(0, 0), (x, 0)] ++ C.reverse) := by show _ = _; rw [HE.out, lwL, hC, hx]; rfl
    rw [← hx] at q1
    have f2 : IntKind.i64.wrap x = x := IntWalk.i64_in _ (by omega)
    have g2 := hx.symm
    clear hx q1 hC HE HR h5 h6 hok hCl
    go_enter Try.func27, Try.ntmps27
    go_wp2_with fail
    refine H1.out.mono ?_
    rintro e w1 ⟨rfl, rfl⟩
    go_wp2_with fail
    refine HC.out.mono ?_
    rintro e w2 ⟨v, rfl, own, hbl⟩
    have hv : ∃ g cap, v = .slice (some ⟨g, 0, none⟩) C.length cap := by
      rcases own.2 with ⟨_, h0⟩ | ⟨g, cap, _, rfl, _⟩
      · omega
      · exact ⟨g, cap, rfl⟩
    obtain ⟨g, cap, rfl⟩ := hv
    have hgl := own.lt g rfl
    have HV := Lib.hid (revF_any w1.heap.size g cap C w2 own hC1 (by omega))
    clear own
    go_wp2_with fail
    refine HV.out.mono ?_
    rintro e w3 ⟨⟨u, rfl⟩, own3, hg3⟩
    have b3 := hbl.grown hg3 hbl.size (fun q hq => by cases hq; exact hgl.1)
    have hg3l := own3.lt g rfl
    have P3 : PtsA w3 (some ⟨g, 0, none⟩) C.reverse := ptsA_of (B := w1.heap.size) (e := 46) (n := C.length) (c := cap) own3
    have A1 := (World.ownsRow_lit (base := w1.heap.size) (e := 46) (size := 2) w3 #[.int .i64 0, .int .i64 0, .int .i64 x, .int .i64 0] 2 b3.size (by decide) rfl)
    have HCC := Lib.hid (fun gs c1 c2 W (hb : Below (w3.alloc (.cells #[.int .i64 0, .int .i64 0, .int .i64 x, .int .i64 0] 46)).heap.size (w3.alloc (.cells #[.int .i64 0, .int .i64 0, .int .i64 x, .int .i64 0] 46)) W) (s0 : W.cell? ⟨gs, 0, none⟩ = some (.slice (some ⟨w3.heap.size, 0, none⟩) 2 c1)) (s1 : W.cell? ⟨gs, 1, none⟩ = some (.slice (some ⟨g, 0, none⟩) C.length c2)) =>
      concatP_any w3.heap.size 2 c1 g C.length c2 gs [.int .i64 0, .int .i64 0, .int .i64 x, .int .i64 0] (flat C.reverse) W rfl (by rw [flat_len, List.length_reverse]) (by omega) (by omega)
        (fun j u hu => cell_on hb rfl (by rw [cell_of_row _ _ j _ _ _ (heap_alloc_new w3 _)]; simpa using hu))
        (fun j u hu => cell_on hb rfl (by
          have e : Addr.add ⟨g, 0, none⟩ j = ⟨g, j, none⟩ := by unfold Addr.add; split <;> first | (subst_vars; rfl) | simp
          have := ptsA_take (ptsA_on P3 (below1 w3 (.cells #[.int .i64 0, .int .i64 0, .int .i64 x, .int .i64 0] 46))) C.reverse.length j u (by rw [List.take_length]; exact hu)
          rw [e] at this; exact this))
        (by simp [Value.oneCell']) (flat_one _) s0 s1)
    have b4 := b3.alloc b3.size (.cells #[.int .i64 0, .int .i64 0, .int .i64 x, .int .i64 0] 46)
    clear own3 hg3 A1 P3 hbl
    go_wp2_with fail
    refine (HCC.out _ 2 cap _ (below1 _ _) (by have hx := heap_alloc_new (w3.alloc (.cells #[.int .i64 0, .int .i64 0, .int .i64 x, .int .i64 0] 46)) (.cells #[.slice (some ⟨w3.heap.size, 0, none⟩) 2 2, .slice (some ⟨g, 0, none⟩) C.length cap] 39); rw [size_alloc] at hx; exact cell_of_row _ _ 0 _ _ _ hx) (by have hx := heap_alloc_new (w3.alloc (.cells #[.int .i64 0, .int .i64 0, .int .i64 x, .int .i64 0] 46)) (.cells #[.slice (some ⟨w3.heap.size, 0, none⟩) 2 2, .slice (some ⟨g, 0, none⟩) C.length cap] 39); rw [size_alloc] at hx; exact cell_of_row _ _ 1 _ _ _ hx)).mono ?_
    rintro e w5 ⟨v5, rfl, own5, hb5⟩
    have b5 := below_on (b4.alloc b4.size _) hb5
    have R := Lib.hid (own_base own5 (b4.alloc b4.size _).size)
    clear own5 hb5
    go_wp2_with fail
    go_ret
    exact HU.out _ _ (by rw [HL.out, flat_append, List.length_append, List.length_reverse]; exact R.out) b5
set_option maxRecDepth 100000 in
set_option maxHeartbeats 4000000 in
theorem spec_lower (n a b : Int) (w : World) :
    Calls Try.prog 42 #[.int .i64 n, .int .i64 a, .int .i64 b] w (Lists w (lwV n a b)) := by
  have H1 := Lib.hid (spec_stepsOk n a b w)
  have HU : Hid (∀ v w', w'.ownsRow w.heap.size 46 2 v (lwV n a b).length (flat (lwV n a b)) → Below w.heap.size w w' → Lists w (lwV n a b) (.returned v) w') := fun v w' h1 h2 => ⟨v, rfl, h1, h2⟩
  have HR : Hid (lwV n a b = bif stpsB n a b then lwL n a b else []) := rfl
  cases hok : stpsB n a b
  · rw [hok] at H1
    go_enter Try.func42, Try.ntmps42
    go_wp2_with fail
    refine H1.out.mono ?_
    rintro e w1 ⟨rfl, rfl⟩
    go_wp2_with fail
    go_ret
    exact HU.out _ _ (by rw [HR.out, hok]; exact World.ownsRow_nil _ _ _ _) (Below.refl _ _)
  · obtain ⟨h1, h2, h3, h4, h5, h6⟩ := stpsB_bounds hok
    have HE : Hid (lwV n a b = lwL n a b) := by show _ = _; rw [HR.out, hok]; rfl
    rw [hok] at H1
    obtain ⟨N, rfl⟩ : ∃ N : Nat, n = N := ⟨n.toNat, by omega⟩
    have q1 := mul_small (x := (N : Int)) (y := a) (p := 3) (q := 10) (by omega) (by omega) (by omega) (by omega)
    have HC := Lib.hid (fun W => cut_any N a b W (by omega) (by omega) (by omega) (by omega))
    obtain ⟨C, hC⟩ : ∃ C, C = cutP (N : Int) a b N := ⟨_, rfl⟩
    have hCl : 2 * N = C.length := by rw [hC, cutP_len]
    rw [← hC] at HC
    have hCm : C.length ≤ 6 := by omega
    have hC1 : 1 ≤ C.length := by omega
    obtain ⟨x, hx⟩ : ∃ x, x = (N : Int) * a := ⟨_, rfl⟩
    have HL : Hid (lwV N a b = [(0, 0), (x, 0)] ++ C.reverse) := by show _ = _; rw [HE.out, lwL, hC, hx]; rfl
    rw [← hx] at q1
    have f2 : IntKind.i64.wrap x = x := IntWalk.i64_in _ (by omega)
    have g2 := hx.symm
    have own0 := World.ownsRow_lit (base := w.heap.size) (e := 46) (size := 2) w #[.int .i64 0, .int .i64 0, .int .i64 x, .int .i64 0] 2 (Nat.le_refl _) (by decide) rfl
    have b0 := below1 w (.cells #[.int .i64 0, .int .i64 0, .int .i64 x, .int .i64 0] 46)
    have e1 : (C.length : Int) - 1 = ((C.length - 1 : Nat) : Int) := by omega
    unfold Lists at HC
    obtain ⟨i0, hi0, hz0, hz1, hz2⟩ := info_parts infoPt
    clear hx q1 hC HE HR h5 h6 hok hCl
    go_enter Try.func42, Try.ntmps42
    go_wp2_with fail
    refine H1.out.mono ?_
    rintro e w1 ⟨rfl, rfl⟩
    go_wp2_with fail
    refine (HC.out _).mono ?_
    rintro e w2 ⟨v, rfl, own2, hb2⟩
    have ap2 := own_apart own0 (Nat.le_refl _) own2
    have own1 := own_below own0 hb2
    have b2 := below_on b0 hb2
    obtain ⟨_, A2, c2, rfl, -⟩ := own_pts own2
    clear hb2 own0 b0 f2 g2
    go_wp2_with fail
    clear e1
    go_loopw [7, 9] (fun s i wr => ∃ (q : Nat) (z : Int) (M : List (Int × Int)), Hid (z = (q : Int) - 1) ∧ q ≤ C.length ∧ i = .int .i64 z ∧ Hid (M = [(0, 0), (x, 0)] ++ C.reverse.take (C.length - q)) ∧ wr.ownsRow w1.heap.size 46 2 s M.length (flat M) ∧ (s.ownBlock = none ∨ s.ownBlock ≠ (Value.slice A2 C.length c2).ownBlock) ∧
        wr.ownsRow 0 46 2 (.slice A2 C.length c2) C.length (flat C) ∧ Below w1.heap.size w1 wr) (fun _ i _ => (intOf i + 1).toNat)
    case atStart => exact ⟨C.length, (C.length : Int) - 1, [(0, 0), (x, 0)], rfl, Nat.le_refl _, by first | rfl | go_num, by show _ = _; simp, own1, ap2, own_base own2 (Nat.zero_le _), b2⟩
    case round =>
      obtain ⟨wo, rfl⟩ : ∃ wo : World, wo = wr := ⟨_, rfl⟩
      clear own1 own2 ap2 b2
      obtain ⟨q, z, M, HZ, hq, rfl, HM, hown, hap, hoc, hb⟩ := hrel
      by_cases hlt : 0 ≤ z
      · obtain ⟨k, hk⟩ : ∃ k : Nat, k + 1 = q := ⟨q - 1, by have := HZ.out; omega⟩
        obtain rfl : z = (k : Int) := by have := HZ.out; omega
        clear HZ
        have hkl : k < C.length := by omega
        obtain ⟨g2, rfl, -⟩ := (ptsA_of hoc) 0 (by omega)
        obtain ⟨c1, c2'⟩ := gt_cells (ptsA_of hoc) (i := k) hkl
        have hML : M.length ≤ 8 := by rw [HM.out, List.length_append, List.length_take, List.length_reverse]; simp; omega
        have HM2 : Hid (M ++ [((gt C k).1, (gt C k).2)] = [(0, 0), (x, 0)] ++ C.reverse.take (C.length - k)) := by
          show _ = _
          rw [HM.out, List.append_assoc, show C.length - k = (C.length - q) + 1 by omega, List.take_succ_eq_append_getElem (by rw [List.length_reverse]; omega), List.getElem_reverse, gt_at hkl]
          simp only [show C.length - 1 - (C.length - q) = k by omega]
        clear HM
        generalize (gt C k).1 = px at *
        generalize (gt C k).2 = py at *
        have hp1 : (k : Int) < (C.length : Int) := by omega
        have hsz := hb.size
        have f3 : (k : Int) - 1 + 1 = k := by omega
        have ap := hap
        have hocl := hoc.lt g2 rfl
        go_wp2_with (at_builtin; refine wpList_append_lies _ rfl _ _ 39 rfl w1.heap.size 46 i0 (.agg #[.int .i64 0, .int .i64 0]) 2 16 Try.underlying39 hi0 hz0 hz1 hz2 rfl (by decide) _ _ _ rfl (hown.alloc _) ⟨wo.heap.size, 0, none⟩ 1 1 [.int .i64 px, .int .i64 py] rfl rfl ?d1 ?d2 (by omega) ?d3 ?d4 ?d5 (wo.heap.size + 1) (by simp) ?_)
        case d1 => exact World.news_of_block (cs := #[.int .i64 px, .int .i64 py]) (t := 46) (fr := (0, 0)) (heap_alloc_new wo _)
        case d2 => simp [Value.oneCell']
        case d3 => unfold maxLen; omega
        case d4 => omega
        case d5 => simp; omega
        intro g6 cp6 w6 own6 hgrow hat _
        have hr := fun k hk => (hown.lt k hk).1
        have HN : Hid ((M ++ [(px, py)]).length = M.length + 1) := by simp [Hid]
        have R : Hid (w6.ownsRow w1.heap.size 46 2 (.slice (some ⟨g6, 0, none⟩) (M ++ [(px, py)]).length cp6) (M ++ [(px, py)]).length (flat (M ++ [(px, py)])) ∧ ((Value.slice (some ⟨g6, 0, none⟩) (M ++ [(px, py)]).length cp6).ownBlock = none ∨ (Value.slice (some ⟨g6, 0, none⟩) (M ++ [(px, py)]).length cp6).ownBlock ≠ (Value.slice (some ⟨g2, 0, none⟩) C.length c2).ownBlock) ∧
            w6.ownsRow 0 46 2 (.slice (some ⟨g2, 0, none⟩) C.length c2) C.length (flat C) ∧ Below w1.heap.size w1 w6) := by
          refine ⟨by rw [flat_append, HN.out]; exact own6, .inr ?_, ?_, (hb.alloc hb.size _).grown hgrow (by simp; omega) hr⟩
          · simp only [Value.ownBlock, ne_eq, Option.some.injEq]
            rcases hat with hat | hat
            · rcases ap with ap | ap
              · rw [hat] at ap; cases ap
              · rw [hat] at ap; simpa [Value.ownBlock] using ap
            · omega
          · refine (hoc.alloc _).kept hgrow ?_
            rcases ap with ap | ap
            · rw [ap]; exact .inr (by simp [Value.ownBlock])
            · exact .inr (Ne.symm ap)
        clear hown own6 hgrow hb c1 c2' hap ap hoc hat
        go_wp2_with fail
        first
          | exact ⟨⟨k, (k : Int) - 1, M ++ [(px, py)], rfl, by omega, by first | rfl | go_num, HM2, by first | exact R.out.1 | (rw [HN.out]; exact R.out.1), by first | exact R.out.2.1 | (rw [HN.out]; exact R.out.2.1), R.out.2.2.1, R.out.2.2.2⟩, by simp [intOf]; omega⟩
          | (go_roundw
             case rel => exact ⟨k, (k : Int) - 1, M ++ [(px, py)], rfl, by omega, by first | rfl | go_num, HM2, by first | exact R.out.1 | (rw [HN.out] at *; exact R.out.1), by first | exact R.out.2.1 | (rw [HN.out] at *; exact R.out.2.1), R.out.2.2.1, R.out.2.2.2⟩
             case measure => simp [intOf])
      · have HQ : Hid (lwV N a b = M) := by
          show _ = _
          rw [HM.out, HL.out, show C.length - q = C.reverse.length from by rw [List.length_reverse]; have := HZ.out; omega, List.take_length]
        have R := Lib.hid hown
        clear hown HM hoc hap
        go_wp2_with fail
        go_ret
        exact HU.out _ _ (by rw [HQ.out]; exact R.out) hb
end Go.Proofs.Ytnkehfhedjdhaaa

/-! Betw11 -/
namespace Go.Proofs.Ytnkehfhedjdhaaa
open Go.RowKit

/-- n, a and b lead from w, h to v, u. -/
def betB (w h v u n a b : Int) : Bool := stpsB n a b && (decide (w = n * a) && (decide (h = (n + 1) * b) && (decide (v = (n + 1) * a) && decide (u = n * b))))
theorem hit_iff {w h v u n a b : Int} : betB w h v u n a b = true ↔ stpsB n a b = true ∧ w = n * a ∧ h = (n + 1) * b ∧ v = (n + 1) * a ∧ u = n * b := by
  simp [betB]
def Bet (w h v u N A B : Int) (ok : Bool) : Prop :=
  (ok = true ∧ betB w h v u N A B = true ∧ ∀ n a b, n < N → betB w h v u n a b = false) ∨ (ok = false ∧ N = 0 ∧ A = 0 ∧ B = 0 ∧ ∀ n a b, betB w h v u n a b = false)
theorem hit_uniq {w h v u n a b a' b' : Int} (h1 : betB w h v u n a b = true) (h2 : betB w h v u n a' b' = true) : a = a' ∧ b = b' := by
  obtain ⟨s1, e1, -, -, e2⟩ := hit_iff.1 h1
  obtain ⟨-, e3, -, -, e4⟩ := hit_iff.1 h2
  have hn := stpsB_bounds s1
  exact ⟨Int.eq_of_mul_eq_mul_left (by omega) (e1.symm.trans e3), Int.eq_of_mul_eq_mul_left (by omega) (e2.symm.trans e4)⟩
theorem Bet.uniq {w h v u N A B N' A' B' : Int} {k k' : Bool} (h1 : Bet w h v u N A B k) (h2 : Bet w h v u N' A' B' k') : N = N' ∧ A = A' ∧ B = B' ∧ k = k' := by
  rcases h1 with ⟨k1, p1, m1⟩ | ⟨k1, n1, a1, b1, m1⟩ <;> rcases h2 with ⟨k2, p2, m2⟩ | ⟨k2, n2, a2, b2, m2⟩
  · have e : N = N' := by
      rcases Int.lt_trichotomy N N' with g | g | g
      · rw [m2 _ _ _ g] at p1; cases p1
      · exact g
      · rw [m1 _ _ _ g] at p2; cases p2
    subst e
    obtain ⟨e1, e2⟩ := hit_uniq p1 p2
    exact ⟨rfl, e1, e2, k1.trans k2.symm⟩
  · rw [m2] at p1; cases p1
  · rw [m1] at p2; cases p2
  · exact ⟨n1.trans n2.symm, a1.trans a2.symm, b1.trans b2.symm, k1.trans k2.symm⟩
theorem results_tmp4 {fn : Func} {t u v x : Tmp} (h : fn.results = #[.tmp t, .tmp u, .tmp v, .tmp x]) (tmps : Array Value) (P : Program) (w : World) :
    (results fn tmps).run P w = .ok (.tuple #[tmps.getD t undef, tmps.getD u undef, tmps.getD v undef, tmps.getD x undef]) w := by
  simp [results, h]
def BetOut (w h v u : Int) (W : World) (e : Ending) (w' : World) : Prop := ∃ N A B ok, e = .returned (.tuple #[.int .i64 N, .int .i64 A, .int .i64 B, .bool ok]) ∧ Bet w h v u N A B ok ∧ Below W.heap.size W w'
theorem nohit_low {w h v u : Int} : ∀ n a b : Int, n < 1 → betB w h v u n a b = false := fun n a b hn => by
  cases hh : betB w h v u n a b
  · rfl
  · have := stpsB_bounds (hit_iff.1 hh).1; omega
theorem nohit_all {w h v u : Int} {N : Nat} (hN : 3 < N) (H : ∀ n a b : Int, n < N → betB w h v u n a b = false) : ∀ n a b : Int, betB w h v u n a b = false := fun n a b => by
  cases hh : betB w h v u n a b
  · rfl
  · have := stpsB_bounds (hit_iff.1 hh).1
    rw [H n a b (by omega)] at hh; cases hh
theorem nohit_next {w h v u : Int} {n : Nat} (H : ∀ m a b : Int, m < n → betB w h v u m a b = false) (H2 : ∀ a b : Int, betB w h v u n a b = false) : ∀ m a b : Int, m < ((n + 1 : Nat) : Int) → betB w h v u m a b = false := fun m a b hm => by
  rcases Int.lt_or_le m n with g | g
  · exact H m a b g
  · obtain rfl : m = n := by omega
    exact H2 a b
theorem nohit_a {w h v u : Int} {n a : Nat} (ha : 10 < a) (H : ∀ (a' : Nat) (b : Int), a' < a → betB w h v u n a' b = false) : ∀ a' b : Int, betB w h v u n a' b = false := fun a' b => by
  cases hh : betB w h v u n a' b
  · rfl
  · have := stpsB_bounds (hit_iff.1 hh).1
    have q := H a'.toNat b (by omega)
    rw [show ((a'.toNat : Nat) : Int) = a' by omega, hh] at q; cases q
theorem nohit_b {w h v u : Int} {n a b : Nat} (hb : 10 < b) (H : ∀ b' : Nat, b' < b → betB w h v u n a b' = false) : ∀ b' : Int, betB w h v u n a b' = false := fun b' => by
  cases hh : betB w h v u n a b'
  · rfl
  · have := stpsB_bounds (hit_iff.1 hh).1
    have q := H b'.toNat (by omega)
    rw [show ((b'.toNat : Nat) : Int) = b' by omega, hh] at q; cases q
theorem nohit_stepA {w h v u : Int} {n a : Nat} (H : ∀ (a' : Nat) (b : Int), a' < a → betB w h v u n a' b = false) (H2 : ∀ b : Int, betB w h v u n a b = false) : ∀ (a' : Nat) (b : Int), a' < a + 1 → betB w h v u n a' b = false := fun a' b ha => by
  rcases Nat.lt_or_ge a' a with g | g
  · exact H a' b g
  · obtain rfl : a' = a := by omega
    exact H2 b
theorem nohit_stepB {w h v u : Int} {n a b : Nat} (H : ∀ b' : Nat, b' < b → betB w h v u n a b' = false) (H2 : betB w h v u n a b = false) : ∀ b' : Nat, b' < b + 1 → betB w h v u n a b' = false := fun b' hb => by
  rcases Nat.lt_or_ge b' b with g | g
  · exact H b' g
  · obtain rfl : b' = b := by omega
    exact H2

set_option maxRecDepth 100000 in
set_option maxHeartbeats 4000000 in
theorem spec_between (w h v u : Int) (W : World) :
    Calls Try.prog 49 #[.int .i64 w, .int .i64 h, .int .i64 v, .int .i64 u] W (BetOut w h v u W) := by
  have HU : Hid (∀ N A B ok, Bet w h v u N A B ok → BetOut w h v u W (.returned (.tuple #[.int .i64 N, .int .i64 A, .int .i64 B, .bool ok])) W) := fun N A B ok hb => ⟨N, A, B, ok, rfl, hb, Below.refl _ _⟩
  go_enter Try.func49, Try.ntmps49
  go_wp2_with fail
  go_loop [12, 13, 14] (fun i _ _ => ∃ n : Nat, 1 ≤ n ∧ n ≤ 4 ∧ i = .int .i64 n ∧ Hid (∀ m a b : Int, m < n → betB w h v u m a b = false)) (fun i _ _ => 4 - (intOf i).toNat)
  case atStart => exact ⟨1, by omega, by omega, rfl, nohit_low⟩
  case round =>
    obtain ⟨n, hn1, hn4, rfl, HN⟩ := hrel
    by_cases hn : n ≤ 3
    · go_wp2_with fail
      go_loop [13, 14] (fun i _ => ∃ a : Nat, 1 ≤ a ∧ a ≤ 11 ∧ i = .int .i64 a ∧ Hid (∀ (a' : Nat) (b : Int), a' < a → betB w h v u n a' b = false)) (fun i _ => 11 - (intOf i).toNat)
      case atStart => exact ⟨1, by omega, by omega, rfl, fun a' b ha => by
        obtain rfl : a' = 0 := by omega
        cases hh : betB w h v u n (0 : Nat) b
        · rfl
        · have := stpsB_bounds (hit_iff.1 hh).1; omega⟩
      case round =>
        obtain ⟨a, ha1, ha4, rfl, HA⟩ := hrel
        by_cases ha : a ≤ 10
        · go_wp2_with fail
          go_loop [14] (fun i => ∃ b : Nat, 1 ≤ b ∧ b ≤ 11 ∧ i = .int .i64 b ∧ Hid (∀ b' : Nat, b' < b → betB w h v u n a b' = false)) (fun i => 11 - (intOf i).toNat)
          case atStart => exact ⟨1, by omega, by omega, rfl, fun b' hb => by
            obtain rfl : b' = 0 := by omega
            cases hh : betB w h v u n a (0 : Nat)
            · rfl
            · have := stpsB_bounds (hit_iff.1 hh).1; omega⟩
          case round =>
            obtain ⟨b, hb1, hb4, rfl, HB⟩ := hrel
            by_cases hb : b ≤ 10
            · have HS := Lib.hid (spec_stepsOk (n : Int) a b W)
              have hst : stpsB (n : Int) a b = true := by
                simp only [stpsB, Bool.and_eq_true, inB_spec]; omega
              rw [hst] at HS
              have r1 := mul_small (x := (n : Int)) (y := (a : Int)) (p := 3) (q := 10) (by omega) (by omega) (by omega) (by omega)
              have r2 := mul_small (x := (n : Int) + 1) (y := (b : Int)) (p := 4) (q := 10) (by omega) (by omega) (by omega) (by omega)
              have r3 := mul_small (x := (n : Int) + 1) (y := (a : Int)) (p := 4) (q := 10) (by omega) (by omega) (by omega) (by omega)
              have r4 := mul_small (x := (n : Int)) (y := (b : Int)) (p := 3) (q := 10) (by omega) (by omega) (by omega) (by omega)
              obtain ⟨x1, hx1⟩ : ∃ x, x = (n : Int) * (a : Int) := ⟨_, rfl⟩
              obtain ⟨x2, hx2⟩ : ∃ x, x = ((n : Int) + 1) * (b : Int) := ⟨_, rfl⟩
              obtain ⟨x3, hx3⟩ : ∃ x, x = ((n : Int) + 1) * (a : Int) := ⟨_, rfl⟩
              obtain ⟨x4, hx4⟩ : ∃ x, x = (n : Int) * (b : Int) := ⟨_, rfl⟩
              have EX1 := Lib.hid hx1.symm; have EX2 := Lib.hid hx2.symm; have EX3 := Lib.hid hx3.symm; have EX4 := Lib.hid hx4.symm
              rw [← hx1] at r1
              rw [← hx2] at r2
              rw [← hx3] at r3
              rw [← hx4] at r4
              have f1 : IntKind.i64.wrap x1 = x1 := IntWalk.i64_in _ (by omega)
              have f2 : IntKind.i64.wrap x2 = x2 := IntWalk.i64_in _ (by omega)
              have f3 : IntKind.i64.wrap x3 = x3 := IntWalk.i64_in _ (by omega)
              have f4 : IntKind.i64.wrap x4 = x4 := IntWalk.i64_in _ (by omega)
              have g1 := hx1.symm; have g2 := hx2.symm; have g3 := hx3.symm; have g4 := hx4.symm
              clear hx1 hx2 hx3 hx4 r1 r2 r3 r4 hst
              go_wp2_with fail
              refine HS.out.mono ?_
              rintro e w1 ⟨rfl, rfl⟩

              by_cases c1 : w = x1
              case neg =>
                have HB2 : Hid (∀ b' : Nat, b' < b + 1 → betB w h v u n a b' = false) := nohit_stepB HB.out (by
                  cases hh : betB w h v u n a b
                  · rfl
                  · obtain ⟨q0, q1, q2, q3, q4⟩ := hit_iff.1 hh
                    first | exact absurd (q1.trans EX1.out) c1 | exact absurd (q2.trans EX2.out) c1 | exact absurd (q3.trans EX3.out) c1 | exact absurd (q4.trans EX4.out) c1)
                go_wp2_with fail
                go_round
                case rel => exact ⟨b + 1, by omega, by omega, by go_num, HB2⟩
                case measure => simp [intOf]; omega

              subst c1
              by_cases c2 : h = x2
              case neg =>
                have HB2 : Hid (∀ b' : Nat, b' < b + 1 → betB w h v u n a b' = false) := nohit_stepB HB.out (by
                  cases hh : betB w h v u n a b
                  · rfl
                  · obtain ⟨q0, q1, q2, q3, q4⟩ := hit_iff.1 hh
                    first | exact absurd (q1.trans EX1.out) c2 | exact absurd (q2.trans EX2.out) c2 | exact absurd (q3.trans EX3.out) c2 | exact absurd (q4.trans EX4.out) c2)
                go_wp2_with fail
                go_round
                case rel => exact ⟨b + 1, by omega, by omega, by go_num, HB2⟩
                case measure => simp [intOf]; omega

              subst c2
              by_cases c3 : v = x3
              case neg =>
                have HB2 : Hid (∀ b' : Nat, b' < b + 1 → betB w h v u n a b' = false) := nohit_stepB HB.out (by
                  cases hh : betB w h v u n a b
                  · rfl
                  · obtain ⟨q0, q1, q2, q3, q4⟩ := hit_iff.1 hh
                    first | exact absurd (q1.trans EX1.out) c3 | exact absurd (q2.trans EX2.out) c3 | exact absurd (q3.trans EX3.out) c3 | exact absurd (q4.trans EX4.out) c3)
                go_wp2_with fail
                go_round
                case rel => exact ⟨b + 1, by omega, by omega, by go_num, HB2⟩
                case measure => simp [intOf]; omega

              subst c3
              by_cases c4 : u = x4
              case neg =>
                have HB2 : Hid (∀ b' : Nat, b' < b + 1 → betB w h v u n a b' = false) := nohit_stepB HB.out (by
                  cases hh : betB w h v u n a b
                  · rfl
                  · obtain ⟨q0, q1, q2, q3, q4⟩ := hit_iff.1 hh
                    first | exact absurd (q1.trans EX1.out) c4 | exact absurd (q2.trans EX2.out) c4 | exact absurd (q3.trans EX3.out) c4 | exact absurd (q4.trans EX4.out) c4)
                go_wp2_with fail
                go_round
                case rel => exact ⟨b + 1, by omega, by omega, by go_num, HB2⟩
                case measure => simp [intOf]; omega

              subst c4
              have HH : Hid (betB w h v u n a b = true) := hit_iff.2 ⟨by simp only [stpsB, Bool.and_eq_true, inB_spec]; omega, EX1.out.symm, EX2.out.symm, EX3.out.symm, EX4.out.symm⟩
              go_wp2_with fail
              refine bodyPost_ret (results_tmp4 rfl _ _ _) rfl ?_
              exact HU.out _ _ _ _ (.inl ⟨rfl, HH.out, HN.out⟩)
            · have HA2 : Hid (∀ (a' : Nat) (b : Int), a' < a + 1 → betB w h v u n a' b = false) := nohit_stepA HA.out (nohit_b (by omega) HB.out)
              go_wp2_with fail
              go_round
              case rel => exact ⟨a + 1, by omega, by omega, by go_num, HA2⟩
              case measure => simp [intOf]; omega
        · have HN2 : Hid (∀ m a b : Int, m < ((n + 1 : Nat) : Int) → betB w h v u m a b = false) := nohit_next HN.out (nohit_a (by omega) HA.out)
          go_wp2_with fail
          go_round
          case rel => exact ⟨n + 1, by omega, by omega, by go_num, HN2⟩
          case measure => simp [intOf]; omega
    · have HE : Hid (∀ m a b : Int, betB w h v u m a b = false) := nohit_all (by omega) HN.out
      go_wp2_with fail
      refine bodyPost_ret (results_tmp4 rfl _ _ _) rfl ?_
      exact HU.out _ _ _ _ (.inr ⟨rfl, rfl, rfl, rfl, HE.out⟩)

theorem held_rc : Try.prog.stoodInHeld 104 = false := by kernel_rfl
theorem guard_rc : Try.prog.eqGuardType Try.prog.depth 104 = false := by kernel_rfl
theorem under_rc : Try.prog.underlying 104 = some (.struct (Try.prog.fieldsOf 104)) := by kernel_rfl
theorem eql_rc (w : World) (x y x' y' : Int) : (binOp .eql 104 (.agg #[.int .i64 x, .int .i64 y]) (.agg #[.int .i64 x', .int .i64 y'])).run Try.prog w = .ok (.bool (x == x' && y == y')) w := by
  rw [run_eql_struct, run_equalIn_struct _ _ _ _ _ under_rc held_rc]
  cases h : (x == x') <;> cases h2 : (y == y') <;> simp_all [go_sem, Program.fieldsOf, Try.underlying104, Try.underlying3]
theorem tdiv_hit {w h v u n a b : Int} (hh : betB w h v u n a b = true) : a = Int.tdiv w n ∧ b = Int.tdiv u n := by
  obtain ⟨s, e1, -, -, e2⟩ := hit_iff.1 hh
  have hn := stpsB_bounds s
  rw [e1, e2, Int.mul_tdiv_cancel_left _ (by omega), Int.mul_tdiv_cancel_left _ (by omega)]
  exact ⟨rfl, rfl⟩
theorem nohit_q {w h v u n a b : Int} (ha : wrap64 (Int.tdiv w n) = a) (hb : wrap64 (Int.tdiv u n) = b) (h0 : betB w h v u n a b = false) : ∀ a' b' : Int, betB w h v u n a' b' = false := fun a' b' => by
  cases hh : betB w h v u n a' b'
  · rfl
  · obtain ⟨e1, e2⟩ := tdiv_hit hh
    have hs := stpsB_bounds (hit_iff.1 hh).1
    have w1 : wrap64 a' = a' := wrap_id (by omega)
    have w2 : wrap64 b' = b' := wrap_id (by omega)
    rw [← w1, ← w2, e1, e2, ha, hb, h0] at hh; cases hh
set_option maxRecDepth 100000 in
set_option maxHeartbeats 4000000 in
theorem impl_between (w h v u : Int) (W : World) :
    Calls Try.prog 35 #[.int .i64 w, .int .i64 h, .int .i64 v, .int .i64 u] W (BetOut w h v u W) := by
  have HU : Hid (∀ N A B ok w', Bet w h v u N A B ok → Below W.heap.size W w' → BetOut w h v u W (.returned (.tuple #[.int .i64 N, .int .i64 A, .int .i64 B, .bool ok])) w') := fun N A B ok w' hb h2 => ⟨N, A, B, ok, rfl, hb, h2⟩
  have GP := guard_rc
  have EP := fun w x y x' y' => eql_rc w x y x' y'
  have t0 := two0 W w h v u 104
  have b0 := below2 W (.cells #[.int .i64 w, .int .i64 h] 104) (.cells #[.int .i64 v, .int .i64 u] 104)
  go_enter Try.func35, Try.ntmps35
  go_wp2_with fail
  go_loopw [14, 15, 16] (fun i _ _ wr => ∃ n : Nat, 1 ≤ n ∧ n ≤ 4 ∧ i = .int .i64 n ∧ Hid (∀ m a b : Int, m < n → betB w h v u m a b = false) ∧ Two wr W.heap.size w h v u 104 ∧ Below W.heap.size W wr) (fun i _ _ _ => 4 - (intOf i).toNat)
  case atStart => exact ⟨1, by omega, by omega, rfl, nohit_low, t0, b0⟩
  case round =>
    obtain ⟨wo, rfl⟩ : ∃ wo : World, wo = wr := ⟨_, rfl⟩
    clear t0 b0
    obtain ⟨n, hn1, hn4, rfl, HN, ht, hbl⟩ := hrel
    by_cases hn : n ≤ 3
    · have hn0 : ¬ n = 0 := by omega
      obtain ⟨a, ea⟩ : ∃ a, a = wrap64 (Int.tdiv w n) := ⟨_, rfl⟩
      obtain ⟨b, eb⟩ : ∃ b, b = wrap64 (Int.tdiv u n) := ⟨_, rfl⟩
      have EA := Lib.hid ea.symm
      have EB := Lib.hid eb.symm
      have g1 := ea.symm; have g2 := eb.symm
      clear ea eb
      cases hst : stpsB n a b
      · have HS := Lib.hid (impl_stepsOk (n : Int) a b)
        rw [hst] at HS
        have HN2 : Hid (∀ m a b : Int, m < ((n + 1 : Nat) : Int) → betB w h v u m a b = false) := nohit_next HN.out (nohit_q EA.out EB.out (by
          cases hh : betB w h v u n a b
          · rfl
          · rw [(hit_iff.1 hh).1] at hst; cases hst))
        clear hst
        have R := Lib.hid (And.intro ht hbl)
        clear ht hbl
        go_wp2_with fail
        go_region
        go_wp2_with fail
        refine (HS.out _).mono ?_
        rintro e w1 ⟨rfl, rfl⟩
        go_wp2_with fail
        go_roundw
        case rel => exact ⟨n + 1, by omega, by omega, by go_num, HN2, R.out.1.step (Below.refl _ _).drew, R.out.2.drew⟩
        case measure => simp [intOf]; omega
      · have HS := Lib.hid (impl_stepsOk (n : Int) a b)
        have hbd := stpsB_bounds hst
        have HST := Lib.hid hst
        rw [hst] at HS
        have r1 := mul_small (x := (n : Int)) (y := a) (p := 3) (q := 10) (by omega) (by omega) (by omega) (by omega)
        have r2 := mul_small (x := (n : Int) + 1) (y := b) (p := 4) (q := 10) (by omega) (by omega) (by omega) (by omega)
        have r3 := mul_small (x := (n : Int) + 1) (y := a) (p := 4) (q := 10) (by omega) (by omega) (by omega) (by omega)
        have r4 := mul_small (x := (n : Int)) (y := b) (p := 3) (q := 10) (by omega) (by omega) (by omega) (by omega)
        obtain ⟨x1, hx1⟩ : ∃ x, x = (n : Int) * a := ⟨_, rfl⟩
        obtain ⟨x2, hx2⟩ : ∃ x, x = ((n : Int) + 1) * b := ⟨_, rfl⟩
        obtain ⟨x3, hx3⟩ : ∃ x, x = ((n : Int) + 1) * a := ⟨_, rfl⟩
        obtain ⟨x4, hx4⟩ : ∃ x, x = (n : Int) * b := ⟨_, rfl⟩
        have EX1 := Lib.hid hx1.symm; have EX2 := Lib.hid hx2.symm; have EX3 := Lib.hid hx3.symm; have EX4 := Lib.hid hx4.symm
        rw [← hx1] at r1
        rw [← hx2] at r2
        rw [← hx3] at r3
        rw [← hx4] at r4
        have f1 : IntKind.i64.wrap x1 = x1 := IntWalk.i64_in _ (by omega)
        have f2 : IntKind.i64.wrap x2 = x2 := IntWalk.i64_in _ (by omega)
        have f3 : IntKind.i64.wrap x3 = x3 := IntWalk.i64_in _ (by omega)
        have f4 : IntKind.i64.wrap x4 = x4 := IntWalk.i64_in _ (by omega)
        have g3 := hx1.symm; have g4 := hx2.symm; have g5 := hx3.symm; have g6 := hx4.symm
        clear hx1 hx2 hx3 hx4 r1 r2 r3 r4 hst hbd
        have HN2 : Hid (¬ ((w = x1 ∧ h = x2) ∧ (v = x3 ∧ u = x4)) → ∀ m a b : Int, m < ((n + 1 : Nat) : Int) → betB w h v u m a b = false) := fun hno => nohit_next HN.out (nohit_q EA.out EB.out (by
          cases hh : betB w h v u n a b
          · rfl
          · obtain ⟨q0, q1, q2, q3, q4⟩ := hit_iff.1 hh
            exact absurd ⟨⟨q1.trans EX1.out, q2.trans EX2.out⟩, q3.trans EX3.out, q4.trans EX4.out⟩ hno))
        have R := Lib.hid (And.intro ht hbl)
        have c1 := (ht.step (Below.refl _ _).drew).1.c0; have c2 := (ht.step (Below.refl _ _).drew).1.c1; have c3 := (ht.step (Below.refl _ _).drew).2.c0; have c4 := (ht.step (Below.refl _ _).drew).2.c1
        clear ht hbl
        go_wp2_with fail
        go_region
        go_wp2_with fail
        refine (HS.out _).mono ?_
        rintro e w1 ⟨rfl, rfl⟩
        cases d1 : (w == x1 && h == x2)
        · have HN3 := Lib.hid (HN2.out (fun hc => by simp [hc.1.1, hc.1.2] at d1))
          go_wp2_with fail
          go_roundw
          case rel => exact ⟨n + 1, by omega, by omega, by go_num, HN3, R.out.1.step (Below.refl _ _).drew, R.out.2.drew⟩
          case measure => simp [intOf]; omega
        · cases d2 : (v == x3 && u == x4)
          · have HN3 := Lib.hid (HN2.out (fun hc => by simp [hc.2.1, hc.2.2] at d2))
            go_wp2_with fail
            go_roundw
            case rel => exact ⟨n + 1, by omega, by omega, by go_num, HN3, R.out.1.step (Below.refl _ _).drew, R.out.2.drew⟩
            case measure => simp [intOf]; omega
          · have HH : Hid (betB w h v u n a b = true) := by
              simp only [Bool.and_eq_true, beq_iff_eq] at d1 d2
              exact hit_iff.2 ⟨HST.out, d1.1.trans EX1.out.symm, d1.2.trans EX2.out.symm, d2.1.trans EX3.out.symm, d2.2.trans EX4.out.symm⟩
            go_wp2_with fail
            refine bodyPost_ret (results_tmp4 rfl _ _ _) rfl ?_
            exact HU.out _ _ _ _ _ (.inl ⟨rfl, HH.out, HN.out⟩) R.out.2.drew
    · have HE : Hid (∀ m a b : Int, betB w h v u m a b = false) := nohit_all (by omega) HN.out
      go_wp2_with fail
      refine bodyPost_ret (results_tmp4 rfl _ _ _) rfl ?_
      exact HU.out _ _ _ _ _ (.inr ⟨rfl, rfl, rfl, rfl, HE.out⟩) hbl
end Go.Proofs.Ytnkehfhedjdhaaa

/-! Box -/
namespace Go.Proofs.Ytnkehfhedjdhaaa
open Go.RowKit

def minI (x y : Int) : Int := if y < x then y else x
def maxI (x y : Int) : Int := if x < y then y else x
theorem run_minI (w : World) (x y : Int) (ts : Array TypeId) (t : TypeId) : (Builtin.min_ ts t #[.int .i64 x, .int .i64 y]).run Try.prog w = .ok (.int .i64 (minI x y)) w := by
  simp [go_sem, minI]
theorem run_maxI (w : World) (x y : Int) (ts : Array TypeId) (t : TypeId) : (Builtin.max_ ts t #[.int .i64 x, .int .i64 y]).run Try.prog w = .ok (.int .i64 (maxI x y)) w := by
  simp [go_sem, maxI]
def boxStep (s : (Int × Int) × (Int × Int)) (p : Int × Int) : (Int × Int) × (Int × Int) := ((minI s.1.1 p.1, minI s.1.2 p.2), (maxI s.2.1 p.1, maxI s.2.2 p.2))
def boxTill (L : List (Int × Int)) : Nat → (Int × Int) × (Int × Int)
  | 0 => (gt L 0, gt L 0)
  | k + 1 => boxStep (boxTill L k) (gt L k)
def ptV (p : Int × Int) : Value := .agg #[.int .i64 p.1, .int .i64 p.2]
def boxR (L : List (Int × Int)) : Value := bif polyB L then .tuple #[ptV (boxTill L L.length).1, ptV (boxTill L L.length).2, .bool true] else .tuple #[ptV (0, 0), ptV (0, 0), .bool false]


set_option maxRecDepth 100000 in
set_option maxHeartbeats 4000000 in
theorem impl_box (A : Option Addr) (c : Nat) (L : List (Int × Int)) (w : World) (hA : PtsA w A L) (hL : L.length ≤ 1048576) :
    Calls Try.prog 141 #[.slice A L.length c] w fun e w' => e = .returned (boxR L) ∧ Below w.heap.size w w' := by
  have hb0 := below2 w (.cells #[.int .i64 0, .int .i64 0] 46) (.cells #[.int .i64 0, .int .i64 0] 46)
  have PC := Lib.hid (fun (W : World) (hb : Below w.heap.size w W) => impl_poly A c L W (ptsA_on hA hb) hL)
  have a1 := (at_new w 0 0 46).alloc (.cells #[.int .i64 0, .int .i64 0] 46)
  have a2 := at_new (w.alloc (.cells #[.int .i64 0, .int .i64 0] 46)) 0 0 46
  rw [size_alloc] at a2
  cases hp : polyB L
  · have HR : Hid (boxR L = .tuple #[.agg #[.int .i64 0, .int .i64 0], .agg #[.int .i64 0, .int .i64 0], .bool false]) := by
      show _ = _
      rw [boxR, hp]; rfl
    rw [hp] at PC
    clear hA
    go_enter Try.func141, Try.ntmps141
    go_wp2_with fail
    refine (PC.out _ hb0).mono ?_
    rintro e w1 ⟨rfl, hb1⟩
    have b1 := hb0.trans (hb1.mono hb0.size)
    have r1 := a1.step hb1
    have r2 := a2.step hb1
    have c1 := r1.c0; have c2 := r1.c1; have c3 := r2.c0; have c4 := r2.c1
    have f1 := at_frozen r1 0; have f2 := at_frozen r1 1; have f3 := at_frozen r2 0; have f4 := at_frozen r2 1
    have e1 := at_store1 (at_store r1 0 0) 0
    have e2 := at_set (at_set r2 (b := w.heap.size) (by omega) 0 (.int .i64 0)) (b := w.heap.size) (by omega) 1 (.int .i64 0)
    have e3 := at_store1 (at_store e2 0 0) 0
    have e4 := at_set (at_set e1 (b := w.heap.size + 1) (by omega) 0 (.int .i64 0)) (b := w.heap.size + 1) (by omega) 1 (.int .i64 0)
    have q1 := e2.c0; have q2 := e2.c1; have q3 := at_frozen e2 0; have q4 := at_frozen e2 1
    have d1 := e4.c0; have d2 := e4.c1; have d3 := e3.c0; have d4 := e3.c1
    have hsw : w.heap.size ≤ w.heap.size + 1 := Nat.le_succ _
    have bE := (((b1.setCell (p := ⟨w.heap.size, 0, none⟩) (Nat.le_refl _) (.int .i64 0)).setCell (p := ⟨w.heap.size, 1, none⟩) (Nat.le_refl _) (.int .i64 0)).setCell (p := ⟨w.heap.size + 1, 0, none⟩) hsw (.int .i64 0)).setCell (p := ⟨w.heap.size + 1, 1, none⟩) hsw (.int .i64 0)
    clear hb1 b1 r1 r2 e1 e2 e3 e4
    go_wp2_with fail
    exact bodyPost_ret (v := .tuple #[.agg #[.int .i64 0, .int .i64 0], .agg #[.int .i64 0, .int .i64 0], .bool false]) (by simp [results, Try.results141, go_sem, d1, d2, d3, d4]) rfl ⟨by rw [HR.out], bE⟩
  · obtain ⟨h3, h10, hok⟩ := polyB_all hp
    obtain ⟨g, rfl, -⟩ := hA 0 (by omega)
    have hmin : ∀ (w : World) (x y : Int) (ts : Array TypeId) (t : TypeId), (Builtin.min_ ts t #[.int .i64 x, .int .i64 y]).run Try.prog w = .ok (.int .i64 (minI x y)) w := run_minI
    have hmax : ∀ (w : World) (x y : Int) (ts : Array TypeId) (t : TypeId), (Builtin.max_ ts t #[.int .i64 x, .int .i64 y]).run Try.prog w = .ok (.int .i64 (maxI x y)) w := run_maxI
    have HR : Hid (boxR L = .tuple #[ptV (boxTill L L.length).1, ptV (boxTill L L.length).2, .bool true]) := by
      show _ = _
      rw [boxR, hp]; rfl
    rw [hp] at PC
    go_enter Try.func141, Try.ntmps141
    go_wp2_with fail
    refine (PC.out _ hb0).mono ?_
    rintro e w1 ⟨rfl, hb1⟩
    have b1 := hb0.trans (hb1.mono hb0.size)
    have hs1 : w.heap.size + 2 ≤ w1.heap.size := by have := hb1.size; simp at this; omega
    have r1 := a1.step hb1
    have r2 := a2.step hb1
    have HA := Lib.hid (ptsA_on hA b1)
    obtain ⟨c1, c2⟩ := gt_cells HA.out (i := 0) (by omega)
    simp only [Nat.zero_mul, Nat.zero_add] at c1 c2
    obtain ⟨X, hX⟩ : ∃ X, X = (gt L 0).1 := ⟨_, rfl⟩
    obtain ⟨Y, hY⟩ : ∃ Y, Y = (gt L 0).2 := ⟨_, rfl⟩
    have H0 : Hid (boxTill L 0 = ((X, Y), (X, Y))) := by
      show _ = _
      rw [hX, hY]; rfl
    rw [← hX] at c1; rw [← hY] at c2
    have d1 := cell_on (below1 w1 (.cells #[.int .i64 X, .int .i64 Y] 46)) rfl c1
    have d2 := cell_on (below1 w1 (.cells #[.int .i64 X, .int .i64 Y] 46)) rfl c2
    have hn1 : (0 : Int) < (L.length : Int) := by omega
    have m1 := fun o => cell_on (below1 w1 o) rfl c1
    have m2 := fun o => cell_on (below1 w1 o) rfl c2
    have m3 := fun o p => cell_on (below2 w1 o p) rfl c1
    have m4 := fun o p => cell_on (below2 w1 o p) rfl c2
    clear hX hY hA hb1 hb0 a1 a2 PC d1 d2
    go_wp2_with fail
    go_region
    · go_wp2_with fail
      obtain ⟨W, hW⟩ : ∃ W, W = ((w1.alloc (.cells #[.int .i64 X, .int .i64 Y] 46)).alloc (.cells #[.int .i64 X, .int .i64 Y] 46)).drew := ⟨_, rfl⟩
      have aL : At W (w1.heap.size) X Y 46 := by rw [hW]; exact (at_new w1 X Y 46).alloc _
      have aH : At W (w1.heap.size + 1) X Y 46 := by rw [hW]; have := at_new (w1.alloc (.cells #[.int .i64 X, .int .i64 Y] 46)) X Y 46; rwa [size_alloc] at this
      have z3 : At W w.heap.size 0 0 46 := by rw [hW]; exact (r1.alloc _).alloc _
      have z4 : At W (w.heap.size + 1) 0 0 46 := by rw [hW]; exact (r2.alloc _).alloc _
      have b3 : Below w.heap.size w W := by rw [hW]; exact (b1.trans ((below2 w1 _ _).mono (by omega))).drew
      have b13 : Below w1.heap.size w1 W := by rw [hW]; exact (below2 w1 _ _).drew
      rw [← hW]
      clear hW c1 c2 r1 r2 b1 m1 m2 m3 m4
      go_loopw [22] (fun i wr => ∃ k : Nat, k ≤ L.length ∧ i = .int .i64 k ∧ At wr (w1.heap.size) (boxTill L k).1.1 (boxTill L k).1.2 46 ∧ At wr (w1.heap.size + 1) (boxTill L k).2.1 (boxTill L k).2.2 46 ∧ At wr w.heap.size 0 0 46 ∧ At wr (w.heap.size + 1) 0 0 46 ∧ Below w.heap.size w wr ∧ Below w1.heap.size w1 wr) (fun i _ => L.length - (intOf i).toNat)
      case atStart => exact ⟨0, Nat.zero_le _, rfl, by rw [H0.out]; exact aL, by rw [H0.out]; exact aH, z3, z4, b3, b13⟩
      case round =>
        clear aL aH z3 z4 b3 b13
        obtain ⟨k, hk, rfl, aL, aH, z3, z4, b3, b13⟩ := hrel
        by_cases hlt : k < L.length
        · obtain ⟨c1, c2⟩ := gt_cells (ptsA_on HA.out b13) hlt
          have HS : Hid (boxTill L (k + 1) = boxStep (boxTill L k) (gt L k)) := rfl
          have hsk := b13.size
          obtain ⟨x, hx⟩ : ∃ x, x = (gt L k).1 := ⟨_, rfl⟩
          obtain ⟨y, hy⟩ : ∃ y, y = (gt L k).2 := ⟨_, rfl⟩
          obtain ⟨lx, hlx⟩ : ∃ lx, lx = (boxTill L k).1.1 := ⟨_, rfl⟩
          obtain ⟨ly, hly⟩ : ∃ ly, ly = (boxTill L k).1.2 := ⟨_, rfl⟩
          obtain ⟨hx', hhx⟩ : ∃ hx', hx' = (boxTill L k).2.1 := ⟨_, rfl⟩
          obtain ⟨hy', hhy⟩ : ∃ hy', hy' = (boxTill L k).2.2 := ⟨_, rfl⟩
          have HT : Hid (boxTill L (k + 1) = ((minI lx x, minI ly y), (maxI hx' x, maxI hy' y))) := by
            show _ = _
            rw [HS.out, hx, hy, hlx, hly, hhx, hhy]; rfl
          rw [← hx] at c1; rw [← hy] at c2; rw [← hlx, ← hly] at aL; rw [← hhx, ← hhy] at aH
          clear hx hy hlx hly hhx hhy HS
          have hl1 := aL.lt
          have hl2 := aH.lt
          have a0 := at_new wr x y 46
          have aL1 := aL.alloc (.cells #[.int .i64 x, .int .i64 y] 46)
          have aH1 := aH.alloc (.cells #[.int .i64 x, .int .i64 y] 46)
          have y3 := z3.alloc (.cells #[.int .i64 x, .int .i64 y] 46)
          have y4 := z4.alloc (.cells #[.int .i64 x, .int .i64 y] 46)
          have bb := b3.alloc b3.size (.cells #[.int .i64 x, .int .i64 y] 46)
          have bb13 := b13.alloc hsk (.cells #[.int .i64 x, .int .i64 y] 46)
          have l1 := aL1.c0; have l2 := aL1.c1; have p1 := a0.c0; have p2 := a0.c1
          have g1 := at_frozen aL1 0; have g2 := at_frozen aL1 1
          have aL2 := at_store1 (at_store aL1 (minI lx x) 0) (minI ly y)
          have aH2 := at_set (at_set aH1 (b := w1.heap.size) (by omega) 0 (.int .i64 (minI lx x))) (b := w1.heap.size) (by omega) 1 (.int .i64 (minI ly y))
          have a02 := at_set (at_set a0 (b := w1.heap.size) (by omega) 0 (.int .i64 (minI lx x))) (b := w1.heap.size) (by omega) 1 (.int .i64 (minI ly y))
          have l3 := (at_store aL1 (minI lx x) 0).c1
          have h1 := aH2.c0; have h2 := aH2.c1; have p3 := a02.c0; have p4 := a02.c1
          have g3 := at_frozen aH2 0; have g4 := at_frozen aH2 1
          have h4 := (at_store aH2 (maxI hx' x) 0).c1
          have aH3 := at_store1 (at_store aH2 (maxI hx' x) 0) (maxI hy' y)
          have aL3 := at_set (at_set aL2 (b := w1.heap.size + 1) (by omega) 0 (.int .i64 (maxI hx' x))) (b := w1.heap.size + 1) (by omega) 1 (.int .i64 (maxI hy' y))
          have y3' := at_set (at_set (at_set (at_set y3 (b := w1.heap.size) (by omega) 0 (.int .i64 (minI lx x))) (b := w1.heap.size) (by omega) 1 (.int .i64 (minI ly y))) (b := w1.heap.size + 1) (by omega) 0 (.int .i64 (maxI hx' x))) (b := w1.heap.size + 1) (by omega) 1 (.int .i64 (maxI hy' y))
          have y4' := at_set (at_set (at_set (at_set y4 (b := w1.heap.size) (by omega) 0 (.int .i64 (minI lx x))) (b := w1.heap.size) (by omega) 1 (.int .i64 (minI ly y))) (b := w1.heap.size + 1) (by omega) 0 (.int .i64 (maxI hx' x))) (b := w1.heap.size + 1) (by omega) 1 (.int .i64 (maxI hy' y))
          have hle1 : w.heap.size ≤ w1.heap.size := by omega
          have hle2 : w.heap.size ≤ w1.heap.size + 1 := by omega
          have hle3 : w1.heap.size ≤ w1.heap.size := by omega
          have hle4 : w1.heap.size ≤ w1.heap.size + 1 := by omega
          have bb' := (((bb.setCell (p := ⟨w1.heap.size, 0, none⟩) hle1 (.int .i64 (minI lx x))).setCell (p := ⟨w1.heap.size, 1, none⟩) hle1 (.int .i64 (minI ly y))).setCell (p := ⟨w1.heap.size + 1, 0, none⟩) hle2 (.int .i64 (maxI hx' x))).setCell (p := ⟨w1.heap.size + 1, 1, none⟩) hle2 (.int .i64 (maxI hy' y))
          have bb13' := (((bb13.setCell (p := ⟨w1.heap.size, 0, none⟩) hle3 (.int .i64 (minI lx x))).setCell (p := ⟨w1.heap.size, 1, none⟩) hle3 (.int .i64 (minI ly y))).setCell (p := ⟨w1.heap.size + 1, 0, none⟩) hle4 (.int .i64 (maxI hx' x))).setCell (p := ⟨w1.heap.size + 1, 1, none⟩) hle4 (.int .i64 (maxI hy' y))
          have R := Lib.hid (And.intro aL3 (And.intro aH3 (And.intro y3' (And.intro y4' (And.intro bb' bb13')))))
          have d1 := cell_on (below1 wr (.cells #[.int .i64 x, .int .i64 y] 46)) rfl c1
          have d2 := cell_on (below1 wr (.cells #[.int .i64 x, .int .i64 y] 46)) rfl c2
          clear aL aH z3 z4 b3 b13 aL1 aH1 y3 y4 bb bb13 aL2 aH2 a02 aH3 aL3 y3' y4' bb' bb13' a0 hl1 hl2 hle1 hle2 hle3 hle4
          go_wp2_with fail
          go_roundw
          case rel => exact ⟨k + 1, by omega, by go_num, by rw [HT.out]; exact R.out.1, by rw [HT.out]; exact R.out.2.1, R.out.2.2.1, R.out.2.2.2.1, R.out.2.2.2.2.1, R.out.2.2.2.2.2⟩
          case measure => simp [intOf]; omega
        · obtain rfl : k = L.length := by omega
          obtain ⟨lx, hlx⟩ : ∃ lx, lx = (boxTill L L.length).1.1 := ⟨_, rfl⟩
          obtain ⟨ly, hly⟩ : ∃ ly, ly = (boxTill L L.length).1.2 := ⟨_, rfl⟩
          obtain ⟨hx', hhx⟩ : ∃ hx', hx' = (boxTill L L.length).2.1 := ⟨_, rfl⟩
          obtain ⟨hy', hhy⟩ : ∃ hy', hy' = (boxTill L L.length).2.2 := ⟨_, rfl⟩
          have HT : Hid (boxR L = .tuple #[.agg #[.int .i64 lx, .int .i64 ly], .agg #[.int .i64 hx', .int .i64 hy'], .bool true]) := by
            show _ = _
            rw [HR.out, hlx, hly, hhx, hhy]; rfl
          rw [← hlx, ← hly] at aL; rw [← hhx, ← hhy] at aH
          clear hlx hly hhx hhy
          have l1 := aL.c0; have l2 := aL.c1; have h1 := aH.c0; have h2 := aH.c1
          have f1 := at_frozen z3 0; have f2 := at_frozen z3 1; have f3 := at_frozen z4 0; have f4 := at_frozen z4 1
          have v1 := z3.c0; have v2 := z3.c1; have v3 := z4.c0; have v4 := z4.c1
          have v5 := (at_store z3 lx 0).c1
          have e1 := at_store1 (at_store z3 lx 0) ly
          have e2 := at_set (at_set z4 (b := w.heap.size) (by omega) 0 (.int .i64 lx)) (b := w.heap.size) (by omega) 1 (.int .i64 ly)
          have q1 := e2.c0; have q2 := e2.c1; have q3 := at_frozen e2 0; have q4 := at_frozen e2 1
          have q5 := (at_store e2 hx' 0).c1
          have e3 := at_store1 (at_store e2 hx' 0) hy'
          have e4 := at_set (at_set e1 (b := w.heap.size + 1) (by omega) 0 (.int .i64 hx')) (b := w.heap.size + 1) (by omega) 1 (.int .i64 hy')
          have d1 := e4.c0; have d2 := e4.c1; have d3 := e3.c0; have d4 := e3.c1
          have hsw : w.heap.size ≤ w.heap.size + 1 := Nat.le_succ _
          have bE := (((b3.setCell (p := ⟨w.heap.size, 0, none⟩) (Nat.le_refl _) (.int .i64 lx)).setCell (p := ⟨w.heap.size, 1, none⟩) (Nat.le_refl _) (.int .i64 ly)).setCell (p := ⟨w.heap.size + 1, 0, none⟩) hsw (.int .i64 hx')).setCell (p := ⟨w.heap.size + 1, 1, none⟩) hsw (.int .i64 hy')
          have R := Lib.hid (And.intro bE.drew (And.intro e3 e4))
          clear aL aH z3 z4 b3 b13 e1 e2 e3 e4 bE HR
          go_wp2_with fail
          go_region
          go_wp2_with fail
          exact bodyPost_ret (v := .tuple #[.agg #[.int .i64 lx, .int .i64 ly], .agg #[.int .i64 hx', .int .i64 hy'], .bool true]) (by simp [results, Try.results141, go_sem, d1, d2, d3, d4]) rfl ⟨by rw [HT.out], R.out.1⟩
    · go_wp2_with fail
      obtain ⟨W, hW⟩ : ∃ W, W = ((w1.alloc (.cells #[.int .i64 X, .int .i64 Y] 46)).alloc (.cells #[.int .i64 X, .int .i64 Y] 46)).drew := ⟨_, rfl⟩
      have aL : At W (w1.heap.size + 1) X Y 46 := by rw [hW]; have := at_new (w1.alloc (.cells #[.int .i64 X, .int .i64 Y] 46)) X Y 46; rwa [size_alloc] at this
      have aH : At W (w1.heap.size) X Y 46 := by rw [hW]; exact (at_new w1 X Y 46).alloc _
      have z3 : At W w.heap.size 0 0 46 := by rw [hW]; exact (r1.alloc _).alloc _
      have z4 : At W (w.heap.size + 1) 0 0 46 := by rw [hW]; exact (r2.alloc _).alloc _
      have b3 : Below w.heap.size w W := by rw [hW]; exact (b1.trans ((below2 w1 _ _).mono (by omega))).drew
      have b13 : Below w1.heap.size w1 W := by rw [hW]; exact (below2 w1 _ _).drew
      rw [← hW]
      clear hW c1 c2 r1 r2 b1 m1 m2 m3 m4
      go_loopw [22] (fun i wr => ∃ k : Nat, k ≤ L.length ∧ i = .int .i64 k ∧ At wr (w1.heap.size + 1) (boxTill L k).1.1 (boxTill L k).1.2 46 ∧ At wr (w1.heap.size) (boxTill L k).2.1 (boxTill L k).2.2 46 ∧ At wr w.heap.size 0 0 46 ∧ At wr (w.heap.size + 1) 0 0 46 ∧ Below w.heap.size w wr ∧ Below w1.heap.size w1 wr) (fun i _ => L.length - (intOf i).toNat)
      case atStart => exact ⟨0, Nat.zero_le _, rfl, by rw [H0.out]; exact aL, by rw [H0.out]; exact aH, z3, z4, b3, b13⟩
      case round =>
        clear aL aH z3 z4 b3 b13
        obtain ⟨k, hk, rfl, aL, aH, z3, z4, b3, b13⟩ := hrel
        by_cases hlt : k < L.length
        · obtain ⟨c1, c2⟩ := gt_cells (ptsA_on HA.out b13) hlt
          have HS : Hid (boxTill L (k + 1) = boxStep (boxTill L k) (gt L k)) := rfl
          have hsk := b13.size
          obtain ⟨x, hx⟩ : ∃ x, x = (gt L k).1 := ⟨_, rfl⟩
          obtain ⟨y, hy⟩ : ∃ y, y = (gt L k).2 := ⟨_, rfl⟩
          obtain ⟨lx, hlx⟩ : ∃ lx, lx = (boxTill L k).1.1 := ⟨_, rfl⟩
          obtain ⟨ly, hly⟩ : ∃ ly, ly = (boxTill L k).1.2 := ⟨_, rfl⟩
          obtain ⟨hx', hhx⟩ : ∃ hx', hx' = (boxTill L k).2.1 := ⟨_, rfl⟩
          obtain ⟨hy', hhy⟩ : ∃ hy', hy' = (boxTill L k).2.2 := ⟨_, rfl⟩
          have HT : Hid (boxTill L (k + 1) = ((minI lx x, minI ly y), (maxI hx' x, maxI hy' y))) := by
            show _ = _
            rw [HS.out, hx, hy, hlx, hly, hhx, hhy]; rfl
          rw [← hx] at c1; rw [← hy] at c2; rw [← hlx, ← hly] at aL; rw [← hhx, ← hhy] at aH
          clear hx hy hlx hly hhx hhy HS
          have hl1 := aL.lt
          have hl2 := aH.lt
          have a0 := at_new wr x y 46
          have aL1 := aL.alloc (.cells #[.int .i64 x, .int .i64 y] 46)
          have aH1 := aH.alloc (.cells #[.int .i64 x, .int .i64 y] 46)
          have y3 := z3.alloc (.cells #[.int .i64 x, .int .i64 y] 46)
          have y4 := z4.alloc (.cells #[.int .i64 x, .int .i64 y] 46)
          have bb := b3.alloc b3.size (.cells #[.int .i64 x, .int .i64 y] 46)
          have bb13 := b13.alloc hsk (.cells #[.int .i64 x, .int .i64 y] 46)
          have l1 := aL1.c0; have l2 := aL1.c1; have p1 := a0.c0; have p2 := a0.c1
          have g1 := at_frozen aL1 0; have g2 := at_frozen aL1 1
          have aL2 := at_store1 (at_store aL1 (minI lx x) 0) (minI ly y)
          have aH2 := at_set (at_set aH1 (b := w1.heap.size + 1) (by omega) 0 (.int .i64 (minI lx x))) (b := w1.heap.size + 1) (by omega) 1 (.int .i64 (minI ly y))
          have a02 := at_set (at_set a0 (b := w1.heap.size + 1) (by omega) 0 (.int .i64 (minI lx x))) (b := w1.heap.size + 1) (by omega) 1 (.int .i64 (minI ly y))
          have l3 := (at_store aL1 (minI lx x) 0).c1
          have h1 := aH2.c0; have h2 := aH2.c1; have p3 := a02.c0; have p4 := a02.c1
          have g3 := at_frozen aH2 0; have g4 := at_frozen aH2 1
          have h4 := (at_store aH2 (maxI hx' x) 0).c1
          have aH3 := at_store1 (at_store aH2 (maxI hx' x) 0) (maxI hy' y)
          have aL3 := at_set (at_set aL2 (b := w1.heap.size) (by omega) 0 (.int .i64 (maxI hx' x))) (b := w1.heap.size) (by omega) 1 (.int .i64 (maxI hy' y))
          have y3' := at_set (at_set (at_set (at_set y3 (b := w1.heap.size + 1) (by omega) 0 (.int .i64 (minI lx x))) (b := w1.heap.size + 1) (by omega) 1 (.int .i64 (minI ly y))) (b := w1.heap.size) (by omega) 0 (.int .i64 (maxI hx' x))) (b := w1.heap.size) (by omega) 1 (.int .i64 (maxI hy' y))
          have y4' := at_set (at_set (at_set (at_set y4 (b := w1.heap.size + 1) (by omega) 0 (.int .i64 (minI lx x))) (b := w1.heap.size + 1) (by omega) 1 (.int .i64 (minI ly y))) (b := w1.heap.size) (by omega) 0 (.int .i64 (maxI hx' x))) (b := w1.heap.size) (by omega) 1 (.int .i64 (maxI hy' y))
          have hle1 : w.heap.size ≤ w1.heap.size + 1 := by omega
          have hle2 : w.heap.size ≤ w1.heap.size := by omega
          have hle3 : w1.heap.size ≤ w1.heap.size + 1 := by omega
          have hle4 : w1.heap.size ≤ w1.heap.size := by omega
          have bb' := (((bb.setCell (p := ⟨w1.heap.size + 1, 0, none⟩) hle1 (.int .i64 (minI lx x))).setCell (p := ⟨w1.heap.size + 1, 1, none⟩) hle1 (.int .i64 (minI ly y))).setCell (p := ⟨w1.heap.size, 0, none⟩) hle2 (.int .i64 (maxI hx' x))).setCell (p := ⟨w1.heap.size, 1, none⟩) hle2 (.int .i64 (maxI hy' y))
          have bb13' := (((bb13.setCell (p := ⟨w1.heap.size + 1, 0, none⟩) hle3 (.int .i64 (minI lx x))).setCell (p := ⟨w1.heap.size + 1, 1, none⟩) hle3 (.int .i64 (minI ly y))).setCell (p := ⟨w1.heap.size, 0, none⟩) hle4 (.int .i64 (maxI hx' x))).setCell (p := ⟨w1.heap.size, 1, none⟩) hle4 (.int .i64 (maxI hy' y))
          have R := Lib.hid (And.intro aL3 (And.intro aH3 (And.intro y3' (And.intro y4' (And.intro bb' bb13')))))
          have d1 := cell_on (below1 wr (.cells #[.int .i64 x, .int .i64 y] 46)) rfl c1
          have d2 := cell_on (below1 wr (.cells #[.int .i64 x, .int .i64 y] 46)) rfl c2
          clear aL aH z3 z4 b3 b13 aL1 aH1 y3 y4 bb bb13 aL2 aH2 a02 aH3 aL3 y3' y4' bb' bb13' a0 hl1 hl2 hle1 hle2 hle3 hle4
          go_wp2_with fail
          go_roundw
          case rel => exact ⟨k + 1, by omega, by go_num, by rw [HT.out]; exact R.out.1, by rw [HT.out]; exact R.out.2.1, R.out.2.2.1, R.out.2.2.2.1, R.out.2.2.2.2.1, R.out.2.2.2.2.2⟩
          case measure => simp [intOf]; omega
        · obtain rfl : k = L.length := by omega
          obtain ⟨lx, hlx⟩ : ∃ lx, lx = (boxTill L L.length).1.1 := ⟨_, rfl⟩
          obtain ⟨ly, hly⟩ : ∃ ly, ly = (boxTill L L.length).1.2 := ⟨_, rfl⟩
          obtain ⟨hx', hhx⟩ : ∃ hx', hx' = (boxTill L L.length).2.1 := ⟨_, rfl⟩
          obtain ⟨hy', hhy⟩ : ∃ hy', hy' = (boxTill L L.length).2.2 := ⟨_, rfl⟩
          have HT : Hid (boxR L = .tuple #[.agg #[.int .i64 lx, .int .i64 ly], .agg #[.int .i64 hx', .int .i64 hy'], .bool true]) := by
            show _ = _
            rw [HR.out, hlx, hly, hhx, hhy]; rfl
          rw [← hlx, ← hly] at aL; rw [← hhx, ← hhy] at aH
          clear hlx hly hhx hhy
          have l1 := aL.c0; have l2 := aL.c1; have h1 := aH.c0; have h2 := aH.c1
          have f1 := at_frozen z3 0; have f2 := at_frozen z3 1; have f3 := at_frozen z4 0; have f4 := at_frozen z4 1
          have v1 := z3.c0; have v2 := z3.c1; have v3 := z4.c0; have v4 := z4.c1
          have v5 := (at_store z3 lx 0).c1
          have e1 := at_store1 (at_store z3 lx 0) ly
          have e2 := at_set (at_set z4 (b := w.heap.size) (by omega) 0 (.int .i64 lx)) (b := w.heap.size) (by omega) 1 (.int .i64 ly)
          have q1 := e2.c0; have q2 := e2.c1; have q3 := at_frozen e2 0; have q4 := at_frozen e2 1
          have q5 := (at_store e2 hx' 0).c1
          have e3 := at_store1 (at_store e2 hx' 0) hy'
          have e4 := at_set (at_set e1 (b := w.heap.size + 1) (by omega) 0 (.int .i64 hx')) (b := w.heap.size + 1) (by omega) 1 (.int .i64 hy')
          have d1 := e4.c0; have d2 := e4.c1; have d3 := e3.c0; have d4 := e3.c1
          have hsw : w.heap.size ≤ w.heap.size + 1 := Nat.le_succ _
          have bE := (((b3.setCell (p := ⟨w.heap.size, 0, none⟩) (Nat.le_refl _) (.int .i64 lx)).setCell (p := ⟨w.heap.size, 1, none⟩) (Nat.le_refl _) (.int .i64 ly)).setCell (p := ⟨w.heap.size + 1, 0, none⟩) hsw (.int .i64 hx')).setCell (p := ⟨w.heap.size + 1, 1, none⟩) hsw (.int .i64 hy')
          have R := Lib.hid (And.intro bE.drew (And.intro e3 e4))
          clear aL aH z3 z4 b3 b13 e1 e2 e3 e4 bE HR
          go_wp2_with fail
          go_region
          go_wp2_with fail
          exact bodyPost_ret (v := .tuple #[.agg #[.int .i64 lx, .int .i64 ly], .agg #[.int .i64 hx', .int .i64 hy'], .bool true]) (by simp [results, Try.results141, go_sem, d1, d2, d3, d4]) rfl ⟨by rw [HT.out], R.out.1⟩
end Go.Proofs.Ytnkehfhedjdhaaa

/-! Mot -/
namespace Go.Proofs.Ytnkehfhedjdhaaa
open Go.RowKit

def mot (m : Nat) (p : Int × Int) : Int × Int :=
  match m with
  | 0 => p
  | 1 => (-p.2, p.1)
  | 2 => (-p.1, -p.2)
  | 3 => (p.2, -p.1)
  | 4 => (-p.1, p.2)
  | 5 => (-p.2, -p.1)
  | 6 => (p.1, -p.2)
  | _ => (p.2, p.1)
def turnT : Nat → Int × Int → Int × Int
  | 0, p => p
  | k + 1, p => (-(turnT k p).2, (turnT k p).1)
def mirr (m : Nat) (p : Int × Int) : Int × Int := if 4 ≤ m then (-p.1, p.2) else p
theorem mot_turn {m : Nat} (hm : m < 8) (p : Int × Int) : turnT (m % 4) (mirr m p) = mot m p := by
  match m, hm with
  | 0, _ => simp [turnT, mirr, mot]
  | 1, _ => simp [turnT, mirr, mot]
  | 2, _ => simp [turnT, mirr, mot]
  | 3, _ => simp [turnT, mirr, mot]
  | 4, _ => simp [turnT, mirr, mot]
  | 5, _ => simp [turnT, mirr, mot]
  | 6, _ => simp [turnT, mirr, mot]
  | 7, _ => simp [turnT, mirr, mot]
  | k + 8, h => omega
theorem turnT_bd {B : Int} {p : Int × Int} (h : -B ≤ p.1 ∧ p.1 ≤ B ∧ -B ≤ p.2 ∧ p.2 ≤ B) : ∀ k, -B ≤ (turnT k p).1 ∧ (turnT k p).1 ≤ B ∧ -B ≤ (turnT k p).2 ∧ (turnT k p).2 ≤ B
  | 0 => h
  | k + 1 => by have := turnT_bd h k; simp only [turnT]; omega
theorem mirr_bd {B : Int} {p : Int × Int} (m : Nat) (h : -B ≤ p.1 ∧ p.1 ≤ B ∧ -B ≤ p.2 ∧ p.2 ≤ B) : -B ≤ (mirr m p).1 ∧ (mirr m p).1 ≤ B ∧ -B ≤ (mirr m p).2 ∧ (mirr m p).2 ≤ B := by
  unfold mirr; split
  · simp only; omega
  · exact h
theorem mot_bd {B : Int} {p : Int × Int} {m : Nat} (hm : m < 8) (h : -B ≤ p.1 ∧ p.1 ≤ B ∧ -B ≤ p.2 ∧ p.2 ≤ B) : -B ≤ (mot m p).1 ∧ (mot m p).1 ≤ B ∧ -B ≤ (mot m p).2 ∧ (mot m p).2 ≤ B := by
  rw [← mot_turn hm]; exact turnT_bd (mirr_bd m h) _

end Go.Proofs.Ytnkehfhedjdhaaa

/-! Cyc -/
namespace Go.Proofs.Ytnkehfhedjdhaaa

/-- A point at a fraction of the way. -/
theorem frac_bt {m q b e f : Int} (hm : 0 < m) (h0 : 0 ≤ q) (h1 : q ≤ m) (h : m * (b - e) = q * (f - e)) : bt e f b := by
  rcases Int.le_total e f with hf | hf
  · left
    have a1 : 0 ≤ q * (f - e) := Int.mul_nonneg h0 (by omega)
    have a2 : q * (f - e) ≤ m * (f - e) := Int.mul_le_mul_of_nonneg_right h1 (by omega)
    rw [← h] at a1 a2
    constructor
    · have := Int.le_of_mul_le_mul_left (a := m) (b := 0) (c := b - e) (by omega) hm; omega
    · have := Int.le_of_mul_le_mul_left a2 hm; omega
  · right
    have a1 : 0 ≤ q * (e - f) := Int.mul_nonneg h0 (by omega)
    have a2 : q * (e - f) ≤ m * (e - f) := Int.mul_le_mul_of_nonneg_right h1 (by omega)
    have e1 : q * (e - f) = m * (e - b) := by grind
    rw [e1] at a1 a2
    constructor
    · have := Int.le_of_mul_le_mul_left a2 hm; omega
    · have := Int.le_of_mul_le_mul_left (a := m) (b := 0) (c := e - b) (by omega) hm; omega
/-- b is at q / (p + q) of the way from a to c. -/
structure Wt (a c b : Int × Int) (p q : Int) : Prop where
  p0 : 0 ≤ p
  q0 : 0 ≤ q
  pq : 0 < p + q
  e1 : (p + q) * b.1 = p * a.1 + q * c.1
  e2 : (p + q) * b.2 = p * a.2 + q * c.2
theorem on_wt {a c b : Int × Int} (h : onP a c b = true) (hac : a ≠ c) : ∃ p q, Wt a c b p q := by
  obtain ⟨h1, h2, h3⟩ := (onP_iff _ _ _).1 h
  obtain ⟨ax, ay⟩ := a
  obtain ⟨bx, by'⟩ := b
  obtain ⟨cx, cy⟩ := c
  simp only [crossP, crossI] at h1 h2 h3
  have hne : ¬ (ax = cx ∧ ay = cy) := fun e => hac (by rw [e.1, e.2])
  unfold bt at h2 h3
  rcases Int.le_total ax cx with hx | hx <;> rcases Int.le_total ay cy with hy | hy
  · exact ⟨(cx - bx) + (cy - by'), (bx - ax) + (by' - ay), by omega, by omega, by omega, by grind, by grind⟩
  · exact ⟨(cx - bx) + (by' - cy), (bx - ax) + (ay - by'), by omega, by omega, by omega, by grind, by grind⟩
  · exact ⟨(bx - cx) + (cy - by'), (ax - bx) + (by' - ay), by omega, by omega, by omega, by grind, by grind⟩
  · exact ⟨(bx - cx) + (by' - cy), (ax - bx) + (ay - by'), by omega, by omega, by omega, by grind, by grind⟩
theorem Wt.ne_a {a c b : Int × Int} {p q : Int} (h : Wt a c b p q) (hb : b ≠ a) : 0 < q := by
  rcases Int.lt_or_eq_of_le h.q0 with h1 | h1
  · exact h1
  · exfalso
    subst h1
    have := h.pq
    have e1 := h.e1
    have e2 := h.e2
    simp only [Int.add_zero, Int.zero_mul] at e1 e2 this
    exact hb (Prod.ext (Int.eq_of_mul_eq_mul_left (by omega) e1) (Int.eq_of_mul_eq_mul_left (by omega) e2))
theorem Wt.ne_c {a c b : Int × Int} {p q : Int} (h : Wt a c b p q) (hb : b ≠ c) : 0 < p := by
  rcases Int.lt_or_eq_of_le h.p0 with h1 | h1
  · exact h1
  · exfalso
    subst h1
    have := h.pq
    have e1 := h.e1
    have e2 := h.e2
    simp only [Int.zero_add, Int.zero_mul] at e1 e2 this
    exact hb (Prod.ext (Int.eq_of_mul_eq_mul_left (by omega) e1) (Int.eq_of_mul_eq_mul_left (by omega) e2))
theorem Wt.cross3 {a c b : Int × Int} {p q : Int} (h : Wt a c b p q) (e f : Int × Int) : (p + q) * crossP e f b = p * crossP e f a + q * crossP e f c := by
  have e1 := h.e1
  have e2 := h.e2
  simp only [crossP, crossI]
  grind
theorem Wt.cross_ab {a c b : Int × Int} {p q : Int} (h : Wt a c b p q) (e : Int × Int) : (p + q) * crossP a b e = q * crossP a c e := by
  have e1 := h.e1
  have e2 := h.e2
  simp only [crossP, crossI]
  grind
theorem Wt.cross_bc {a c b : Int × Int} {p q : Int} (h : Wt a c b p q) (e : Int × Int) : (p + q) * crossP b c e = p * crossP a c e := by
  have e1 := h.e1
  have e2 := h.e2
  simp only [crossP, crossI]
  grind
theorem mul_zero_of {m x : Int} (hm : 0 < m) (h : m * x = 0) : x = 0 := by
  rcases Int.mul_eq_zero.1 h with h1 | h1
  · omega
  · exact h1
/-- What is on the whole is on one of the parts. -/
theorem on_part {a c b e : Int × Int} (hb : onP a c b = true) (he : onP a c e = true) : onP a b e = true ∨ onP b c e = true := by
  by_cases hac : a = c
  · subst hac
    left
    obtain ⟨_, h2, h3⟩ := (onP_iff _ _ _).1 he
    have : e = a := by unfold bt at h2 h3; exact Prod.ext (by omega) (by omega)
    rw [this]; exact on_left _ _
  obtain ⟨p, q, hw⟩ := on_wt hb hac
  obtain ⟨b1, b2, b3⟩ := (onP_iff _ _ _).1 hb
  obtain ⟨e1, e2, e3⟩ := (onP_iff _ _ _).1 he
  have c1 : crossP a b e = 0 := mul_zero_of hw.pq (by rw [hw.cross_ab, e1, Int.mul_zero])
  have c2 : crossP b c e = 0 := mul_zero_of hw.pq (by rw [hw.cross_bc, e1, Int.mul_zero])
  rcases on_line c1 with h | h | h
  · right
    obtain ⟨_, h2, h3⟩ := (onP_iff _ _ _).1 h
    exact (onP_iff _ _ _).2 ⟨c2, by unfold bt at *; omega, by unfold bt at *; omega⟩
  · obtain ⟨_, h2, h3⟩ := (onP_iff _ _ _).1 h
    have k1 : a.1 = b.1 ∨ a.1 = e.1 := by unfold bt at *; omega
    have k2 : a.2 = b.2 ∨ a.2 = e.2 := by unfold bt at *; omega
    have hba : b = a → onP b c e = true := fun h => by rw [h]; exact he
    have hea : e = a → onP a b e = true := fun h => by rw [h]; exact on_left _ _
    unfold crossP crossI at b1 e1
    rcases k1 with k1 | k1 <;> rcases k2 with k2 | k2
    · exact .inr (hba (Prod.ext k1.symm k2.symm))
    · have : (c.1 - a.1) * (b.2 - a.2) = 0 := by grind
      rcases Int.mul_eq_zero.1 this with h4 | h4
      · exact .inl (hea (Prod.ext (by unfold bt at *; omega) k2.symm))
      · exact .inr (hba (Prod.ext k1.symm (by omega)))
    · have : (c.2 - a.2) * (b.1 - a.1) = 0 := by grind
      rcases Int.mul_eq_zero.1 this with h4 | h4
      · exact .inl (hea (Prod.ext k1.symm (by unfold bt at *; omega)))
      · exact .inr (hba (Prod.ext (by omega) k2.symm))
    · exact .inl (hea (Prod.ext k1.symm k2.symm))
  · exact .inl h
/-- What is on a part is on the whole. -/
theorem on_whole {a c b e : Int × Int} (hac : a ≠ c) (hb : onP a c b = true) (he : onP a b e = true) : onP a c e = true := by
  by_cases hba : b = a
  · subst hba
    obtain ⟨_, h2, h3⟩ := (onP_iff _ _ _).1 he
    have : e = b := by unfold bt at h2 h3; exact Prod.ext (by omega) (by omega)
    rw [this]; exact on_left _ _
  obtain ⟨p, q, hw⟩ := on_wt hb hac
  have hq := hw.ne_a hba
  obtain ⟨b1, b2, b3⟩ := (onP_iff _ _ _).1 hb
  obtain ⟨e1, e2, e3⟩ := (onP_iff _ _ _).1 he
  have c1 : crossP a c e = 0 := mul_zero_of hq (by rw [← hw.cross_ab, e1, Int.mul_zero])
  exact (onP_iff _ _ _).2 ⟨c1, by unfold bt at *; omega, by unfold bt at *; omega⟩
theorem on_flip (a b p : Int × Int) : onP b a p = onP a b p := by
  rw [Bool.eq_iff_iff, onP_iff, onP_iff, crossP_flip]
  unfold bt
  constructor <;> (rintro ⟨h1, h2, h3⟩; exact ⟨by omega, by omega, by omega⟩)
theorem meet_zero {a b c d : Int × Int} : meetI a b c d = 0 ↔ (opp a b c d && opp c d a b) = false ∧ onP c d a = false ∧ onP c d b = false ∧ onP a b c = false ∧ onP a b d = false := by
  unfold meetI
  have hs : (sharedS a b c d).isEmpty = (!(onP c d a) && !(onP c d b) && !(onP a b c) && !(onP a b d)) := by
    simp only [sharedS, List.filter_cons, List.filter_nil]
    cases onP c d a <;> cases onP c d b <;> cases onP a b c <;> cases onP a b d <;> rfl
  cases opp a b c d && opp c d a b
  · rw [hs]
    cases onP c d a <;> cases onP c d b <;> cases onP a b c <;> cases onP a b d <;> simp
    all_goals (cases sameAll (sharedS a b c d) <;> simp)
  · simp
theorem sgn_tri (n : Int) : (0 < n ∧ sgn n = 1) ∨ (n = 0 ∧ sgn n = 0) ∨ (n < 0 ∧ sgn n = -1) := by
  unfold sgn
  rcases Int.lt_trichotomy n 0 with h | h | h
  · right; right; exact ⟨h, by rw [if_neg (by omega), if_pos h]⟩
  · right; left; exact ⟨h, by rw [if_neg (by omega), if_neg (by omega)]⟩
  · left; exact ⟨h, by rw [if_pos h]⟩
theorem opp_iff (a b c d : Int × Int) : opp a b c d = true ↔ (0 < crossP a b c ∧ crossP a b d < 0) ∨ (crossP a b c < 0 ∧ 0 < crossP a b d) := by
  unfold opp
  rw [decide_eq_true_eq]
  rcases sgn_tri (crossP a b c) with ⟨h1, h2⟩ | ⟨h1, h2⟩ | ⟨h1, h2⟩ <;> rcases sgn_tri (crossP a b d) with ⟨h3, h4⟩ | ⟨h3, h4⟩ | ⟨h3, h4⟩ <;> rw [h2, h4] <;> omega
/-- Lines that cross: their common point is on a segment whose ends are on both sides. -/
theorem on_crossing {a c e f b : Int × Int} (h1 : crossP a c b = 0) (h2 : crossP e f b = 0) (ho : opp a c e f = true) : onP e f b = true := by
  rw [onP_iff]
  refine ⟨h2, ?_, ?_⟩
  · rcases (opp_iff _ _ _ _).1 ho with ⟨k1, k2⟩ | ⟨k1, k2⟩
    · exact frac_bt (m := crossP a c e - crossP a c f) (q := crossP a c e) (by omega) (by omega) (by omega) (by unfold crossP crossI at *; grind)
    · exact frac_bt (m := crossP a c f - crossP a c e) (q := -crossP a c e) (by omega) (by omega) (by omega) (by unfold crossP crossI at *; grind)
  · rcases (opp_iff _ _ _ _).1 ho with ⟨k1, k2⟩ | ⟨k1, k2⟩
    · exact frac_bt (m := crossP a c e - crossP a c f) (q := crossP a c e) (by omega) (by omega) (by omega) (by unfold crossP crossI at *; grind)
    · exact frac_bt (m := crossP a c f - crossP a c e) (q := -crossP a c e) (by omega) (by omega) (by omega) (by unfold crossP crossI at *; grind)
theorem pos_of_mul {m x y q : Int} (hm : 0 < m) (hq : 0 < q) (h : m * x = q * y) : (0 < y → 0 < x) ∧ (y < 0 → x < 0) := by
  constructor
  · intro hy
    have : 0 < m * x := by rw [h]; exact Int.mul_pos hq hy
    rcases Int.lt_trichotomy x 0 with h1 | h1 | h1
    · have := Int.mul_neg_of_pos_of_neg hm h1; omega
    · rw [h1, Int.mul_zero] at this; omega
    · exact h1
  · intro hy
    have : m * x < 0 := by rw [h]; exact Int.mul_neg_of_pos_of_neg hq hy
    rcases Int.lt_trichotomy x 0 with h1 | h1 | h1
    · exact h1
    · rw [h1, Int.mul_zero] at this; omega
    · have := Int.mul_pos hm h1; omega
/-- **Two parts that a segment does not meet: the whole does not, either.** -/
theorem meet_merge {a c b e f : Int × Int} (hb : onP a c b = true) (hba : b ≠ a) (hbc : b ≠ c) (h1 : meetI a b e f = 0) (h2 : meetI b c e f = 0) : meetI a c e f = 0 := by
  have hac : a ≠ c := by
    intro h
    subst h
    obtain ⟨_, k2, k3⟩ := (onP_iff _ _ _).1 hb
    exact hba (by unfold bt at k2 k3; exact Prod.ext (by omega) (by omega))
  obtain ⟨p, q, hw⟩ := on_wt hb hac
  have hp := hw.ne_c hbc
  have hq := hw.ne_a hba
  obtain ⟨o1, x1, x2, x3, x4⟩ := meet_zero.1 h1
  obtain ⟨o2, y1, y2, y3, y4⟩ := meet_zero.1 h2
  rw [meet_zero]
  refine ⟨?_, x1, y2, ?_, ?_⟩
  · cases ho : (opp a c e f && opp e f a c)
    · rfl
    · exfalso
      rw [Bool.and_eq_true] at ho
      obtain ⟨k1, k2⟩ := ho
      have hB := hw.cross3 e f
      rw [Bool.and_eq_false_iff] at o1 o2
      have n1 : opp a b e f = true := by
        have g1 := pos_of_mul hw.pq hq (hw.cross_ab e)
        have g2 := pos_of_mul hw.pq hq (hw.cross_ab f)
        rw [opp_iff] at k1 ⊢
        rcases k1 with k1 | k1
        · exact .inl ⟨g1.1 k1.1, g2.2 k1.2⟩
        · exact .inr ⟨g1.2 k1.1, g2.1 k1.2⟩
      have n2 : opp b c e f = true := by
        have g1 := pos_of_mul hw.pq hp (hw.cross_bc e)
        have g2 := pos_of_mul hw.pq hp (hw.cross_bc f)
        rw [opp_iff] at k1 ⊢
        rcases k1 with k1 | k1
        · exact .inl ⟨g1.1 k1.1, g2.2 k1.2⟩
        · exact .inr ⟨g1.2 k1.1, g2.1 k1.2⟩
      have m1 : ¬ opp e f a b = true := fun h => by rcases o1 with o | o <;> simp_all
      have m2 : ¬ opp e f b c = true := fun h => by rcases o2 with o | o <;> simp_all
      rw [opp_iff] at m1 m2 k2
      have hz : crossP e f b = 0 := by omega
      have hcb : crossP a c b = 0 := ((onP_iff _ _ _).1 hb).1
      have := on_crossing hcb hz k1
      rw [this] at x2
      cases x2
  · cases h : onP a c e
    · rfl
    · rcases on_part hb h with h3 | h3
      · rw [x3] at h3; cases h3
      · rw [y3] at h3; cases h3
  · cases h : onP a c f
    · rfl
    · rcases on_part hb h with h3 | h3
      · rw [x4] at h3; cases h3
      · rw [y4] at h3; cases h3
end Go.Proofs.Ytnkehfhedjdhaaa

/-! Ring -/
namespace Go.Proofs.Ytnkehfhedjdhaaa
open Go.RowKit

abbrev Pt := Int × Int
def consec (l : List Pt) : List (Pt × Pt) := l.zip l.tail
def sidesL : List Pt → List (Pt × Pt)
  | [] => []
  | x :: xs => consec (x :: xs ++ [x])
def Good (L : List Pt) : Prop := (3 ≤ L.length ∧ L.length ≤ 10) ∧ allOk L = true ∧ L.Nodup ∧ ∀ s ∈ sidesL L, ∀ t ∈ sidesL L, s ≠ t →
  (s.2 = t.1 → onP t.1 t.2 s.1 = false ∧ onP s.1 s.2 t.2 = false) ∧ (s.2 ≠ t.1 → t.2 ≠ s.1 → meetI s.1 s.2 t.1 t.2 = 0)
theorem sides_eq (L : List Pt) : sidesL L = (List.range L.length).map fun i => (gt L i, gt L (nx L i)) := by
  cases L with
  | nil => rfl
  | cons x xs =>
    apply List.ext_getElem
    · simp [sidesL, consec]
    · intro i h1 h2
      have hi : i < xs.length + 1 := by simpa using h2
      have hn : nx (x :: xs) i = if i + 1 = xs.length + 1 then 0 else i + 1 := nx_eq (L := x :: xs) (by simpa using hi)
      simp only [sidesL, consec, List.getElem_zip, List.getElem_map, List.getElem_range, hn, List.cons_append, List.tail_cons]
      have e1 : (x :: (xs ++ [x]))[i]'(by simp; omega) = gt (x :: xs) i := by
        rw [gt_at (by simpa using hi)]
        cases i with
        | zero => rfl
        | succ i =>
          simp only [List.getElem_cons_succ]
          rw [List.getElem_append_left (by omega)]
      rw [e1]
      congr 1
      by_cases h : i + 1 = xs.length + 1
      · rw [if_pos h, List.getElem_append_right (by omega)]
        simp [gt]
      · rw [if_neg h, List.getElem_append_left (by omega), gt_at (by simp; omega)]
        rfl
theorem mem_sides {L : List Pt} {s : Pt × Pt} : s ∈ sidesL L ↔ ∃ i, i < L.length ∧ s = (gt L i, gt L (nx L i)) := by
  rw [sides_eq]
  simp only [List.mem_map, List.mem_range]
  constructor
  · rintro ⟨i, hi, rfl⟩; exact ⟨i, hi, rfl⟩
  · rintro ⟨i, hi, rfl⟩; exact ⟨i, hi, rfl⟩
theorem nodup_iff {L : List Pt} : L.Nodup ↔ ∀ i k, i < k → k < L.length → gt L i ≠ gt L k := by
  rw [List.nodup_iff_pairwise_ne, List.pairwise_iff_getElem]
  constructor
  · intro h i k hi hk
    rw [gt_at (by omega), gt_at hk]
    exact h i k (by omega) hk hi
  · intro h i k hi hk hik
    have := h i k hik hk
    rw [gt_at hi, gt_at hk] at this
    exact this
theorem gt_inj {L : List Pt} (h : L.Nodup) {i k : Nat} (hi : i < L.length) (hk : k < L.length) (e : gt L i = gt L k) : i = k := by
  rcases Nat.lt_trichotomy i k with h1 | h1 | h1
  · exact absurd e (nodup_iff.1 h i k h1 hk)
  · exact h1
  · exact absurd e.symm (nodup_iff.1 h k i h1 hi)
theorem touch_one {a b c : Pt} (h1 : onP b c a = false) (h2 : onP a b c = false) : meetI a b b c = 1 := by
  have ho : opp a b b c = false := by
    have : crossP a b b = 0 := by unfold crossP crossI; grind
    cases h : opp a b b c
    · rfl
    · rw [opp_iff] at h; omega
  have hs : sharedS a b b c = [b, b] := by
    simp only [sharedS, List.filter_cons, List.filter_nil, h1, h2, on_left, on_right]
    rfl
  unfold meetI
  rw [ho, hs, Bool.false_and]
  simp [sameAll]
theorem one_touch {a b c : Pt} (hab : a ≠ b) (hbc : b ≠ c) (h : meetI a b b c = 1) : onP b c a = false ∧ onP a b c = false := by
  have hb : b ∈ sharedS a b b c := mem_shared.2 (.inl ⟨.inr rfl, on_left b c⟩)
  constructor
  · cases h1 : onP b c a
    · rfl
    · exact absurd (meet_one h a b (mem_shared.2 (.inl ⟨.inl rfl, h1⟩)) hb) hab
  · cases h1 : onP a b c
    · rfl
    · exact absurd (meet_one h b c hb (mem_shared.2 (.inr ⟨.inr rfl, h1⟩))) hbc
theorem poly_good {L : List Pt} (h : polyB L = true) : Good L := by
  obtain ⟨hn, hok, hne, hp⟩ := polyB_spec h
  have hnd : L.Nodup := by
    rw [nodup_iff]
    intro i k hik hk e
    have h1 := hp i k hik hk
    have hs : meetI (gt L i) (gt L (nx L i)) (gt L k) (gt L (nx L k)) ≠ 0 := by
      intro h0
      obtain ⟨_, h2, _⟩ := meet_zero.1 h0
      rw [e, on_left] at h2
      cases h2
    have ha : adjB L.length i k = true := by
      cases ha : adjB L.length i k
      · rw [ha] at h1; exact absurd h1 hs
      · rfl
    simp only [adjB, Bool.or_eq_true, Bool.and_eq_true, beq_iff_eq] at ha
    rcases ha with ha | ha
    · have := hne i (by omega)
      rw [nx_eq (by omega), if_neg (by omega), ← ha] at this
      exact this e
    · have := hne k hk
      rw [nx_eq hk, if_pos (by omega), ← ha.1] at this
      exact this e.symm
  have key : ∀ i k, i < k → k < L.length → (meetI (gt L i) (gt L (nx L i)) (gt L k) (gt L (nx L k)) = if nx L i = k ∨ nx L k = i then 1 else 0) := by
    intro i k hik hk
    have h1 := hp i k hik hk
    unfold pairM at h1
    have e : adjB L.length i k = true ↔ (nx L i = k ∨ nx L k = i) := by
      rw [nx_eq (by omega), nx_eq hk]
      simp only [adjB, Bool.or_eq_true, Bool.and_eq_true, beq_iff_eq]
      rw [if_neg (by omega)]
      by_cases hl : k + 1 = L.length
      · rw [if_pos hl]; omega
      · rw [if_neg hl]; omega
    cases ha : adjB L.length i k
    · rw [ha] at h1
      rw [if_neg (fun h => by rw [e.2 h] at ha; cases ha)]
      exact h1
    · rw [ha] at h1
      rw [if_pos (e.1 ha)]
      exact h1
  have key2 : ∀ i k, i ≠ k → i < L.length → k < L.length → (meetI (gt L i) (gt L (nx L i)) (gt L k) (gt L (nx L k)) = if nx L i = k ∨ nx L k = i then 1 else 0) := by
    intro i k hik hi hk
    rcases Nat.lt_or_gt_of_ne hik with h1 | h1
    · exact key i k h1 hk
    · have := key k i h1 hi
      rw [meetI_swap, this]
      by_cases hc : nx L i = k ∨ nx L k = i
      · rw [if_pos hc, if_pos hc.symm]
      · rw [if_neg hc, if_neg (fun h => hc h.symm)]
  refine ⟨hn, hok, hnd, ?_⟩
  intro s hs t ht hst
  obtain ⟨i, hi, rfl⟩ := mem_sides.1 hs
  obtain ⟨k, hk, rfl⟩ := mem_sides.1 ht
  have hik : i ≠ k := fun e => hst (by rw [e])
  have hm := key2 i k hik hi hk
  constructor
  · intro e
    have e' : nx L i = k := gt_inj hnd (nx_lt (by omega) i) hk e
    rw [if_pos (.inl e'), e'] at hm
    show onP (gt L k) (gt L (nx L k)) (gt L i) = false ∧ onP (gt L i) (gt L (nx L i)) (gt L (nx L k)) = false
    rw [e']
    have h1 := hne i hi
    rw [e'] at h1
    exact one_touch h1 (hne k hk) hm
  · intro e1 e2
    rw [if_neg (fun h => by
      rcases h with h | h
      · exact e1 (congrArg (gt L) h)
      · exact e2 (congrArg (gt L) h))] at hm
    exact hm
theorem good_poly {L : List Pt} (h : Good L) : polyB L = true := by
  obtain ⟨hn, hok, hnd, hg⟩ := h
  have hin : inB (L.length : Int) 3 10 = true := inB_spec.2 (by omega)
  have hne : ∀ i, i < L.length → gt L i ≠ gt L (nx L i) := fun i hi e => by
    have := gt_inj hnd hi (nx_lt (by omega) i) e
    rw [nx_eq hi] at this
    by_cases hl : i + 1 = L.length
    · rw [if_pos hl] at this; omega
    · rw [if_neg hl] at this; omega
  have h1 : nbB L = true := nb_true (fun i hi => by
    cases he : eqQ (gt L i) (gt L ((i + 1) % L.length))
    · rfl
    · exact absurd ((eqQ_iff _ _).1 he) (hne i hi))
  have h2 : pairsB L = true := pairs_true (fun i hi k hik hk => by
    have hs : (gt L i, gt L (nx L i)) ∈ sidesL L := mem_sides.2 ⟨i, hi, rfl⟩
    have ht : (gt L k, gt L (nx L k)) ∈ sidesL L := mem_sides.2 ⟨k, hk, rfl⟩
    have hst : (gt L i, gt L (nx L i)) ≠ (gt L k, gt L (nx L k)) := fun e => by
      have := gt_inj hnd hi hk (Prod.ext_iff.1 e).1; omega
    have hg1 := hg _ hs _ ht hst
    have hg2 := hg _ ht _ hs (Ne.symm hst)
    have hm : meetI (gt L i) (gt L (nx L i)) (gt L k) (gt L (nx L k)) = if nx L i = k ∨ nx L k = i then 1 else 0 := by
      by_cases h1 : nx L i = k
      · rw [if_pos (.inl h1)]
        have := hg1.1 (congrArg (gt L) h1)
        simp only [h1] at this ⊢
        exact touch_one this.1 this.2
      · by_cases h2 : nx L k = i
        · rw [if_pos (.inr h2)]
          have := hg2.1 (congrArg (gt L) h2)
          rw [meetI_swap]
          simp only [h2] at this ⊢
          exact touch_one this.1 this.2
        · rw [if_neg (by rintro (h | h) <;> contradiction)]
          exact hg1.2 (fun e => h1 (gt_inj hnd (nx_lt (by omega) i) hk e)) (fun e => h2 (gt_inj hnd (nx_lt (by omega) k) hi e))
    have e : adjB L.length i k = true ↔ (nx L i = k ∨ nx L k = i) := by
      rw [nx_eq (by omega), nx_eq hk]
      simp only [adjB, Bool.or_eq_true, Bool.and_eq_true, beq_iff_eq]
      rw [if_neg (by omega)]
      by_cases hl : k + 1 = L.length
      · rw [if_pos hl]; omega
      · rw [if_neg hl]; omega
    unfold pairOk pairM
    rw [show (i + 1) % L.length = nx L i from rfl, show (k + 1) % L.length = nx L k from rfl, hm]
    cases ha : adjB L.length i k
    · rw [if_neg (fun h => by rw [e.2 h] at ha; cases ha)]; rfl
    · rw [if_pos (e.1 ha)]; rfl)
  rw [polyB, hin, hok, h1, h2]; rfl
theorem poly_iff (L : List Pt) : polyB L = true ↔ Good L := ⟨poly_good, good_poly⟩
end Go.Proofs.Ytnkehfhedjdhaaa

/-! Same -/
namespace Go.Proofs.Ytnkehfhedjdhaaa
open Go.RowKit

theorem consec_snoc (l : List Pt) (a b : Pt) : consec (l ++ [a] ++ [b]) = consec (l ++ [a]) ++ [(a, b)] := by
  induction l with
  | nil => rfl
  | cons x l ih =>
    cases l with
    | nil => rfl
    | cons y l =>
      have e1 : consec (x :: y :: l ++ [a] ++ [b]) = (x, y) :: consec (y :: l ++ [a] ++ [b]) := rfl
      have e2 : consec (x :: y :: l ++ [a]) = (x, y) :: consec (y :: l ++ [a]) := rfl
      rw [e1, e2, ih]; rfl
theorem good_of {L M : List Pt} (hl : M.length = L.length) (hm : ∀ p, p ∈ M ↔ p ∈ L) (hd : M.Nodup) (hs : ∀ s, s ∈ sidesL M → s ∈ sidesL L) (h : Good L) : Good M := by
  obtain ⟨h1, h2, h3, h4⟩ := h
  refine ⟨by rw [hl]; exact h1, ?_, hd, fun s hs1 t ht1 hst => h4 s (hs s hs1) t (hs t ht1) hst⟩
  simp only [allOk, List.all_eq_true] at h2 ⊢
  exact fun p hp => h2 p ((hm p).1 hp)
theorem sides_step (x y : Pt) (ys : List Pt) (s : Pt × Pt) : s ∈ sidesL (y :: ys ++ [x]) ↔ s ∈ sidesL (x :: y :: ys) := by
  have e1 : sidesL (x :: y :: ys) = (x, y) :: consec (y :: ys ++ [x]) := rfl
  have e2 : sidesL (y :: ys ++ [x]) = consec (y :: ys ++ [x] ++ [y]) := rfl
  rw [e1, e2, consec_snoc]
  rw [List.mem_append, List.mem_singleton, List.mem_cons]
  exact Or.comm
theorem good_step (x : Pt) (xs : List Pt) : Good (xs ++ [x]) ↔ Good (x :: xs) := by
  cases xs with
  | nil => exact Iff.rfl
  | cons y ys =>
    constructor
    · intro h
      refine good_of (L := y :: ys ++ [x]) (by simp) (fun p => by simp only [List.mem_cons, List.mem_append, List.not_mem_nil, or_false]; constructor <;> (intro h; rcases h with h | h | h <;> simp [h]) ) ?_ (fun s hs => (sides_step x y ys s).2 hs) h
      exact (List.perm_append_comm (l₁ := y :: ys) (l₂ := [x])).nodup_iff.1 h.2.2.1
    · intro h
      refine good_of (L := x :: y :: ys) (by simp) (fun p => by simp only [List.mem_cons, List.mem_append, List.not_mem_nil, or_false]; constructor <;> (intro h; rcases h with h | h | h <;> simp [h]) ) ?_ (fun s hs => (sides_step x y ys s).1 hs) h
      exact (List.perm_append_comm (l₁ := y :: ys) (l₂ := [x])).nodup_iff.2 h.2.2.1
theorem rotL_zero (L : List Pt) : rotL L 0 = L := by simp [rotL]
theorem rotL_succ {L : List Pt} {k : Nat} (hk : k < L.length) : ∃ x xs, rotL L k = x :: xs ∧ rotL L (k + 1) = xs ++ [x] := by
  refine ⟨L[k], L.drop (k + 1) ++ L.take k, ?_, ?_⟩
  · rw [rotL, List.drop_eq_getElem_cons hk]; rfl
  · rw [rotL, List.take_succ_eq_append_getElem hk, List.append_assoc]
theorem good_rot {L : List Pt} (h : Good L) : ∀ k, k ≤ L.length → Good (rotL L k) := by
  intro k
  induction k with
  | zero => intro _; rw [rotL_zero]; exact h
  | succ k ih =>
    intro hk
    obtain ⟨x, xs, e1, e2⟩ := rotL_succ (L := L) (k := k) (by omega)
    have := ih (by omega)
    rw [e1] at this
    rw [e2]
    exact (good_step x xs).2 this

/-! ### Without a straight corner -/
theorem cross_z (a b : Pt) : crossP a b b = 0 := by unfold crossP crossI; grind
theorem good_drop {b : Pt} {Y : List Pt} (h : Good (b :: Y)) (h4 : 3 ≤ Y.length) (hs : onP (gt Y (Y.length - 1)) (gt Y 0) b = true) : Good Y := by
  obtain ⟨h1, h2, h3, hg⟩ := h
  have hb : b ∉ Y := (List.nodup_cons.1 h3).1
  have hY : Y.Nodup := (List.nodup_cons.1 h3).2
  obtain ⟨c, Y', rfl⟩ : ∃ c Y', Y = c :: Y' := by
    cases Y with
    | nil => simp at h4
    | cons c Y' => exact ⟨c, Y', rfl⟩
  obtain ⟨a, ha⟩ : ∃ a, a = gt (c :: Y') ((c :: Y').length - 1) := ⟨_, rfl⟩
  have hc : gt (c :: Y') 0 = c := rfl
  rw [← ha, hc] at hs
  have hlast : c :: Y' = (c :: Y').dropLast ++ [a] := by
    have hl : (c :: Y').getLast (by simp) = a := by
      rw [ha, gt_at (by simp), List.getLast_eq_getElem]
    rw [← hl]
    exact (List.dropLast_concat_getLast _).symm
  have eL : sidesL (b :: c :: Y') = (b, c) :: consec (c :: Y') ++ [(a, b)] := by
    have e1 : sidesL (b :: c :: Y') = (b, c) :: consec (c :: Y' ++ [b]) := rfl
    rw [e1, hlast, consec_snoc]
    rfl
  have eY : sidesL (c :: Y') = consec (c :: Y') ++ [(a, c)] := by
    have e1 : sidesL (c :: Y') = consec (c :: Y' ++ [c]) := rfl
    rw [e1]
    conv => lhs; rw [hlast]
    rw [consec_snoc, ← hlast]
  have hbc : (b, c) ∈ sidesL (b :: c :: Y') := by rw [eL]; simp
  have hab : (a, b) ∈ sidesL (b :: c :: Y') := by rw [eL]; simp
  have hin : ∀ t, t ∈ consec (c :: Y') → t ∈ sidesL (b :: c :: Y') := fun t ht => by rw [eL]; simp [ht]
  have hmem : ∀ t, t ∈ consec (c :: Y') → t.1 ∈ c :: Y' ∧ t.2 ∈ c :: Y' := fun t ht => by
    have := List.of_mem_zip (a := t.1) (b := t.2) (l₁ := c :: Y') (l₂ := (c :: Y').tail) ht
    exact ⟨this.1, List.mem_of_mem_tail this.2⟩
  have haY : a ∈ c :: Y' := by rw [hlast]; simp
  have hba : b ≠ a := fun e => hb (e ▸ haY)
  have hbcn : b ≠ c := fun e => hb (e ▸ List.mem_cons_self)
  have hne1 : ∀ t, t ∈ consec (c :: Y') → t.1 ≠ b ∧ t.2 ≠ b := fun t ht => ⟨fun e => hb (e ▸ (hmem t ht).1), fun e => hb (e ▸ (hmem t ht).2)⟩
  -- a side from c does not lead to a
  have hca : ∀ t, t ∈ consec (c :: Y') → t.1 = c → t.2 ≠ a := fun t ht e1 e2 => by
    obtain ⟨i, hi, hti⟩ := mem_sides.1 (hin t ht)
    rw [hti] at e1 e2
    have k1 : gt (b :: c :: Y') i = gt (b :: c :: Y') 1 := e1
    have k2 := gt_inj h3 hi (by simp) k1
    have k3 : gt (b :: c :: Y') (nx (b :: c :: Y') i) = gt (b :: c :: Y') ((b :: c :: Y').length - 1) := by
      rw [show gt (b :: c :: Y') (nx (b :: c :: Y') i) = a from e2, ha]
      simp only [gt, List.length_cons, Nat.add_sub_cancel]
      cases hY' : Y'.length with
      | zero => simp at h4; omega
      | succ n => simp
    have k4 := gt_inj h3 (nx_lt (by simp) i) (by simp) k3
    rw [nx_eq hi] at k4
    simp only [List.length_cons] at k4 h4
    by_cases hl : i + 1 = Y'.length + 1 + 1
    · rw [if_pos hl] at k4; omega
    · rw [if_neg hl] at k4; omega
  have hac : a ≠ c := fun e => by
    have : gt (c :: Y') ((c :: Y').length - 1) = gt (c :: Y') 0 := by rw [← ha, e]; rfl
    have := gt_inj hY (by simp) (by simp) this
    simp only [List.length_cons] at this h4; omega
  -- the new side meets no other one
  have new0 : ∀ t, t ∈ consec (c :: Y') → t.1 ≠ c → t.2 ≠ a → meetI a c t.1 t.2 = 0 := fun t ht k1 k2 => by
    obtain ⟨n1, n2⟩ := hne1 t ht
    have m1 := (hg _ hab _ (hin t ht) (fun e => n2 (Prod.ext_iff.1 e).2.symm)).2 (Ne.symm n1) k2
    have m2 := (hg _ hbc _ (hin t ht) (fun e => n1 (Prod.ext_iff.1 e).1.symm)).2 (Ne.symm k1) n2
    exact meet_merge hs hba hbcn m1 m2
  have new1 : ∀ t, t ∈ consec (c :: Y') → t.1 = c → onP t.1 t.2 a = false ∧ onP a c t.2 = false := fun t ht k1 => by
    obtain ⟨n1, n2⟩ := hne1 t ht
    have k2 := hca t ht k1
    have m1 := (hg _ hab _ (hin t ht) (fun e => n2 (Prod.ext_iff.1 e).2.symm)).2 (Ne.symm n1) k2
    have m2 := (hg _ hbc _ (hin t ht) (fun e => n1 (Prod.ext_iff.1 e).1.symm)).1 k1.symm
    obtain ⟨-, z1, -, -, z4⟩ := meet_zero.1 m1
    refine ⟨z1, ?_⟩
    cases hq : onP a c t.2
    · rfl
    · rcases on_part hs hq with h5 | h5
      · rw [show onP a b t.2 = false from z4] at h5; cases h5
      · rw [show onP b c t.2 = false from m2.2] at h5; cases h5
  have new2 : ∀ t, t ∈ consec (c :: Y') → t.2 = a → onP a c t.1 = false ∧ onP t.1 t.2 c = false := fun t ht k1 => by
    obtain ⟨n1, n2⟩ := hne1 t ht
    have k2 : t.1 ≠ c := fun e => hca t ht e k1
    have m1 := (hg _ (hin t ht) _ hab (fun e => n2 (Prod.ext_iff.1 e).2)).1 k1
    have m2 := (hg _ hbc _ (hin t ht) (fun e => n1 (Prod.ext_iff.1 e).1.symm)).2 (Ne.symm k2) n2
    obtain ⟨-, -, z2, z3, -⟩ := meet_zero.1 m2
    refine ⟨?_, z2⟩
    cases hq : onP a c t.1
    · rfl
    · rcases on_part hs hq with h5 | h5
      · rw [show onP a b t.1 = false from m1.1] at h5; cases h5
      · rw [show onP b c t.1 = false from z3] at h5; cases h5
  refine ⟨⟨h4, by have := h1.2; simp at this ⊢; omega⟩, ?_, hY, ?_⟩
  · simp only [allOk, List.all_eq_true] at h2 ⊢
    exact fun p hp => h2 p (List.mem_cons_of_mem _ hp)
  · intro s hs1 t ht1 hst
    rw [eY] at hs1 ht1
    simp only [List.mem_append, List.mem_cons, List.not_mem_nil, or_false] at hs1 ht1
    rcases hs1 with hs1 | rfl <;> rcases ht1 with ht1 | rfl
    · exact hg s (hin s hs1) t (hin t ht1) hst
    · refine ⟨fun e => ?_, fun e1 e2 => ?_⟩
      · have := new2 s hs1 e
        exact ⟨this.1, this.2⟩
      · rw [meetI_swap]
        exact new0 s hs1 (Ne.symm e2) e1
    · exact ⟨fun e => new1 t ht1 e.symm, fun e1 e2 => new0 t ht1 (Ne.symm e1) e2⟩
    · exact absurd rfl hst
end Go.Proofs.Ytnkehfhedjdhaaa

/-! Shape -/
namespace Go.Proofs.Ytnkehfhedjdhaaa
open Go.RowKit

theorem straight_filter (L : List Pt) : ∀ k, straightTill L k = ((List.range k).filter (bentB L)).map (gt L) := by
  intro k
  induction k with
  | zero => rfl
  | succ k ih =>
    rw [straightTill, ih, List.range_succ, List.filter_append, List.map_append, List.filter_cons, List.filter_nil]
    cases bentB L k <;> simp
theorem straightL_eq (L : List Pt) : straightL L = ((List.range L.length).filter (bentB L)).map (gt L) := straight_filter L _
theorem gt_step (x : Pt) (xs : List Pt) {i : Nat} (hi : i < (x :: xs).length) : gt (xs ++ [x]) i = gt (x :: xs) (nx (x :: xs) i) := by
  rw [nx_eq hi]
  simp only [List.length_cons] at hi ⊢
  by_cases h : i + 1 = xs.length + 1
  · rw [if_pos h, gt_at (by simp; omega), List.getElem_append_right (by omega)]
    simp [gt]
  · rw [if_neg h, gt_at (by simp; omega), List.getElem_append_left (by omega), gt_at (by simp; omega)]
    rfl
theorem bent_step (x : Pt) (xs : List Pt) {i : Nat} (hi : i < (x :: xs).length) : bentB (xs ++ [x]) i = bentB (x :: xs) (nx (x :: xs) i) := by
  have hl : (xs ++ [x]).length = (x :: xs).length := by simp
  have h0 : 0 < (x :: xs).length := by simp
  have e1 : pv (xs ++ [x]) i = pv (x :: xs) i := by unfold pv; rw [hl]
  have e2 : nx (xs ++ [x]) i = nx (x :: xs) i := by unfold nx; rw [hl]
  have e3 : pv (x :: xs) (nx (x :: xs) i) = i := by
    rw [pv_eq (nx_lt h0 i), nx_eq hi]
    by_cases h : i + 1 = (x :: xs).length
    · rw [if_pos h, if_pos rfl]; omega
    · rw [if_neg h, if_neg (by omega)]; omega
  unfold bentB
  rw [e1, e2, gt_step x xs hi, gt_step x xs (pv_lt h0 i), gt_step x xs (nx_lt h0 i), nx_pv hi, e3]
theorem range_nx (x : Pt) (xs : List Pt) : (List.range (x :: xs).length).map (nx (x :: xs)) = (List.range xs.length).map Nat.succ ++ [0] := by
  rw [List.length_cons, List.range_succ, List.map_append]
  congr 1
  · apply List.map_congr_left
    intro i hi
    have : i < xs.length := List.mem_range.1 hi
    rw [nx_eq (by simp; omega), if_neg (by simp; omega)]
  · simp only [List.map_cons, List.map_nil]
    rw [nx_eq (by simp), if_pos (by simp)]
def restS (x : Pt) (xs : List Pt) : List Pt := (((List.range xs.length).map Nat.succ).filter (bentB (x :: xs))).map (gt (x :: xs))
theorem straight_cons (x : Pt) (xs : List Pt) : straightL (x :: xs) = (bif bentB (x :: xs) 0 then [x] else []) ++ restS x xs := by
  rw [straightL_eq, List.length_cons, List.range_succ_eq_map, List.filter_cons]
  cases h : bentB (x :: xs) 0
  · rfl
  · rfl
theorem straight_step (x : Pt) (xs : List Pt) : straightL (xs ++ [x]) = restS x xs ++ (bif bentB (x :: xs) 0 then [x] else []) := by
  have hl : (xs ++ [x]).length = (x :: xs).length := by simp
  have h1 : straightL (xs ++ [x]) = (((List.range (x :: xs).length).map (nx (x :: xs))).filter (bentB (x :: xs))).map (gt (x :: xs)) := by
    rw [straightL_eq, hl, List.filter_map, List.map_map]
    rw [List.filter_congr (q := bentB (x :: xs) ∘ nx (x :: xs)) (fun i hi => bent_step x xs (List.mem_range.1 hi))]
    apply List.map_congr_left
    intro i hi
    exact gt_step x xs (List.mem_range.1 (List.mem_filter.1 hi).1)
  rw [h1, range_nx, List.filter_append, List.map_append]
  congr 1
  cases h : bentB (x :: xs) 0 <;> simp [h, gt]
theorem good_straight_step {x : Pt} {xs : List Pt} (h : Good (straightL (xs ++ [x]))) : Good (straightL (x :: xs)) := by
  rw [straight_step] at h
  rw [straight_cons]
  cases hb : bentB (x :: xs) 0
  · rw [hb] at h; simpa using h
  · rw [hb] at h
    exact (good_step x _).1 h
theorem good_straight_rot {L : List Pt} : ∀ k, k ≤ L.length → Good (straightL (rotL L k)) → Good (straightL L) := by
  intro k
  induction k with
  | zero => intro _ h; rw [rotL_zero] at h; exact h
  | succ k ih =>
    intro hk h
    obtain ⟨x, xs, e1, e2⟩ := rotL_succ (L := L) (k := k) (by omega)
    rw [e2] at h
    refine ih (by omega) ?_
    rw [e1]
    exact good_straight_step h
theorem bent_rot {L : List Pt} : ∀ k, k ≤ L.length → ∀ j, j < L.length → bentB (rotL L k) j = bentB L ((j + k) % L.length) := by
  intro k
  induction k with
  | zero => intro _ j hj; rw [rotL_zero, Nat.add_zero, Nat.mod_eq_of_lt hj]
  | succ k ih =>
    intro hk j hj
    obtain ⟨x, xs, e1, e2⟩ := rotL_succ (L := L) (k := k) (by omega)
    have hl : (x :: xs).length = L.length := by rw [← e1, rotL_len]
    have h1 := ih (by omega) (nx (x :: xs) j) (by rw [← hl]; exact nx_lt (by simp) j)
    rw [e1] at h1
    rw [e2, bent_step x xs (by omega), h1]
    unfold nx
    rw [hl, Nat.mod_add_mod, show j + 1 + k = j + (k + 1) by omega]
theorem mul_zero_iff {m x q y : Int} (hm : 0 < m) (hq : 0 < q) (h : m * x = q * y) : x = 0 ↔ y = 0 := by
  constructor
  · intro hx; rw [hx, Int.mul_zero] at h; exact mul_zero_of hq h.symm
  · intro hy; rw [hy, Int.mul_zero] at h; exact mul_zero_of hm h
theorem bent_drop {b : Pt} {Y : List Pt} (hY : 3 ≤ Y.length) (hs : onP (gt Y (Y.length - 1)) (gt Y 0) b = true) (hb : b ∉ Y) {i : Nat} (hi : i < Y.length) : bentB (b :: Y) (i + 1) = bentB Y i := by
  have ha : gt Y (Y.length - 1) ∈ Y := by rw [gt_at (by omega)]; exact List.getElem_mem _
  have hc : gt Y 0 ∈ Y := by rw [gt_at (by omega)]; exact List.getElem_mem _
  obtain ⟨a, ea⟩ : ∃ a, a = gt Y (Y.length - 1) := ⟨_, rfl⟩
  obtain ⟨c, ec⟩ : ∃ c, c = gt Y 0 := ⟨_, rfl⟩
  rw [← ea, ← ec] at hs
  rw [← ea] at ha
  rw [← ec] at hc
  have hba : b ≠ a := fun e => hb (e ▸ ha)
  have hbc : b ≠ c := fun e => hb (e ▸ hc)
  have hac : a ≠ c := by
    intro h
    subst h
    obtain ⟨_, k2, k3⟩ := (onP_iff _ _ _).1 hs
    exact hba (by unfold bt at k2 k3; exact Prod.ext (by omega) (by omega))
  obtain ⟨p, q, hw⟩ := on_wt hs hac
  have hp := hw.ne_c hbc
  have hq := hw.ne_a hba
  have g1 : ∀ j, gt (b :: Y) (j + 1) = gt Y j := fun j => by simp [gt]
  have e1 : pv (b :: Y) (i + 1) = i := by rw [pv_eq (by simp; omega), if_neg (by omega)]; omega
  have e2 : nx (b :: Y) (i + 1) = if i + 1 = Y.length then 0 else i + 1 + 1 := by
    rw [nx_eq (by simp; omega)]
    by_cases h : i + 1 = Y.length
    · rw [if_pos h, if_pos (by simp; omega)]
    · rw [if_neg h, if_neg (by simp; omega)]
  unfold bentB
  rw [e1, e2, g1, pv_eq hi, nx_eq hi]
  have key : ∀ x y : Int, (x = 0 ↔ y = 0) → (!(x == 0)) = (!(y == 0)) := fun x y h => by
    rw [Bool.eq_iff_iff]; simp only [Bool.not_eq_true', beq_eq_false_iff_ne, ne_eq, h]
  apply key
  by_cases h0 : i = 0
  · subst h0
    rw [if_pos rfl, if_neg (by omega), if_neg (by omega), g1, ← ea, ← ec]
    exact mul_zero_iff hw.pq hp (hw.cross_bc _)
  · rw [if_neg h0]
    have e3 : gt (b :: Y) i = gt Y (i - 1) := by rw [show i = (i - 1) + 1 by omega, g1]; congr 1
    rw [e3]
    by_cases hl : i + 1 = Y.length
    · rw [if_pos hl, if_pos hl]
      have e4 : gt Y i = a := by rw [ea]; congr 1; omega
      rw [e4, ← ec]
      show crossP (gt Y (i - 1)) a b = 0 ↔ _
      have := hw.cross3 (gt Y (i - 1)) a
      rw [cross_z, Int.mul_zero, Int.zero_add] at this
      exact mul_zero_iff hw.pq hq this
    · rw [if_neg hl, if_neg hl, g1]
theorem straight_drop {b : Pt} {Y : List Pt} (hY : 3 ≤ Y.length) (hs : onP (gt Y (Y.length - 1)) (gt Y 0) b = true) (hb : b ∉ Y) (h0 : bentB (b :: Y) 0 = false) : straightL (b :: Y) = straightL Y := by
  rw [straight_cons, h0, straightL_eq]
  show [] ++ restS b Y = _
  rw [List.nil_append, restS, List.filter_map, List.map_map]
  rw [List.filter_congr (p := bentB (b :: Y) ∘ Nat.succ) (q := bentB Y) (fun i hi => bent_drop hY hs hb (List.mem_range.1 hi))]
  apply List.map_congr_left
  intro i _
  simp [gt]
/-- **The straightened polygon is one.** -/
theorem good_straight : ∀ n (L : List Pt), L.length = n → Good L → Good (straightL L) := by
  intro n
  induction n using Nat.strongRecOn with
  | _ n ih =>
    intro L hL hG
    by_cases hall : ∀ i, i < L.length → bentB L i = true
    · have : straightL L = L := by
        rw [straightL_eq, List.filter_eq_self.2 (fun i hi => hall i (List.mem_range.1 hi))]
        apply List.ext_getElem (by simp)
        intro i h1 h2
        simp [gt_at h2]
      rw [this]; exact hG
    · obtain ⟨i, hi, hb⟩ : ∃ i, i < L.length ∧ bentB L i = false := by
        false_or_by_contra
        rename_i hne
        exact hall fun i hi => by
          cases hb : bentB L i
          · exact absurd ⟨i, hi, hb⟩ hne
          · rfl
      refine good_straight_rot i (by omega) ?_
      have hG' := good_rot hG i (by omega)
      have hb' : bentB (rotL L i) 0 = false := by rw [bent_rot i (by omega) 0 (by omega), Nat.zero_add, Nat.mod_eq_of_lt hi, hb]
      obtain ⟨b, Y, e1, -⟩ := rotL_succ hi
      have hl : (b :: Y).length = n := by rw [← e1, rotL_len, hL]
      rw [e1] at hG' hb' ⊢
      have hY2 : 2 ≤ Y.length := by have := hG'.1.1; simp at this; omega
      have hbY : b ∉ Y := (List.nodup_cons.1 hG'.2.2.1).1
      have hon : onP (gt Y (Y.length - 1)) (gt Y 0) b = true := by
        have h1 := on_bent (good_poly hG') (i := 0) (by simp)
        rw [hb', Bool.not_false, onQ_ok (gt_ok hG'.2.1 _) (gt_ok hG'.2.1 _) (gt_ok hG'.2.1 _)] at h1
        rw [pv_eq (by simp), if_pos rfl, nx_eq (by simp), if_neg (by rw [List.length_cons]; omega)] at h1
        have e2 : gt (b :: Y) ((b :: Y).length - 1) = gt Y (Y.length - 1) := by
          rw [List.length_cons, Nat.add_sub_cancel, show Y.length = (Y.length - 1) + 1 by omega]; simp [gt]
        have e3 : gt (b :: Y) (0 + 1) = gt Y 0 := by simp [gt]
        rw [e2, e3] at h1
        exact h1
      have hY3 : 3 ≤ Y.length := by
        false_or_by_contra
        rename_i hlt
        have hm : Y.length = 2 := by omega
        obtain ⟨c, a, rfl⟩ : ∃ c a, Y = [c, a] := by
          match Y, hm with
          | [c, a], _ => exact ⟨c, a, rfl⟩
        have hs1 : (c, a) ∈ sidesL [b, c, a] := by simp [sidesL, consec]
        have hs2 : (a, b) ∈ sidesL [b, c, a] := by simp [sidesL, consec]
        have hne : (c, a) ≠ (a, b) := fun e => by
          have h1 := (Prod.ext_iff.1 e).2
          exact hbY (by rw [show b = a from h1.symm]; simp)
        have h1 := (hG'.2.2.2 _ hs1 _ hs2 hne).1 rfl
        have h2 : onP a c b = true := hon
        rw [← on_flip] at h2
        rw [show onP c a b = false from h1.2] at h2
        cases h2
      rw [straight_drop hY3 hon hbY hb']
      exact ih Y.length (by simp at hl; omega) Y rfl (good_drop hG' hY3 hon)
theorem poly_straight {L : List Pt} (h : polyB L = true) : polyB (straightL L) = true := good_poly (good_straight _ L rfl (poly_good h))
theorem poly_rot {L : List Pt} (h : polyB L = true) {k : Nat} (hk : k ≤ L.length) : polyB (rotL L k) = true := good_poly (good_rot (poly_good h) k hk)
end Go.Proofs.Ytnkehfhedjdhaaa

/-! MotP -/
namespace Go.Proofs.Ytnkehfhedjdhaaa
open Go.RowKit

def dn (b p : Pt) : Pt := (p.1 - b.1, p.2 - b.2)
def lowL (L : List Pt) : Pt := (boxTill L L.length).1
def cornL (L : List Pt) : List Pt := L.map (dn (lowL L))
def moveL (L : List Pt) (m : Nat) : List Pt := cornL (L.map (mot m))
def moveV (L : List Pt) (m : Int) : List Pt := bif polyB L && inB m 0 7 then moveL L m.toNat else []
theorem cornL_len (L : List Pt) : (cornL L).length = L.length := by simp [cornL]
theorem moveL_len (L : List Pt) (m : Nat) : (moveL L m).length = L.length := by simp [moveL, cornL]
theorem gt_map {f : Pt → Pt} {L : List Pt} {i : Nat} (h : i < L.length) : gt (L.map f) i = f (gt L i) := by
  rw [gt_at (by simpa using h), gt_at h]; simp
theorem minI_eq (x y : Int) : minI x y = min x y := by unfold minI; split <;> omega
theorem maxI_eq (x y : Int) : maxI x y = max x y := by unfold maxI; split <;> omega

/-- The box holds all corners. -/
theorem box_le {L : List Pt} : ∀ k, k ≤ L.length → ∀ i, i < k ∨ i = 0 → (boxTill L k).1.1 ≤ (gt L i).1 ∧ (boxTill L k).1.2 ≤ (gt L i).2 ∧ (gt L i).1 ≤ (boxTill L k).2.1 ∧ (gt L i).2 ≤ (boxTill L k).2.2
  | 0, _, i, hi => by
    obtain rfl : i = 0 := by omega
    simp [boxTill]
  | k + 1, hk, i, hi => by
    simp only [boxTill, boxStep, minI_eq, maxI_eq]
    rcases Nat.lt_or_ge i k with h | h
    · have := box_le (L := L) k (by omega) i (.inl h); omega
    · by_cases h0 : i = 0
      · have := box_le (L := L) k (by omega) i (.inr h0); omega
      · obtain rfl : i = k := by omega
        omega
/-- Each side of the box is reached. -/
theorem box_at {L : List Pt} : ∀ k, k ≤ L.length → 0 < L.length → (∃ i, i < L.length ∧ (boxTill L k).1.1 = (gt L i).1) ∧ (∃ i, i < L.length ∧ (boxTill L k).1.2 = (gt L i).2)
  | 0, _, h0 => ⟨⟨0, h0, rfl⟩, ⟨0, h0, rfl⟩⟩
  | k + 1, hk, h0 => by
    obtain ⟨⟨i, hi, e1⟩, ⟨j, hj, e2⟩⟩ := box_at k (by omega) h0
    simp only [boxTill, boxStep, minI]
    constructor
    · split
      · exact ⟨k, by omega, rfl⟩
      · exact ⟨i, hi, e1⟩
    · split
      · exact ⟨k, by omega, rfl⟩
      · exact ⟨j, hj, e2⟩
theorem box_hi {L : List Pt} (hok : allOk L = true) : ∀ k, k ≤ L.length → 0 < L.length → (boxTill L k).2.1 ≤ 40 ∧ (boxTill L k).2.2 ≤ 40
  | 0, _, h0 => by
    have := okP_bounds (all_at hok h0)
    simp only [boxTill]; omega
  | k + 1, hk, h0 => by
    have := box_hi hok k (by omega) h0
    have := okP_bounds (all_at hok (show k < L.length by omega))
    simp only [boxTill, boxStep, maxI_eq]
    omega
theorem low_le {L : List Pt} {i : Nat} (hi : i < L.length) : (lowL L).1 ≤ (gt L i).1 ∧ (lowL L).2 ≤ (gt L i).2 := by
  have := box_le (L := L) L.length (Nat.le_refl _) i (.inl hi)
  exact ⟨this.1, this.2.1⟩

/-- The least corner of a moved box: the lesser numbers of its two moved ends. -/
theorem box_mot {m : Nat} (hm : m < 8) {L : List Pt} : ∀ k, k ≤ L.length → 0 < L.length →
    ((boxTill L k).1.1 ≤ (boxTill L k).2.1 ∧ (boxTill L k).1.2 ≤ (boxTill L k).2.2) ∧
    (boxTill (L.map (mot m)) k).1 = (minI (mot m (boxTill L k).1).1 (mot m (boxTill L k).2).1, minI (mot m (boxTill L k).1).2 (mot m (boxTill L k).2).2)
  | 0, _, h0 => by
    simp only [boxTill, gt_map h0]
    exact ⟨⟨Int.le_refl _, Int.le_refl _⟩, by simp [minI]⟩
  | k + 1, hk, h0 => by
    obtain ⟨⟨h1, h2⟩, h3⟩ := box_mot hm k (by omega) h0
    simp only [boxTill, boxStep, gt_map (show k < L.length by omega), h3]
    clear h3
    generalize boxTill L k = B at *
    generalize gt L k = q at *
    refine ⟨⟨by simp only [minI_eq, maxI_eq]; omega, by simp only [minI_eq, maxI_eq]; omega⟩, ?_⟩
    match m, hm with
    | 0, _ => simp only [mot, minI_eq, maxI_eq]; exact Prod.ext (by simp only; omega) (by simp only; omega)
    | 1, _ => simp only [mot, minI_eq, maxI_eq]; exact Prod.ext (by simp only; omega) (by simp only; omega)
    | 2, _ => simp only [mot, minI_eq, maxI_eq]; exact Prod.ext (by simp only; omega) (by simp only; omega)
    | 3, _ => simp only [mot, minI_eq, maxI_eq]; exact Prod.ext (by simp only; omega) (by simp only; omega)
    | 4, _ => simp only [mot, minI_eq, maxI_eq]; exact Prod.ext (by simp only; omega) (by simp only; omega)
    | 5, _ => simp only [mot, minI_eq, maxI_eq]; exact Prod.ext (by simp only; omega) (by simp only; omega)
    | 6, _ => simp only [mot, minI_eq, maxI_eq]; exact Prod.ext (by simp only; omega) (by simp only; omega)
    | 7, _ => simp only [mot, minI_eq, maxI_eq]; exact Prod.ext (by simp only; omega) (by simp only; omega)
    | j + 8, h => omega
theorem low_mot {m : Nat} (hm : m < 8) {L : List Pt} (h0 : 0 < L.length) :
    lowL (L.map (mot m)) = (minI (mot m (boxTill L L.length).1).1 (mot m (boxTill L L.length).2).1, minI (mot m (boxTill L L.length).1).2 (mot m (boxTill L L.length).2).2) := by
  have := (box_mot hm L.length (Nat.le_refl _) h0).2
  unfold lowL
  rw [List.length_map]
  exact this

/-! ### isometries -/
structure Iso (f : Pt → Pt) : Prop where
  inj : ∀ a b, f a = f b → a = b
  cr : (∀ a b c, crossP (f a) (f b) (f c) = crossP a b c) ∨ (∀ a b c, crossP (f a) (f b) (f c) = -crossP a b c)
  on : ∀ a b c, onP (f a) (f b) (f c) = onP a b c
theorem iso_of {f : Pt → Pt} (inj : ∀ a b, f a = f b → a = b)
    (cr : (∀ a b c, crossP (f a) (f b) (f c) = crossP a b c) ∨ (∀ a b c, crossP (f a) (f b) (f c) = -crossP a b c))
    (bx : ∀ a b c : Pt, (bt a.1 b.1 c.1 ∧ bt a.2 b.2 c.2) ↔ (bt (f a).1 (f b).1 (f c).1 ∧ bt (f a).2 (f b).2 (f c).2)) : Iso f where
  inj := inj
  cr := cr
  on a b c := by
    rw [Bool.eq_iff_iff, onP_iff, onP_iff, ← bx]
    have : crossP (f a) (f b) (f c) = 0 ↔ crossP a b c = 0 := by
      rcases cr with h | h
      · rw [h]
      · rw [h]; omega
    rw [this]
theorem iso_dn (b : Pt) : Iso (dn b) :=
  iso_of (fun p q h => by simp only [dn, Prod.mk.injEq] at h; exact Prod.ext (by omega) (by omega))
    (.inl fun p q r => by unfold crossP crossI dn; grind)
    (fun p q r => by unfold bt dn; simp only; omega)
theorem iso_mot {m : Nat} (hm : m < 8) : Iso (mot m) := by
  have ax : ∀ p q : Pt, p.1 = q.1 → p.2 = q.2 → p = q := fun p q h1 h2 => Prod.ext h1 h2
  match m, hm with
  | 0, _ => exact iso_of (fun p q h => h) (.inl fun _ _ _ => rfl) (fun _ _ _ => Iff.rfl)
  | 1, _ => exact iso_of (fun p q h => by simp only [mot, Prod.mk.injEq] at h; exact ax _ _ (by omega) (by omega)) (.inl fun p q r => by unfold crossP crossI mot; grind) (fun p q r => by unfold bt mot; simp only; omega)
  | 2, _ => exact iso_of (fun p q h => by simp only [mot, Prod.mk.injEq] at h; exact ax _ _ (by omega) (by omega)) (.inl fun p q r => by unfold crossP crossI mot; grind) (fun p q r => by unfold bt mot; simp only; omega)
  | 3, _ => exact iso_of (fun p q h => by simp only [mot, Prod.mk.injEq] at h; exact ax _ _ (by omega) (by omega)) (.inl fun p q r => by unfold crossP crossI mot; grind) (fun p q r => by unfold bt mot; simp only; omega)
  | 4, _ => exact iso_of (fun p q h => by simp only [mot, Prod.mk.injEq] at h; exact ax _ _ (by omega) (by omega)) (.inr fun p q r => by unfold crossP crossI mot; grind) (fun p q r => by unfold bt mot; simp only; omega)
  | 5, _ => exact iso_of (fun p q h => by simp only [mot, Prod.mk.injEq] at h; exact ax _ _ (by omega) (by omega)) (.inr fun p q r => by unfold crossP crossI mot; grind) (fun p q r => by unfold bt mot; simp only; omega)
  | 6, _ => exact iso_of (fun p q h => by simp only [mot, Prod.mk.injEq] at h; exact ax _ _ (by omega) (by omega)) (.inr fun p q r => by unfold crossP crossI mot; grind) (fun p q r => by unfold bt mot; simp only; omega)
  | 7, _ => exact iso_of (fun p q h => by simp only [mot, Prod.mk.injEq] at h; exact ax _ _ (by omega) (by omega)) (.inr fun p q r => by unfold crossP crossI mot; grind) (fun p q r => by unfold bt mot; simp only; omega)
  | k + 8, h => omega
theorem Iso.opp {f : Pt → Pt} (h : Iso f) (a b c d : Pt) : opp (f a) (f b) (f c) (f d) = opp a b c d := by
  rw [Bool.eq_iff_iff, opp_iff, opp_iff]
  rcases h.cr with e | e
  · rw [e, e]
  · rw [e, e]; omega
theorem Iso.meet {f : Pt → Pt} (h : Iso f) (a b c d : Pt) : meetI (f a) (f b) (f c) (f d) = 0 ↔ meetI a b c d = 0 := by
  rw [meet_zero, meet_zero, h.opp, h.opp, h.on, h.on, h.on, h.on]
theorem sides_map {f : Pt → Pt} (L : List Pt) : sidesL (L.map f) = (sidesL L).map fun s => (f s.1, f s.2) := by
  rw [sides_eq, sides_eq, List.length_map, List.map_map]
  refine List.map_congr_left fun i hi => ?_
  rw [List.mem_range] at hi
  have hn : nx (L.map f) i = nx L i := by simp [nx]
  have hl : nx L i < L.length := Nat.mod_lt _ (by omega)
  rw [hn, gt_map hi, gt_map hl]
  rfl
theorem good_map {f : Pt → Pt} (h : Iso f) {L : List Pt} (g : Good L) (hok : allOk (L.map f) = true) : Good (L.map f) := by
  obtain ⟨hl, _, hnd, hs⟩ := g
  refine ⟨by rw [List.length_map]; exact hl, hok, ?_, ?_⟩
  · rw [nodup_iff] at hnd ⊢
    intro i k hik hk
    rw [List.length_map] at hk
    rw [gt_map (by omega), gt_map hk]
    exact fun e => hnd i k hik hk (h.inj _ _ e)
  · rw [sides_map]
    intro s hsm t htm hne
    obtain ⟨s', hs', rfl⟩ := List.mem_map.1 hsm
    obtain ⟨t', ht', rfl⟩ := List.mem_map.1 htm
    have hne' : s' ≠ t' := fun e => hne (by rw [e])
    obtain ⟨h1, h2⟩ := hs s' hs' t' ht' hne'
    refine ⟨fun e => ?_, fun e1 e2 => ?_⟩
    · have := h1 (h.inj _ _ e)
      simp only [h.on]
      exact this
    · exact (h.meet _ _ _ _).2 (h2 (fun e => e1 (by rw [e])) (fun e => e2 (by rw [e])))
theorem map_ok {L : List Pt} (hok : allOk L = true) {m : Nat} (hm : m < 8) : allOk (moveL L m) = true := by
  simp only [allOk, List.all_eq_true]
  intro p hp
  obtain ⟨q, hq, rfl⟩ := List.mem_map.1 hp
  obtain ⟨k, hk, rfl⟩ := List.getElem_of_mem hq
  have hk' : k < L.length := by simpa using hk
  rw [← gt_at hk]
  have b1 := low_le hk
  have h0 : 0 < (L.map (mot m)).length := by omega
  obtain ⟨⟨i, hi, e1⟩, ⟨j, hj, e2⟩⟩ := box_at (L := L.map (mot m)) _ (Nat.le_refl _) h0
  have hi' : i < L.length := by simpa using hi
  have hj' : j < L.length := by simpa using hj
  change (lowL _).1 = _ at e1
  change (lowL _).2 = _ at e2
  have ok1 := okP_bounds (all_at hok hk')
  have ok2 := okP_bounds (all_at hok hi')
  have ok3 := okP_bounds (all_at hok hj')
  rw [gt_map hk'] at b1 ⊢
  rw [gt_map hi'] at e1
  rw [gt_map hj'] at e2
  generalize lowL (L.map (mot m)) = b at *
  generalize gt L k = p1 at *
  generalize gt L i = p2 at *
  generalize gt L j = p3 at *
  simp only [okP, Bool.and_eq_true, inB_spec, dn]
  clear hp hq hk hi hj h0
  match m, hm with
  | 0, _ => simp only [mot] at *; omega
  | 1, _ => simp only [mot] at *; omega
  | 2, _ => simp only [mot] at *; omega
  | 3, _ => simp only [mot] at *; omega
  | 4, _ => simp only [mot] at *; omega
  | 5, _ => simp only [mot] at *; omega
  | 6, _ => simp only [mot] at *; omega
  | 7, _ => simp only [mot] at *; omega
  | k + 8, h => omega
theorem iso_move {L : List Pt} {m : Nat} (hm : m < 8) : ∃ f, Iso f ∧ moveL L m = L.map f := by
  refine ⟨dn (lowL (L.map (mot m))) ∘ mot m, ?_, by simp [moveL, cornL]⟩
  have h1 := iso_dn (lowL (L.map (mot m)))
  have h2 := iso_mot hm
  refine ⟨fun a b h => h2.inj _ _ (h1.inj _ _ h), ?_, fun a b c => (h1.on _ _ _).trans (h2.on _ _ _)⟩
  rcases h1.cr with e1 | e1
  · rcases h2.cr with e2 | e2
    · exact .inl fun a b c => (e1 _ _ _).trans (e2 _ _ _)
    · exact .inr fun a b c => (e1 _ _ _).trans (e2 _ _ _)
  · rcases h2.cr with e2 | e2
    · exact .inr fun a b c => (e1 _ _ _).trans (by rw [e2])
    · exact .inl fun a b c => (e1 _ _ _).trans (by rw [e2, Int.neg_neg])
theorem good_move {L : List Pt} (g : Good L) {m : Nat} (hm : m < 8) : Good (moveL L m) := by
  obtain ⟨f, hf, e⟩ := iso_move (L := L) hm
  have ok := map_ok g.2.1 hm
  rw [e] at ok ⊢
  exact good_map hf g ok
theorem poly_move {L : List Pt} (h : polyB L = true) {m : Nat} (hm : m < 8) : polyB (moveL L m) = true := good_poly (good_move (poly_good h) hm)
end Go.Proofs.Ytnkehfhedjdhaaa

/-! MoveS -/
namespace Go.Proofs.Ytnkehfhedjdhaaa
open Go.RowKit

theorem map_step {f : Pt → Pt} {L : List Pt} {k : Nat} (h : k < L.length) : (L.take (k + 1)).map f = (L.take k).map f ++ [f (gt L k)] := by
  rw [List.take_succ_eq_append_getElem h, List.map_append, gt_at h]; rfl
theorem map_len {f : Pt → Pt} {L : List Pt} {k : Nat} (h : k ≤ L.length) : ((L.take k).map f).length = k := by simp; omega
def Bd (B : Int) (L : List Pt) : Prop := ∀ i, i < L.length → -B ≤ (gt L i).1 ∧ (gt L i).1 ≤ B ∧ -B ≤ (gt L i).2 ∧ (gt L i).2 ≤ B
theorem bd_low {B : Int} {L : List Pt} (h : Bd B L) (h0 : 0 < L.length) : ∀ k, k ≤ L.length → -B ≤ (boxTill L k).1.1 ∧ (boxTill L k).1.1 ≤ B ∧ -B ≤ (boxTill L k).1.2 ∧ (boxTill L k).1.2 ≤ B := fun k hk => by
  obtain ⟨⟨i, hi, e1⟩, ⟨j, hj, e2⟩⟩ := box_at (L := L) k hk h0
  have := h i hi
  have := h j hj
  omega
theorem bd_mot {L : List Pt} (hok : allOk L = true) {m : Nat} (hm : m < 8) : Bd 40 (L.map (mot m)) := fun i hi => by
  have hi' : i < L.length := by simpa using hi
  rw [gt_map hi']
  have := okP_bounds (all_at hok hi')
  exact mot_bd hm (by omega)

end Go.Proofs.Ytnkehfhedjdhaaa

/-! Float -/
namespace Go.Proofs.Ytnkehfhedjdhaaa
open Go.Sort Go.RowKit

/-- Nothing that was there has changed. -/
def Now (w w' : World) : Prop := Below w.heap.size w w'
theorem Calls.now {P : Program} {f : FuncId} {args : Array Value} {w : World} {v : Value} (h : Calls P f args w fun e w' => e = .returned v ∧ Below w.heap.size w w') : Calls P f args w fun e w' => e = .returned v ∧ Now w w' := h
def uponB (P : Program) (w : World) (v : Value) : Result Next → Prop
  | .ok (.value u) w' => w' = w ∧ u = v
  | .ok .skip w' => w' = w ∧ v = undef
  | .ok (.enter f args) w' => w' = w ∧ Calls P f args w fun e w'' => e = .returned v ∧ Now w w''
  | _ => False
def quietB (P : Program) (C : World → Prop) (o : Oper) (a : Act) (K : Act → Prop) : Prop := ∃ v, (∀ w, C w → uponB P w v ((execOp a.eval o).run P w)) ∧ K (a.put o.dst v)
def wpQuietB (P : Program) (ops : Array Oper) (C : World → Prop) (Q : Act → Prop) : List Oper → Act → Prop
  | [], a => Q a
  | o :: rest, a => if Region.wanted o (yielded ops a.tmps) = true then quietB P C o a (wpQuietB P ops C Q rest) else wpQuietB P ops C Q rest (a.put o.dst undef)

section
variable {P : Program} {ops : Array Oper} {md : Region.Mode} {C : World → Prop}

theorem quietB_mono {o : Oper} {a : Act} {K K' : Act → Prop} (h : ∀ a, K a → K' a) (hh : quietB P C o a K) : quietB P C o a K' :=
  let ⟨v, h1, h2⟩ := hh
  ⟨v, h1, h _ h2⟩
theorem wpQuietB_step {Q : Act → Prop} {a : Act} {o : Oper} {rest : List Oper}
    (h : ∀ K : Act → Prop, (∀ a, wpQuietB P ops C Q rest a → K a) → if Region.wanted o (yielded ops a.tmps) = true then quietB P C o a K else K (a.put o.dst undef)) : wpQuietB P ops C Q (o :: rest) a := by
  have := h (wpQuietB P ops C Q rest) (fun _ h => h)
  exact this
theorem wpQuietB_nil {Q : Act → Prop} {a : Act} (h : Q a) : wpQuietB P ops C Q [] a := h

/-- What an operation yields, in every world of the class. -/
def YieldsB (P : Program) (ops : Array Oper) (C : World → Prop) (o : Oper) (v : Value) (a : Act) : Prop :=
  (Region.wanted o (yielded ops a.tmps) = true ∧ ∀ w, C w → uponB P w v ((execOp a.eval o).run P w)) ∨ (Region.wanted o (yielded ops a.tmps) = false ∧ v = undef)
theorem YieldsB.of_same {o : Oper} {v : Value} {a a' : Act} (hy : YieldsB P ops C o v a) (he : execOp a'.eval o = execOp a.eval o)
    (hw : Region.wanted o (yielded ops a'.tmps) = Region.wanted o (yielded ops a.tmps)) : YieldsB P ops C o v a' := by
  unfold YieldsB at *
  rw [he, hw]; exact hy
theorem YieldsB.put {o : Oper} {v : Value} {a : Act} (hy : YieldsB P ops C o v a) (hs : ∀ cs b, o.op ≠ .select cs b) {d : Option Tmp} {u : Value} (h : ∀ e, d = some e → e ∉ o.looksAt ops) : YieldsB P ops C o v (a.put d u) :=
  hy.of_same (execOp_put o hs a d u h) (wanted_put o a d u h)
/-- One operation, by what it yields. -/
def opB (P : Program) (ops : Array Oper) (C : World → Prop) (i : Nat) (K : Act → Prop) (a : Act) : Prop := ∃ o v, ops[i]? = some o ∧ YieldsB P ops C o v a ∧ K (a.put o.dst v)

theorem wpOp_of_opB {i : Nat} {a : Act} {K : Act → Prop} {K' : Act → World → Prop} {Q' : Exit → Act → World → Prop} {w : World} (hC : C w)
    (h : ∀ a w', Below w.heap.size w w' → K a → K' a w') (hh : opB P ops C i K a) : wpOp P ops Q' i K' a w := by
  obtain ⟨o, v, ho, hy, hK⟩ := hh
  unfold wpOp
  simp only [ho]
  rcases hy with ⟨hw, h1⟩ | ⟨hw, rfl⟩
  · rw [if_pos hw]
    left
    have h3 := h1 w hC
    unfold Oper.wp
    generalize (execOp a.eval o).run P w = r at *
    cases r with
    | ok nx w' =>
      cases nx <;> simp only [uponB] at h3 <;> simp only [Oper.upon]
      case value u =>
        obtain ⟨e1, e2⟩ := h3
        rw [e1, e2]
        exact h _ _ (Below.refl _ _) hK
      case skip =>
        obtain ⟨e1, e2⟩ := h3
        rw [e1, ← e2]
        exact h _ _ (Below.refl _ _) hK
      case enter f args =>
        obtain ⟨e1, hc⟩ := h3
        rw [e1]
        exact hc.mono fun e w'' ⟨he, hw''⟩ => by subst he; exact h _ _ hw'' hK
    | halt x w' => simp only [uponB] at h3
  · rw [if_neg (by rw [hw]; exact Bool.false_ne_true)]
    exact h _ _ (Below.refl _ _) hK

def upd (G : Nat → Nat) (i g : Nat) : Nat → Nat := fun k => if k = i then g else G k
theorem upd_comm (G : Nat → Nat) {i j : Nat} (g h : Nat) (hne : i ≠ j) : upd (upd G i g) j h = upd (upd G j h) i g := by
  funext k
  unfold upd
  by_cases h1 : k = i
  · subst h1
    rw [if_neg hne, if_pos rfl, if_pos rfl]
  · by_cases h2 : k = j
    · subst h2
      rw [if_pos rfl, if_neg h1, if_pos rfl]
    · rw [if_neg h2, if_neg h1, if_neg h1, if_neg h2]
abbrev ptrV (g : Nat) : Value := .pointer (some ⟨g, 0, none⟩)
def dstOf (ops : Array Oper) (i : Nat) : Option Tmp := (ops[i]?).bind (·.dst)

/-- Every order of the head and of the floats; L behind them. -/
def wpX (P : Program) (md : Region.Mode) (ops : Array Oper) (C : World → Prop) (m q : Nat) (L : Array Bool → Act → (Nat → Nat) → Prop) : Nat → Array Bool → Act → (Nat → Nat) → Prop
  | 0, listed, a, G => L listed a G
  | f + 1, listed, a, G => Region.ready md ops listed ≠ [] ∧ ∀ i ∈ Region.ready md ops listed, i < q ∧
      (i < m → opB P ops C i (fun a' => wpX P md ops C m q L f (listed.setIfInBounds i true) a' G) a) ∧
      (m ≤ i → ∀ g, wpX P md ops C m q L f (listed.setIfInBounds i true) (a.put (dstOf ops i) (ptrV g)) (upd G i g))

structure Floats (P : Program) (md : Region.Mode) (ops : Array Oper) (m q : Nat) (obj : Nat → Obj) : Prop where
  op : ∀ i, m ≤ i → i < q → ∃ o, ops[i]? = some o ∧ o.guard = none ∧ (∀ e ∈ o.after, Region.binds md e = false) ∧ (∀ a w, (execOp (Act.eval a) o).run P w = .ok (.value (ptrV w.heap.size)) (w.alloc (obj i)))
  ne : ∀ i j, m ≤ i → i < q → m ≤ j → j < q → i ≠ j → ∀ d, dstOf ops i = some d → dstOf ops j ≠ some d

def Fresh (base m q : Nat) (obj : Nat → Obj) (listed : Array Bool) (G : Nat → Nat) (w : World) : Prop :=
  ∀ i, m ≤ i → i < q → listed.getD i false = true → base ≤ G i ∧ w.heap[G i]? = some (obj i) ∧ ∀ j, m ≤ j → j < q → listed.getD j false = true → j ≠ i → G j ≠ G i
theorem Fresh.lt {base m q : Nat} {obj : Nat → Obj} {listed : Array Bool} {G : Nat → Nat} {w : World} (h : Fresh base m q obj listed G w) {i : Nat} (h1 : m ≤ i) (h2 : i < q) (h3 : listed.getD i false = true) : G i < w.heap.size :=
  (Array.getElem?_eq_some_iff.1 (h i h1 h2 h3).2.1).1
theorem Fresh.step {base m q : Nat} {obj : Nat → Obj} {listed : Array Bool} {G : Nat → Nat} {w w' : World} (h : Fresh base m q obj listed G w) (hb : Below w.heap.size w w') : Fresh base m q obj listed G w' :=
  fun i h1 h2 h3 => ⟨(h i h1 h2 h3).1, (hb.block _ (h.lt h1 h2 h3)).trans (h i h1 h2 h3).2.1, (h i h1 h2 h3).2.2⟩
theorem Fresh.head {base m q : Nat} {obj : Nat → Obj} {listed : Array Bool} {G : Nat → Nat} {w : World} (h : Fresh base m q obj listed G w) {k : Nat} (hk : k < m) : Fresh base m q obj (listed.setIfInBounds k true) G w :=
  fun i h1 h2 h3 => by
    rw [getD_set_ne false (by omega)] at h3
    refine ⟨(h i h1 h2 h3).1, (h i h1 h2 h3).2.1, fun j h4 h5 h6 => ?_⟩
    rw [getD_set_ne false (by omega)] at h6
    exact (h i h1 h2 h3).2.2 j h4 h5 h6
theorem Fresh.float {base m q : Nat} {obj : Nat → Obj} {listed : Array Bool} {G : Nat → Nat} {w : World} (h : Fresh base m q obj listed G w) (hb : base ≤ w.heap.size) (k : Nat) : Fresh base m q obj (listed.setIfInBounds k true) (upd G k w.heap.size) (w.alloc (obj k)) := by
  intro i h1 h2 h3
  by_cases hik : i = k
  · subst hik
    have e : upd G i w.heap.size i = w.heap.size := by simp [upd]
    refine ⟨by rw [e]; exact hb, by rw [e]; exact heap_alloc_new w _, fun j h4 h5 h6 h7 => ?_⟩
    rw [getD_set_ne false (Ne.symm h7)] at h6
    have := h.lt h4 h5 h6
    rw [e]
    simp only [upd, if_neg h7]
    omega
  · rw [getD_set_ne false (Ne.symm hik)] at h3
    have e : upd G k w.heap.size i = G i := by simp [upd, hik]
    have hl := h.lt h1 h2 h3
    refine ⟨by rw [e]; exact (h i h1 h2 h3).1, by rw [e]; exact (Below.heap_alloc w _ _ hl).trans (h i h1 h2 h3).2.1, fun j h4 h5 h6 h7 => ?_⟩
    rw [e]
    by_cases hjk : j = k
    · subst hjk
      simp only [upd, if_true]; omega
    · rw [getD_set_ne false (Ne.symm hjk)] at h6
      simp only [upd, if_neg hjk]
      exact (h i h1 h2 h3).2.2 j h4 h5 h6 h7

theorem wpAny_of_X {m q g base : Nat} {obj : Nat → Obj} {L : Array Bool → Act → (Nat → Nat) → Prop} {Q' : Exit → Act → World → Prop} (hF : Floats P md ops m q obj) (hCB : ∀ w w', C w → Below w.heap.size w w' → C w') (hbase : ∀ w, C w → base ≤ w.heap.size)
    (hL : ∀ listed a G w, C w → Fresh base m q obj listed G w → L listed a G → wpAny P md ops Q' g listed a w) :
    ∀ (f : Nat) (listed : Array Bool) (a : Act) (G : Nat → Nat) (w : World), C w → Fresh base m q obj listed G w → wpX P md ops C m q L f listed a G → wpAny P md ops Q' (f + g) listed a w
  | 0, listed, a, G, w, hw, hf, h => by rw [Nat.zero_add]; exact hL _ _ _ _ hw hf h
  | f + 1, listed, a, G, w, hw, hf, h => by
    rw [show f + 1 + g = (f + g) + 1 by omega]
    refine ⟨fun h0 => absurd h0 h.1, fun i hi => ?_⟩
    obtain ⟨hq, h1, h2⟩ := h.2 i hi
    rcases Nat.lt_or_ge i m with him | him
    · exact wpOp_of_opB hw (fun a' w' hb h' => wpAny_of_X hF hCB hbase hL f _ a' G w' (hCB _ _ hw hb) ((hf.head him).step hb) h') (h1 him)
    · obtain ⟨o, ho, hg, _, hr⟩ := hF.op i him hq
      unfold wpOp
      simp only [ho]
      have hwant : Region.wanted o (yielded ops a.tmps) = true := by simp [Region.wanted, hg]
      rw [if_pos hwant]
      left
      unfold Oper.wp
      rw [hr]
      simp only [Oper.upon]
      have hd : dstOf ops i = o.dst := by simp [dstOf, ho]
      have := h2 him w.heap.size
      rw [hd] at this
      exact wpAny_of_X hF hCB hbase hL f _ _ _ _ (hCB _ _ hw (Below.alloc (Below.refl _ _) (Nat.le_refl _) _)) (hf.float (hbase w hw) i) this

/-- While an operation ahead of q is not yet carried out, none behind it is ready ('pre': carried out from the start). -/
def TW (md : Region.Mode) (ops : Array Oper) (q : Nat) (pre : Nat → Bool) : Prop :=
  ∀ listed, HeadInv md ops q listed → (∀ i, pre i = true → listed.getD i false = true) → ∀ i, i < q → listed.getD i true = false → ∀ t, q ≤ t → t ∉ Region.ready md ops listed
theorem tw_none {q : Nat} (hs : Region.sinkB md ops q = true) (hc : Region.chainB md ops q = true) (hn : q < ops.size) : TW md ops q (fun _ => false) :=
  fun _ inv _ i hi hun t ht => tail_waits hs hc hn inv _ i rfl hi hun t ht
theorem wpX_first {m q i : Nat} {oi : Oper} {v : Value} {L : Array Bool → Act → (Nat → Nat) → Prop} (hi : ops[i]? = some oi) (hsel : ∀ (j : Nat) (o : Oper) cs b, ops[j]? = some o → o.op ≠ .select cs b)
    {pre : Nat → Bool} (htw : TW md ops q pre) (hmq : m ≤ q) (hin : i < m)
    (hdone : ∀ listed a G, L listed a G → ∀ j ∈ Region.ready md ops listed, q ≤ j) :
    ∀ (f : Nat) (listed : Array Bool) (a : Act) (G : Nat → Nat), HeadInv md ops q listed → (∀ k, pre k = true → listed.getD k false = true) →
      (∀ j oj, ops[j]? = some oj → j ≠ i → listed.getD j true = false → (∀ e ∈ oj.after, Region.binds md e = true → e.on ≠ i) → oi.apart ops oj = true) →
      i ∈ Region.ready md ops listed → YieldsB P ops C oi v a →
      wpX P md ops C m q L f (listed.setIfInBounds i true) (a.put oi.dst v) G → wpX P md ops C m q L (f + 1) listed a G := by
  intro f
  induction f with
  | zero =>
    intro listed a G inv hpre _ hr hy H
    have hun := (mem_ready.1 hr).1
    refine ⟨fun h => (by rw [h] at hr; cases hr), fun j hj => ?_⟩
    have hjn : j < q := by
      rcases Nat.lt_or_ge j q with h | h
      · exact h
      · exact absurd hj (htw listed inv hpre i (by omega) hun j h)
    by_cases hji : j = i
    · subst hji
      exact ⟨hjn, fun _ => ⟨oi, v, hi, hy, H⟩, fun h => by omega⟩
    · have := hdone _ _ _ H j (ready_mono hj hji)
      omega
  | succ f ih =>
    intro listed a G inv hpre hfree hr hy H
    have hun := (mem_ready.1 hr).1
    refine ⟨fun h => (by rw [h] at hr; cases hr), fun j hj => ?_⟩
    have hjn : j < q := by
      rcases Nat.lt_or_ge j q with h | h
      · exact h
      · exact absurd hj (htw listed inv hpre i (by omega) hun j h)
    refine ⟨hjn, ?_⟩
    by_cases hji : j = i
    · subst hji
      exact ⟨fun _ => ⟨oi, v, hi, hy, H⟩, fun h => by omega⟩
    · obtain ⟨_, h1, h2⟩ := H.2 j (ready_mono hj hji)
      obtain ⟨hjun, oj, hoj, hall⟩ := mem_ready.1 hj
      have hnot : ∀ e ∈ oj.after, Region.binds md e = true → e.on ≠ i := fun e he hb heq => by
        have h1 := hall e he hb
        rw [heq, getD_both hun] at h1
        cases h1
      obtain ⟨p1, p2, p3⟩ := Oper.apart_spec (hfree j oj hoj hji hjun hnot)
      have hfree' : ∀ k ok, ops[k]? = some ok → k ≠ i → (listed.setIfInBounds j true).getD k true = false →
          (∀ e ∈ ok.after, Region.binds md e = true → e.on ≠ i) → oi.apart ops ok = true := fun k ok hk hki hun hno => by
        refine hfree k ok hk hki ?_ hno
        by_cases hjk : j = k
        · subst hjk; exact hjun
        · rw [getD_set_ne true hjk] at hun; exact hun
      have hsi := fun cs b => hsel i oi cs b hi
      have hsj := fun cs b => hsel j oj cs b hoj
      refine ⟨fun hjm => ?_, fun hjm g => ?_⟩
      · obtain ⟨o', u, ho', hy', hK⟩ := h1 hjm
        obtain rfl : o' = oj := Option.some.inj (ho'.symm.trans hoj)
        refine ⟨o', u, hoj, ?_, ?_⟩
        · exact hy'.of_same (execOp_put o' hsj a oi.dst v p1).symm (wanted_put o' a oi.dst v p1).symm
        · refine ih (listed.setIfInBounds j true) _ G (inv.set hj hjn) (fun k hk => getD_set_true (hpre k hk)) hfree' (ready_mono hr (Ne.symm hji)) (hy.put hsi p3) ?_
          rw [Array.setIfInBounds_comm _ _ hji, ← Act.put_comm a v u p2]
          exact hK
      · have hd : dstOf ops j = oj.dst := by simp [dstOf, hoj]
        have h3 := h2 hjm g
        rw [hd] at h3 ⊢
        refine ih (listed.setIfInBounds j true) _ _ (inv.set hj hjn) (fun k hk => getD_set_true (hpre k hk)) hfree' (ready_mono hr (Ne.symm hji)) (hy.put hsi p3) ?_
        rw [Array.setIfInBounds_comm _ _ hji, ← Act.put_comm a v (ptrV g) p2]
        exact h3

theorem wpX_float {m q i : Nat} {obj : Nat → Obj} {L : Array Bool → Act → (Nat → Nat) → Prop} (hF : Floats P md ops m q obj)
    {pre : Nat → Bool} (htw : TW md ops q pre) (him : m ≤ i) (hin : i < q)
    (hdone : ∀ listed a G, L listed a G → ∀ j ∈ Region.ready md ops listed, q ≤ j) :
    ∀ (f : Nat) (listed : Array Bool) (a : Act) (G : Nat → Nat), HeadInv md ops q listed → (∀ k, pre k = true → listed.getD k false = true) → (∀ j, j < m → listed.getD j false = true) → listed.getD i true = false →
      (∀ g, wpX P md ops C m q L f (listed.setIfInBounds i true) (a.put (dstOf ops i) (ptrV g)) (upd G i g)) → wpX P md ops C m q L (f + 1) listed a G := by
  obtain ⟨oi, hoi, _, hdep, _⟩ := hF.op i him hin
  have rdy : ∀ listed : Array Bool, listed.getD i true = false → i ∈ Region.ready md ops listed := fun listed h => mem_ready.2 ⟨h, oi, hoi, fun e he hb => by rw [hdep e he] at hb; cases hb⟩
  intro f
  induction f with
  | zero =>
    intro listed a G inv hpre hh hun H
    have hr := rdy listed hun
    refine ⟨fun h => (by rw [h] at hr; cases hr), fun j hj => ?_⟩
    have hjn : j < q := by
      rcases Nat.lt_or_ge j q with h | h
      · exact h
      · exact absurd hj (htw listed inv hpre i hin hun j h)
    by_cases hji : j = i
    · subst hji
      exact ⟨hjn, fun h => by omega, fun _ g => H g⟩
    · have := hdone _ _ _ (H 0) j (ready_mono hj hji)
      omega
  | succ f ih =>
    intro listed a G inv hpre hh hun H
    have hr := rdy listed hun
    refine ⟨fun h => (by rw [h] at hr; cases hr), fun j hj => ?_⟩
    have hjn : j < q := by
      rcases Nat.lt_or_ge j q with h | h
      · exact h
      · exact absurd hj (htw listed inv hpre i hin hun j h)
    refine ⟨hjn, ?_⟩
    by_cases hji : j = i
    · subst hji
      exact ⟨fun h => by omega, fun _ g => H g⟩
    · have hjm : m ≤ j := by
        rcases Nat.lt_or_ge j m with h | h
        · have h1 := (mem_ready.1 hj).1
          have := hh j h
          rw [getD_both h1] at this
          cases this
        · exact h
      refine ⟨fun h => by omega, fun _ gj => ?_⟩
      refine ih _ _ _ (inv.set hj hjn) (fun k hk => getD_set_true (hpre k hk)) (fun k hk => getD_set_true (hh k hk)) (by rw [getD_set_ne true hji]; exact hun) fun gi => ?_
      have h2 := ((H gi).2 j (ready_mono hj hji)).2.2 hjm gj
      rw [Array.setIfInBounds_comm _ _ hji, upd_comm G gj gi hji, Act.put_comm a (ptrV gj) (ptrV gi) (hF.ne j i hjm hjn him hin hji)]
      exact h2

def lexHeadX (md : Region.Mode) (ops : Array Oper) (fin : Array Bool → Bool) : Nat → Nat → Array Bool → Bool
  | 0, _, listed => fin listed
  | f + 1, k, listed => (Region.ready md ops listed).contains k && Region.free md ops listed k && lexHeadX md ops fin f (k + 1) (listed.setIfInBounds k true)

theorem opB_of_quietB {Q : Act → Prop} {i : Nat} {a : Act} {o : Oper} {rest : List Oper} (hi : ops[i]? = some o) (h : wpQuietB P ops C Q (o :: rest) a) : opB P ops C i (wpQuietB P ops C Q rest) a := by
  unfold wpQuietB at h
  cases hw : Region.wanted o (yielded ops a.tmps)
  · rw [hw] at h
    exact ⟨o, undef, hi, .inr ⟨hw, rfl⟩, by simpa using h⟩
  · rw [hw] at h
    simp only [if_true] at h
    obtain ⟨v, hv, hK⟩ := h
    exact ⟨o, v, hi, .inl ⟨hw, hv⟩, hK⟩
theorem wpX_lex {m q r : Nat} {fin : Array Bool → Bool} {L : Array Bool → Act → (Nat → Nat) → Prop} {Lq : Act → Prop} (hsel : Region.noSelect ops = true) {pre : Nat → Bool} (htw : TW md ops q pre) (hn : q < ops.size) (hmq : m ≤ q)
    (hdone : ∀ listed a G, L listed a G → ∀ j ∈ Region.ready md ops listed, q ≤ j)
    (hfin : ∀ listed a G, HeadInv md ops q listed → (∀ k, pre k = true → listed.getD k false = true) → (∀ j, j < m → listed.getD j false = true) → (∀ j, m ≤ j → j < q → listed.getD j true = false) → fin listed = true → Lq a → wpX P md ops C m q L r listed a G) :
    ∀ (l : List Oper) (k : Nat) (listed : Array Bool) (a : Act) (G : Nat → Nat), (∀ j, j < l.length → l[j]? = ops[k + j]?) → k + l.length = m → HeadInv md ops q listed → (∀ k, pre k = true → listed.getD k false = true) →
    (∀ j, j < k → listed.getD j false = true) → (∀ j, m ≤ j → j < q → listed.getD j true = false) →
    lexHeadX md ops fin l.length k listed = true → wpQuietB P ops C Lq l a → wpX P md ops C m q L (l.length + r) listed a G
  | [], k, listed, a, G, _, hk, inv, hpre, hh, hf, hB, h => by
    have : k = m := by simpa using hk
    subst this
    rw [List.length_nil, Nat.zero_add]
    exact hfin _ _ _ inv hpre hh hf (by simpa [lexHeadX] using hB) h
  | o :: l, k, listed, a, G, hl, hk, inv, hpre, hh, hf, hB, h => by
    have h0 : ops[k]? = some o := by simpa using (hl 0 (by simp)).symm
    simp only [List.length_cons, lexHeadX, Bool.and_eq_true] at hB
    obtain ⟨⟨hr, hfr⟩, hB'⟩ := hB
    have hkn : k < m := by simp only [List.length_cons] at hk; omega
    have hr' : k ∈ Region.ready md ops listed := by simpa using hr
    obtain ⟨o', v, ho', hy, hK⟩ := opB_of_quietB h0 h
    obtain rfl : o' = o := Option.some.inj (ho'.symm.trans h0)
    rw [List.length_cons, show l.length + 1 + r = (l.length + r) + 1 by omega]
    refine wpX_first h0 (Region.noSelect_spec hsel) htw hmq hkn hdone _ listed a G inv hpre (Region.free_spec h0 hfr) hr' hy ?_
    refine wpX_lex hsel htw hn hmq hdone hfin l (k + 1) _ _ _ (fun j hj => by have := hl (j + 1) (by simp; omega); simpa [Nat.add_assoc, Nat.add_comm 1 j] using this) (by simp only [List.length_cons] at hk; omega) (inv.set hr' (by omega)) (fun k hk => getD_set_true (hpre k hk)) ?_ ?_ hB' hK
    · intro j hj
      by_cases hjk : j = k
      · subst hjk
        have hlt : j < listed.size := by rw [inv.size]; exact (Array.getElem?_eq_some_iff.1 h0).1
        simp [hlt]
      · exact getD_set_true (hh j (by omega))
    · intro j h1 h2
      rw [getD_set_ne true (by omega)]; exact hf j h1 h2

/-- No operation waits for a float but behind q, and floats wait for nothing. -/
def floatOp (md : Region.Mode) (o : Oper) : Bool := o.guard.isNone && o.after.all (fun e => !Region.binds md e) && o.dst.isSome
def float1B (md : Region.Mode) (ops : Array Oper) (m : Nat) : Bool :=
  Region.noSelect ops && decide (m + 1 < ops.size) && Region.sinkB md ops (m + 1) && Region.chainB md ops (m + 1) && (ops[m]?).any (floatOp md)
    && lexHeadX md ops (fun listed => Region.seqB md ops (ops.size - (m + 1)) (m + 1) (listed.setIfInBounds m true)) m 0 (Array.replicate ops.size false)
def float2B (md : Region.Mode) (ops : Array Oper) (m : Nat) : Bool :=
  Region.noSelect ops && decide (m + 2 < ops.size) && Region.sinkB md ops (m + 2) && Region.chainB md ops (m + 2) && (ops[m]?).any (floatOp md) && (ops[m + 1]?).any (floatOp md) && dstOf ops m != dstOf ops (m + 1)
    && lexHeadX md ops (fun listed => Region.seqB md ops (ops.size - (m + 2)) (m + 2) ((listed.setIfInBounds m true).setIfInBounds (m + 1) true)) m 0 (Array.replicate ops.size false)
theorem floatOp_spec {o : Oper} (h : floatOp md o = true) : o.guard = none ∧ (∀ e ∈ o.after, Region.binds md e = false) ∧ o.dst.isSome = true := by
  simp only [floatOp, Bool.and_eq_true, Option.isNone_iff_eq_none] at h
  refine ⟨h.1.1, fun e he => ?_, h.2⟩
  have := Array.all_eq_true'.1 h.1.2 e he
  simpa using this
theorem below_class {w w1 w2 : World} (h : ∃ p : Regrown, w1 = grow (redrawn w p.d) p.os) (hb : Below w1.heap.size w1 w2) : ∃ p : Regrown, w2 = grow (redrawn w p.d) p.os := by
  obtain ⟨p, rfl⟩ := h
  exact regrown_of_below ((below_regrown w p.d p.os).trans (hb.mono (below_regrown w p.d p.os).size))
theorem any_some {o : Option Oper} {p : Oper → Bool} (h : o.any p = true) : ∃ x, o = some x ∧ p x = true := by
  cases o with
  | none => cases h
  | some x => exact ⟨x, rfl, h⟩

def allocAtB (ops : Array Oper) (i : Nat) (T : TypeId) : Bool := (ops[i]?).any fun o => match o.op with
  | .alloc t => t == T
  | _ => false
theorem alloc_run {i : Nat} {T : TypeId} {ob : Obj} (h : allocAtB ops i T = true) (hz : ∀ w, (Instr.alloc T true (.tuple #[])).run P w = .ok (ptrV w.heap.size) (w.alloc ob)) :
    ∀ o, ops[i]? = some o → ∀ a w, (execOp (Act.eval a) o).run P w = .ok (.value (ptrV w.heap.size)) (w.alloc ob) := by
  intro o ho a w
  obtain ⟨o', ho', hb⟩ := any_some h
  obtain rfl : o' = o := Option.some.inj (ho'.symm.trans ho)
  have hop : o'.op = .alloc T := by
    revert hb
    cases o'.op <;> simp
  unfold execOp
  simp only [hop, Sem.run_bind, hz, Result.andThen, Sem.run_pure]
/-- **A head of m operations, an alloc at any time, a tail.** -/
theorem region_float1 {id : Nat} {Q : Exit → Act → World → Prop} {a : Act} {w : World} {l : List Oper} (m : Nat) (ob : Obj) (s : Tmp) (hsl : dstOf l.toArray m = some s) (hm : P.follows .mixedOrders = true) (hB : float1B .any l.toArray m = true)
    (hal : ∀ o, l.toArray[m]? = some o → ∀ a w, (execOp (Act.eval a) o).run P w = .ok (.value (ptrV w.heap.size)) (w.alloc ob))
    (h : wpQuietB P l.toArray (fun w' => ∃ p : Regrown, w' = grow (redrawn w p.d) p.os) (fun a' => ∀ g w', Below w.heap.size w w' → w.heap.size ≤ g → w'.heap[g]? = some ob → wpList P l.toArray Q (l.drop (m + 1)) (a'.put (some s) (ptrV g)) w') (l.take m) a) :
    (Code.region id l.toArray true).wp P Q a w := by
  simp only [float1B, Bool.and_eq_true, decide_eq_true_eq] at hB
  obtain ⟨⟨⟨⟨⟨hsel, hn⟩, hs⟩, hc⟩, hfl⟩, hlex⟩ := hB
  obtain ⟨o1, ho1, hf1⟩ := any_some hfl
  obtain ⟨g1, g2, g3⟩ := floatOp_spec hf1
  have hF : Floats P .any l.toArray m (m + 1) (fun _ => ob) := ⟨fun i h1 h2 => by
      obtain rfl : i = m := by omega
      exact ⟨o1, ho1, g1, g2, fun a w => hal o1 ho1 a w⟩, fun i j h1 h2 h3 h4 h5 => by omega⟩
  have hn' : m + 1 < l.length := by simpa using hn
  have htl : (l.take m).length = m := by simp; omega
  have hdl : (l.drop (m + 1)).length = l.toArray.size - (m + 1) := by simp
  have inv0 : HeadInv .any l.toArray (m + 1) (Array.replicate l.toArray.size false) :=
    ⟨by simp, fun j oj _ hl => (by rw [getD_replicate_false] at hl; cases hl), fun t _ ht => getD_in (by simpa using ht) (getD_replicate_false _ _)⟩
  have hdone : ∀ (listed : Array Bool) (a : Act) (G : Nat → Nat), (Region.seqB .any l.toArray (l.toArray.size - (m + 1)) (m + 1) listed = true ∧ listed.getD m false = true ∧ ∀ w', Below w.heap.size w w' → w.heap.size ≤ G m → w'.heap[G m]? = some ob → wpList P l.toArray Q (l.drop (m + 1)) a w') → ∀ j ∈ Region.ready .any l.toArray listed, m + 1 ≤ j := fun listed a G h => seqB_ready h.1
  have H := wpX_lex (P := P) (C := fun w' => ∃ p : Regrown, w' = grow (redrawn w p.d) p.os) (md := .any) (m := m) (q := m + 1) (r := 1)
    (fin := fun listed => Region.seqB .any l.toArray (l.toArray.size - (m + 1)) (m + 1) (listed.setIfInBounds m true)) hsel (tw_none hs hc hn) hn (by omega) hdone
    (fun listed a G inv hpre hh hf hfin hLq => wpX_float hF (tw_none hs hc hn) (Nat.le_refl m) (by omega) hdone 0 listed a G inv hpre hh (hf m (Nat.le_refl _) (by omega)) fun g =>
      ⟨hfin, (by have hlt : m < listed.size := by rw [inv.size]; omega
                 simp [hlt]), fun w' hb h1 h2 => by
        have e : upd G m g m = g := by simp [upd]
        rw [e] at h1 h2
        rw [hsl]
        exact hLq g w' hb h1 h2⟩)
    (l.take m) 0 _ a (fun _ => 0) (fun j hj => by
      have hj' : j < m := by rw [htl] at hj; exact hj
      simp [hj']) (by simpa using htl) inv0 (fun _ h => by cases h) (fun j hj => by omega) (fun j h1 h2 => getD_in (by simp; omega) (getD_replicate_false _ _)) (by rw [htl]; exact hlex) h
  have hC : ∃ p : Regrown, ({ w with drawn := w.drawn + 1 } : World) = grow (redrawn w p.d) p.os := ⟨⟨w.drawn + 1, #[]⟩, by rw [grow_empty]; rfl⟩
  refine wp_region_any hm ?_
  have := wpAny_of_X (Q' := Q) (g := l.toArray.size - (m + 1)) (base := w.heap.size) hF (fun _ _ => below_class) (fun w' ⟨p, hp⟩ => by rw [hp]; exact (below_regrown w p.d p.os).size)
    (fun listed a' G w' hw' hfr hL => by
      have hb : Below w.heap.size w w' := by obtain ⟨p, hp⟩ := hw'; rw [hp]; exact below_regrown w p.d p.os
      have hf := hfr m (Nat.le_refl _) (by omega) hL.2.1
      have := wpAny_of_seq (md := .any) (Q' := Q) (l.drop (m + 1)) (m + 1) listed a' w' (fun j => by simp [List.getElem?_drop]) (by rw [hdl]; exact hL.1) (hL.2.2 w' hb hf.1 hf.2.1)
      rwa [hdl] at this) _ _ _ _ _ hC (fun i h1 h2 h3 => by rw [getD_replicate_false] at h3; cases h3) H
  rw [htl, show m + 1 + (l.toArray.size - (m + 1)) = l.toArray.size by omega] at this
  exact this

/-- **A head of m operations, two allocs at any time, a tail.** -/
theorem region_float2 {id : Nat} {Q : Exit → Act → World → Prop} {a : Act} {w : World} {l : List Oper} (m : Nat) (ob : Obj) (s1 s2 : Tmp) (hs1 : dstOf l.toArray m = some s1) (hs2 : dstOf l.toArray (m + 1) = some s2) (hm : P.follows .mixedOrders = true) (hB : float2B .any l.toArray m = true)
    (hal : ∀ i o, m ≤ i → i < m + 2 → l.toArray[i]? = some o → ∀ a w, (execOp (Act.eval a) o).run P w = .ok (.value (ptrV w.heap.size)) (w.alloc ob))
    (h : wpQuietB P l.toArray (fun w' => ∃ p : Regrown, w' = grow (redrawn w p.d) p.os) (fun a' => ∀ g1 g2 w', Below w.heap.size w w' → w.heap.size ≤ g1 → w.heap.size ≤ g2 → g1 ≠ g2 → w'.heap[g1]? = some ob → w'.heap[g2]? = some ob →
      wpList P l.toArray Q (l.drop (m + 2)) ((a'.put (some s1) (ptrV g1)).put (some s2) (ptrV g2)) w') (l.take m) a) :
    (Code.region id l.toArray true).wp P Q a w := by
  simp only [float2B, Bool.and_eq_true, decide_eq_true_eq] at hB
  obtain ⟨⟨⟨⟨⟨⟨⟨hsel, hn⟩, hs⟩, hc⟩, hfl1⟩, hfl2⟩, hne⟩, hlex⟩ := hB
  obtain ⟨o1, ho1, hf1⟩ := any_some hfl1
  obtain ⟨g1, g2, g3⟩ := floatOp_spec hf1
  obtain ⟨o2, ho2, hf2⟩ := any_some hfl2
  obtain ⟨k1, k2, k3⟩ := floatOp_spec hf2
  have hne' : dstOf l.toArray m ≠ dstOf l.toArray (m + 1) := by simpa using hne
  have hF : Floats P .any l.toArray m (m + 2) (fun _ => ob) := ⟨fun i h1 h2 => by
      by_cases him : i = m
      · subst him; exact ⟨o1, ho1, g1, g2, fun a w => hal i o1 h1 h2 ho1 a w⟩
      · obtain rfl : i = m + 1 := by omega
        exact ⟨o2, ho2, k1, k2, fun a w => hal (m + 1) o2 h1 h2 ho2 a w⟩, fun i j h1 h2 h3 h4 h5 d hd hd' => by
      by_cases him : i = m
      · subst him
        obtain rfl : j = i + 1 := by omega
        exact hne' (hd.trans hd'.symm)
      · obtain rfl : i = m + 1 := by omega
        obtain rfl : j = m := by omega
        exact hne' (hd'.trans hd.symm)⟩
  have hn' : m + 2 < l.length := by simpa using hn
  have htl : (l.take m).length = m := by simp; omega
  have hdl : (l.drop (m + 2)).length = l.toArray.size - (m + 2) := by simp
  have inv0 : HeadInv .any l.toArray (m + 2) (Array.replicate l.toArray.size false) :=
    ⟨by simp, fun j oj _ hl => (by rw [getD_replicate_false] at hl; cases hl), fun t _ ht => getD_in (by simpa using ht) (getD_replicate_false _ _)⟩
  have hdone : ∀ (listed : Array Bool) (a : Act) (G : Nat → Nat), (Region.seqB .any l.toArray (l.toArray.size - (m + 2)) (m + 2) listed = true ∧ listed.getD m false = true ∧ listed.getD (m + 1) false = true ∧ ∀ w', Below w.heap.size w w' → w.heap.size ≤ G m → w.heap.size ≤ G (m + 1) → G m ≠ G (m + 1) → w'.heap[G m]? = some ob → w'.heap[G (m + 1)]? = some ob → wpList P l.toArray Q (l.drop (m + 2)) a w') → ∀ j ∈ Region.ready .any l.toArray listed, m + 2 ≤ j := fun listed a G h => seqB_ready h.1
  have H := wpX_lex (P := P) (C := fun w' => ∃ p : Regrown, w' = grow (redrawn w p.d) p.os) (md := .any) (m := m) (q := m + 2) (r := 2)
    (fin := fun listed => Region.seqB .any l.toArray (l.toArray.size - (m + 2)) (m + 2) ((listed.setIfInBounds m true).setIfInBounds (m + 1) true)) hsel (tw_none hs hc hn) hn (by omega) hdone
    (fun listed a G inv hpre hh hf hfin hLq => by
      have hlt1 : m < listed.size := by rw [inv.size]; omega
      have hlt2 : m + 1 < listed.size := by rw [inv.size]; omega
      have hr : m ∈ Region.ready .any l.toArray listed := mem_ready.2 ⟨hf m (Nat.le_refl _) (by omega), o1, ho1, fun e he hb => by rw [g2 e he] at hb; cases hb⟩
      refine wpX_float hF (tw_none hs hc hn) (Nat.le_refl m) (by omega) hdone 1 listed a G inv hpre hh (hf m (Nat.le_refl _) (by omega)) fun ga => ?_
      refine wpX_float hF (tw_none hs hc hn) (i := m + 1) (by omega) (by omega) hdone 0 _ _ _ (inv.set hr (by omega)) (fun k hk => getD_set_true (hpre k hk)) (fun j hj => getD_set_true (hh j hj)) (by rw [getD_set_ne true (by omega)]; exact hf (m + 1) (by omega) (by omega)) fun gb => ?_
      refine ⟨hfin, getD_set_true (by simp [hlt1]), by simp [hlt2], fun w' hb h1 h2 h3 h4 h5 => ?_⟩
      have e1 : upd (upd G m ga) (m + 1) gb m = ga := by simp [upd]
      have e2 : upd (upd G m ga) (m + 1) gb (m + 1) = gb := by simp [upd]
      rw [e1] at h1 h3 h4
      rw [e2] at h2 h3 h5
      rw [hs1, hs2]
      exact hLq ga gb w' hb h1 h2 h3 h4 h5)
    (l.take m) 0 _ a (fun _ => 0) (fun j hj => by
      have hj' : j < m := by rw [htl] at hj; exact hj
      simp [hj']) (by simpa using htl) inv0 (fun _ h => by cases h) (fun j hj => by omega) (fun j h1 h2 => getD_in (by simp; omega) (getD_replicate_false _ _)) (by rw [htl]; exact hlex) h
  have hC : ∃ p : Regrown, ({ w with drawn := w.drawn + 1 } : World) = grow (redrawn w p.d) p.os := ⟨⟨w.drawn + 1, #[]⟩, by rw [grow_empty]; rfl⟩
  refine wp_region_any hm ?_
  have := wpAny_of_X (Q' := Q) (g := l.toArray.size - (m + 2)) (base := w.heap.size) hF (fun _ _ => below_class) (fun w' ⟨p, hp⟩ => by rw [hp]; exact (below_regrown w p.d p.os).size)
    (fun listed a' G w' hw' hfr hL => by
      have hb : Below w.heap.size w w' := by obtain ⟨p, hp⟩ := hw'; rw [hp]; exact below_regrown w p.d p.os
      have hf := hfr m (Nat.le_refl _) (by omega) hL.2.1
      have hf2 := hfr (m + 1) (by omega) (by omega) hL.2.2.1
      have := wpAny_of_seq (md := .any) (Q' := Q) (l.drop (m + 2)) (m + 2) listed a' w' (fun j => by simp [List.getElem?_drop]) (by rw [hdl]; exact hL.1) (hL.2.2.2 w' hb hf.1 hf2.1 (hf2.2.2 m (Nat.le_refl _) (by omega) hL.2.1 (by omega)) hf.2.1 hf2.2.1)
      rwa [hdl] at this) _ _ _ _ _ hC (fun i h1 h2 h3 => by rw [getD_replicate_false] at h3; cases h3) H
  rw [htl, show m + 2 + (l.toArray.size - (m + 2)) = l.toArray.size by omega] at this
  exact this

/-! ### A move that may come at any time, a head, a tail -/
def sink1B (md : Region.Mode) (ops : Array Oper) (n : Nat) : Bool :=
  (List.range n).all fun i => i == 0 || (List.range (n + 1)).any fun j => decide (i < j) && Region.waitsFor md ops j i
theorem tw_one {q : Nat} (hs : sink1B md ops q = true) (hc : Region.chainB md ops q = true) (hn : q < ops.size) : TW md ops q (fun i => i == 0) := by
  intro listed inv hpre
  have h0 : listed.getD 0 false = true := hpre 0 rfl
  suffices H : ∀ (d i : Nat), q - i = d → i < q → listed.getD i true = false → ∀ t, q ≤ t → t ∉ Region.ready md ops listed from fun i hi hun t ht => H _ i rfl hi hun t ht
  intro d
  induction d using Nat.strongRecOn with
  | _ d ih =>
    intro i hd hi hun t ht hr
    obtain ⟨_, ot, hot, hall⟩ := mem_ready.1 hr
    have htlt : t < ops.size := (Array.getElem?_eq_some_iff.1 hot).1
    by_cases htn : t = q
    · subst htn
      have h1 := List.all_eq_true.1 hs i (List.mem_range.2 hi)
      simp only [Bool.or_eq_true, beq_iff_eq] at h1
      rcases h1 with rfl | h1
      · rw [getD_both hun] at h0; cases h0
      obtain ⟨j, hj, hj2⟩ := List.any_eq_true.1 h1
      simp only [Bool.and_eq_true, decide_eq_true_eq] at hj2
      obtain ⟨oj, hoj, e, he, hb, hon⟩ := Region.waitsFor_spec hj2.2
      have hjle : j ≤ t := by have := List.mem_range.1 hj; omega
      by_cases hjt : j = t
      · subst hjt
        have : oj = ot := Option.some.inj (hoj.symm.trans hot)
        subst this
        have h2 := hall e he hb
        rw [hon, getD_both hun] at h2
        cases h2
      · cases hl : listed.getD j false with
        | true =>
          have h2 := inv.closed j oj hoj hl e he hb
          rw [hon, getD_both hun] at h2
          cases h2
        | false =>
          have hjs : j < listed.size := by rw [inv.size]; omega
          exact ih (t - j) (by omega) j rfl (by omega) (getD_in hjs hl) t (Nat.le_refl _) hr
    · have h1 := List.all_eq_true.1 hc t (List.mem_range.2 htlt)
      simp only [Bool.or_eq_true, decide_eq_true_eq] at h1
      rcases h1 with h1 | h1
      · omega
      · obtain ⟨o', ho', e, he, hb, hon⟩ := Region.waitsFor_spec h1
        have : o' = ot := Option.some.inj (ho'.symm.trans hot)
        subst this
        have h2 := hall e he hb
        rw [hon, getD_both (inv.tail (t - 1) (by omega) (by omega))] at h2
        cases h2

def move1B (md : Region.Mode) (ops : Array Oper) (m : Nat) : Bool :=
  Region.noSelect ops && decide (m < ops.size) && decide (1 ≤ m) && sink1B md ops m && Region.chainB md ops m && (Region.ready md ops (Array.replicate ops.size false)).contains 0 && Region.free md ops (Array.replicate ops.size false) 0
    && lexHeadX md ops (fun listed => Region.seqB md ops (ops.size - m) m listed) (m - 1) 1 ((Array.replicate ops.size false).setIfInBounds 0 true)
/-- **A move that may come at any time, then operations 1 to m - 1 that read or call, then a tail.** -/
theorem region_move1 {id : Nat} {Q : Exit → Act → World → Prop} {a : Act} {w : World} {l : List Oper} (m : Nat) (o : Oper) (x : Operand) (h0 : l.toArray[0]? = some o) (hop : o.op = .move x) (hg : o.guard = none)
    (hQ : ∀ c a d v w, Q (.panic c) (a.put d v) w → Q (.panic c) a w) (hm : P.follows .mixedOrders = true) (hB : move1B .any l.toArray m = true)
    (h : wpQuietB P l.toArray (fun w' => ∃ p : Regrown, w' = grow (redrawn w p.d) p.os) (fun a' => ∀ w', Below w.heap.size w w' → wpList P l.toArray Q (l.drop m) a' w') ((l.take m).drop 1) (a.put o.dst (a.eval x))) :
    (Code.region id l.toArray true).wp P Q a w := by
  simp only [move1B, Bool.and_eq_true, decide_eq_true_eq] at hB
  obtain ⟨⟨⟨⟨⟨⟨⟨hsel, hn⟩, h1m⟩, hs⟩, hc⟩, hr0⟩, hf0⟩, hlex⟩ := hB
  have hn' : m < l.length := by simpa using hn
  have htl : ((l.take m).drop 1).length = m - 1 := by simp; omega
  have hdl : (l.drop m).length = l.toArray.size - m := by simp
  have inv0 : HeadInv .any l.toArray m (Array.replicate l.toArray.size false) :=
    ⟨by simp, fun j oj _ hl => (by rw [getD_replicate_false] at hl; cases hl), fun t _ ht => getD_in (by simpa using ht) (getD_replicate_false _ _)⟩
  have hr0' : 0 ∈ Region.ready .any l.toArray (Array.replicate l.toArray.size false) := by simpa using hr0
  have hF : Floats P .any l.toArray m m (fun _ => Obj.cells #[] 0) := ⟨fun i h1 h2 => by omega, fun i j h1 h2 h3 h4 h5 => by omega⟩
  have hdone : ∀ (listed : Array Bool) (a : Act) (G : Nat → Nat), (Region.seqB .any l.toArray (l.toArray.size - m) m listed = true ∧ ∀ w', Below w.heap.size w w' → wpList P l.toArray Q (l.drop m) a w') → ∀ j ∈ Region.ready .any l.toArray listed, m ≤ j := fun listed a G h => seqB_ready h.1
  have hset0 : ((Array.replicate l.toArray.size false).setIfInBounds 0 true).getD 0 false = true := by
    have : 0 < l.toArray.size := by omega
    simp
    omega
  have H := wpX_lex (P := P) (C := fun w' => ∃ p : Regrown, w' = grow (redrawn w p.d) p.os) (md := .any) (m := m) (q := m) (r := 0)
    (fin := fun listed => Region.seqB .any l.toArray (l.toArray.size - m) m listed) hsel (tw_one hs hc hn) hn (Nat.le_refl m) hdone
    (fun listed a G inv hpre hh hf hfin hLq => ⟨hfin, hLq⟩)
    ((l.take m).drop 1) 1 _ _ (fun _ => 0) (fun j hj => by
      have hj' : j < m - 1 := by rw [htl] at hj; exact hj
      have e1 : ((l.take m).drop 1)[j]? = l[1 + j]? := by
        rw [List.getElem?_drop, List.getElem?_take, if_pos (by omega)]
      rw [e1]; simp) (by rw [htl]; omega) (inv0.set hr0' (by omega))
    (fun i hi => by
      obtain rfl : i = 0 := by simpa using hi
      exact hset0) (fun j hj => by
      obtain rfl : j = 0 := by omega
      exact hset0) (fun j h1 h2 => by omega) (by rw [htl]; exact hlex) h
  have hC : ∃ p : Regrown, ({ w with drawn := w.drawn + 1 } : World) = grow (redrawn w p.d) p.os := ⟨⟨w.drawn + 1, #[]⟩, by rw [grow_empty]; rfl⟩
  refine wp_region_any hm ?_
  have hx := wpAny_of_X (Q' := Q) (g := l.toArray.size - m) (base := w.heap.size) hF (fun _ _ => below_class) (fun w' ⟨p, hp⟩ => by rw [hp]; exact (below_regrown w p.d p.os).size)
    (fun listed a' G w' hw' hfr hL => by
      have hb : Below w.heap.size w w' := by obtain ⟨p, hp⟩ := hw'; rw [hp]; exact below_regrown w p.d p.os
      have := wpAny_of_seq (md := .any) (Q' := Q) (l.drop m) m listed a' w' (fun j => by simp [List.getElem?_drop]) (by rw [hdl]; exact hL.1) (hL.2 w' hb)
      rwa [hdl] at this) _ _ _ _ _ hC (fun i h1 h2 h3 => by omega) H
  rw [htl, show m - 1 + 0 + (l.toArray.size - m) = l.toArray.size - 1 by omega] at hx
  have hy : Yields P l.toArray o (a.eval x) a := .inl ⟨by simp [Region.wanted, hg], fun w => by unfold execOp; rw [hop]; rfl⟩
  have := wpAny_first (md := .any) h0 (Region.noSelect_spec hsel) (fun c a w => hQ c a _ _ w) (l.toArray.size - 1) _ a _ (Region.free_spec h0 hf0) hr0' hy hx
  rwa [show l.toArray.size - 1 + 1 = l.toArray.size by omega] at this
end
end Go.Proofs.Ytnkehfhedjdhaaa

/-! Shift -/
namespace Go.Proofs.Ytnkehfhedjdhaaa
open Go.RowKit
attribute [local go_sem] quietB uponB

def up (x y : Int) (p : Pt) : Pt := (p.1 + x, p.2 + y)
def shiftL (L : List Pt) (x y : Int) : List Pt := L.map (up x y)
def shiftOk (L : List Pt) (x y : Int) : Bool := bif polyB L && (inB x (-40) 40 && inB y (-40) 40) then polyB (shiftL L x y) else false
def shiftV (L : List Pt) (x y : Int) : List Pt := bif shiftOk L x y then shiftL L x y else []
def ListsB (w : World) (M : List Pt) (b : Bool) (e : Ending) (w' : World) : Prop := ∃ v, e = .returned (.tuple #[v, .bool b]) ∧ w'.ownsRow w.heap.size 46 2 v M.length (flat M) ∧ Below w.heap.size w w'
theorem shift_no {L : List Pt} {x y : Int} (h : shiftOk L x y = false) : shiftV L x y = [] := by unfold shiftV; rw [h]; rfl
theorem plus_any (ax ay bx by' : Int) (w : World) :
    Calls Try.prog 115 #[(.agg #[.int .i64 ax, .int .i64 ay]), (.agg #[.int .i64 bx, .int .i64 by'])] w fun e w' => e = .returned (.agg #[.int .i64 (wrap64 (ax + bx)), .int .i64 (wrap64 (ay + by'))]) ∧ Below w.heap.size w w' := by
  go_enter Try.func115, Try.ntmps115
  go_wp2_with fail
  go_returns
  exact ⟨rfl, below3 _ _ _ _⟩
set_option maxRecDepth 100000 in
set_option maxHeartbeats 2000000 in
theorem impl_shift (A : Option Addr) (c : Nat) (L : List Pt) (x y : Int) (w : World) (hA : PtsA w A L) (hL : L.length ≤ 1048576) :
    Calls Try.prog 75 #[.slice A L.length c, .int .i64 x, .int .i64 y] w (ListsB w (shiftV L x y) (shiftOk L x y)) := by
  have PC := Lib.hid (impl_poly A c L w hA hL)
  have HV : Hid (shiftOk L x y = bif polyB L && (inB x (-40) 40 && inB y (-40) 40) then polyB (shiftL L x y) else false) := rfl
  cases hp : polyB L
  · rw [hp] at PC
    have HN : Hid (shiftOk L x y = false) := by
      show _ = _
      rw [HV.out, hp]; rfl
    rw [shift_no HN.out, HN.out]
    clear hA
    go_enter Try.func75, Try.ntmps75
    go_wp2_with fail
    refine PC.out.mono ?_
    rintro e w1 ⟨rfl, hb1⟩
    go_wp2_with fail
    go_ret2
    exact ⟨_, rfl, World.ownsRow_nil _ _ _ _, hb1⟩
  rw [hp] at PC
  cases hx : inB x (-40) 40
  · have HN : Hid (shiftOk L x y = false) := by
      show _ = _
      rw [HV.out, hx, Bool.false_and, Bool.and_false]; rfl
    rw [shift_no HN.out, HN.out]
    clear hA
    go_enter Try.func75, Try.ntmps75
    go_wp2_with fail
    refine PC.out.mono ?_
    rintro e w1 ⟨rfl, hb1⟩
    go_wp2_with fail
    refine (from_any _ _ _ _).mono ?_
    rintro e w2 ⟨rfl, rfl⟩
    rw [hx]
    go_wp2_with fail
    go_ret2
    exact ⟨_, rfl, World.ownsRow_nil _ _ _ _, hb1⟩
  cases hy : inB y (-40) 40
  · have HN : Hid (shiftOk L x y = false) := by
      show _ = _
      rw [HV.out, hy, Bool.and_false, Bool.and_false]; rfl
    rw [shift_no HN.out, HN.out]
    clear hA
    go_enter Try.func75, Try.ntmps75
    go_wp2_with fail
    refine PC.out.mono ?_
    rintro e w1 ⟨rfl, hb1⟩
    go_wp2_with fail
    refine (from_any _ _ _ _).mono ?_
    rintro e w2 ⟨rfl, rfl⟩
    rw [hx]
    go_wp2_with fail
    refine (from_any _ _ _ _).mono ?_
    rintro e w2 ⟨rfl, rfl⟩
    rw [hy]
    go_wp2_with fail
    go_ret2
    exact ⟨_, rfl, World.ownsRow_nil _ _ _ _, hb1⟩
  obtain ⟨h3, h10, hok⟩ := polyB_all hp
  have HV2 : Hid (shiftOk L x y = polyB (shiftL L x y)) := by
    show _ = _
    rw [HV.out, hp, hx, hy]; rfl
  have bx := inB_spec.1 hx
  have by' := inB_spec.1 hy
  obtain ⟨i0, hi0, hz0, hz1, hz2⟩ := info_parts infoPt
  obtain ⟨g, rfl, -⟩ := hA 0 (by omega)
  have HA := Lib.hid hA
  have HOK := Lib.hid (fun k (h : k < L.length) => okP_bounds (all_at hok h))
  have HP := Lib.hid (fun A c w hq => impl_poly A c (shiftL L x y) w hq (by simp [shiftL]; omega))
  have hsl : (shiftL L x y).length = L.length := by simp [shiftL]
  rw [hsl] at HP
  clear hA hok HV hL hsl
  go_enter Try.func75, Try.ntmps75
  go_wp2_with fail
  refine PC.out.mono ?_
  rintro e w1 ⟨rfl, hb1⟩
  go_wp2_with fail
  refine (from_any _ _ _ _).mono ?_
  rintro e w2 ⟨rfl, rfl⟩
  rw [hx]
  go_wp2_with fail
  refine (from_any _ _ _ _).mono ?_
  rintro e w3 ⟨rfl, rfl⟩
  rw [hy]
  clear PC hp
  have own0 := World.ownsRow_nil w3 w.heap.size 46 2
  go_wp2_with fail
  go_loopw [8, 10, 26] (fun s _ i wr => ∃ (k : Nat) (M : List (Int × Int)), k ≤ L.length ∧ i = .int .i64 k ∧ Hid (M = (L.take k).map (up x y)) ∧ wr.ownsRow w.heap.size 46 2 s M.length (flat M) ∧ Below w.heap.size w wr) (fun _ _ i _ => L.length - (intOf i).toNat)
  case atStart => exact ⟨0, [], Nat.zero_le _, rfl, rfl, own0, hb1⟩
  case round =>
    clear own0 hb1
    obtain ⟨wo, rfl⟩ : ∃ wo : World, wo = wr := ⟨_, rfl⟩
    obtain ⟨k, M, hk, rfl, HM, own, hb⟩ := hrel
    by_cases hlt : k < L.length
    · have HM2 : Hid (M ++ [((gt L k).1 + x, (gt L k).2 + y)] = (L.take (k + 1)).map (up x y)) := by
        show _ = _
        rw [map_step hlt, HM.out]; rfl
      have hML : M.length ≤ 10 := by rw [HM.out, map_len hk]; omega
      clear HM
      obtain ⟨d5, d6⟩ := gt_cells (ptsA_on HA.out hb) hlt
      have hbd := HOK.out k hlt
      generalize (gt L k).1 = u at *
      generalize (gt L k).2 = v at *
      have HPL := Lib.hid (fun w => plus_any u v x y w)
      have e1 : wrap64 (u + x) = u + x := IntWalk.wrap64_in _ (by omega)
      have e2 : wrap64 (v + y) = v + y := IntWalk.wrap64_in _ (by omega)
      rw [e1, e2] at HPL
      have n6 := at_new wo u v 46
      have c5 := n6.c0; have c6 := n6.c1
      have k5 := cell_regrown c5; have k6 := cell_regrown c6
      have b6 := hb.alloc hb.size (.cells #[.int .i64 u, .int .i64 v] 46)
      have own6 := own.alloc (.cells #[.int .i64 u, .int .i64 v] 46)
      clear hb own hbd n6 e1 e2
      go_wp2_with fail
      refine (HPL.out _).mono ?_
      rintro e w7 ⟨rfl, hb7⟩
      replace b6 := below_on b6 hb7
      replace own6 := own_below own6 hb7
      clear hb7 k5 k6 c5 c6 d5 d6 HPL
      generalize u + x = rx at *
      generalize v + y = ry at *
      have hs6 := b6.size
      go_wp2_with (at_builtin; refine wpList_append_own _ rfl _ _ 39 rfl w.heap.size 46 i0 (.agg #[.int .i64 0, .int .i64 0]) 2 16 Try.underlying39 hi0 hz0 hz1 hz2 rfl (by decide) _ _ _ rfl (own6.alloc _) ⟨w7.heap.size, 0, none⟩ 1 1 [.int .i64 rx, .int .i64 ry] rfl rfl ?d1 ?d2 ?d3 ?d4 ?d5 ?_)
      case d1 => exact World.news_of_block (cs := #[.int .i64 rx, .int .i64 ry]) (t := 46) (fr := (0, 0)) (heap_alloc_new w7 _)
      case d2 => simp [Value.oneCell']
      case d3 => unfold maxLen; omega
      case d4 => omega
      case d5 => simp; omega
      intro v' w8 own8 hgrow _
      have hrw := fun k hk => (own6.lt k hk).1
      have R : Hid (w8.ownsRow w.heap.size 46 2 v' (M ++ [(rx, ry)]).length (flat (M ++ [(rx, ry)])) ∧ Below w.heap.size w w8) :=
        ⟨by rw [flat_append, List.length_append]; exact own8, (b6.alloc b6.size _).grown hgrow (by simp; omega) hrw⟩
      clear own6 own8 hgrow b6 hrw 
      go_wp2_with fail
      go_roundw
      case rel => exact ⟨k + 1, M ++ [(rx, ry)], by omega, by go_num, HM2, R.out.1, R.out.2⟩
      case measure => simp [intOf]; omega
    · have e : k = L.length := by omega
      have HQ : Hid (M = shiftL L x y) := by
        show _ = _
        rw [HM.out, e, List.take_length]; rfl
      have hMl : M.length = L.length := by rw [HQ.out]; simp [shiftL]
      obtain ⟨_, A1, c1, rfl, p1⟩ := own_pts own
      rw [HQ.out] at p1
      have HC := Lib.hid (HP.out A1 c1 wo p1)
      have HO := Lib.hid own
      rw [hMl]
      clear HM e own p1
      cases hq : polyB (shiftL L x y)
      · rw [hq] at HC
        have HN : Hid (shiftOk L x y = false) := by
          show _ = _
          rw [HV2.out, hq]
        clear hMl HO
        go_wp2_with fail
        refine HC.out.mono ?_
        rintro e w8 ⟨rfl, hb8⟩
        have b8 := below_on hb hb8
        go_wp2_with fail
        go_ret2
        show ListsB _ _ _ _ _
        rw [shift_no HN.out, HN.out]
        exact ⟨_, rfl, World.ownsRow_nil _ _ _ _, b8⟩
      · rw [hq] at HC
        have HN : Hid (shiftOk L x y = true) := by
          show _ = _
          rw [HV2.out, hq]
        have HE : Hid (shiftV L x y = M) := by
          show _ = _
          rw [HQ.out, shiftV, HN.out]; rfl
        rw [hMl] at HO
        clear hq
        go_wp2_with fail
        refine HC.out.mono ?_
        rintro e w8 ⟨rfl, hb8⟩
        have b8 := below_on hb hb8
        have own8 := own_below HO.out hb8
        clear hb hb8
        go_wp2_with fail
        go_ret2
        show ListsB _ _ _ _ _
        rw [HE.out, HN.out]
        exact ⟨_, rfl, by rw [hMl]; exact own8, b8⟩
end Go.Proofs.Ytnkehfhedjdhaaa

/-! MovP11 -/
namespace Go.Proofs.Ytnkehfhedjdhaaa
open Go.RowKit

def okUp (N a b : Nat) : Bool := polyB (uprL (N : Int) (a : Int) (b : Int)) && polyB (shiftL (uprL (N : Int) (a : Int) (b : Int)) (a : Int) (-(b : Int)))
theorem okUp1 : (List.range 10).all (fun a => (List.range 10).all fun b => okUp 1 (a + 1) (b + 1)) = true := by decide +kernel
theorem okUp2 : (List.range 10).all (fun a => (List.range 10).all fun b => okUp 2 (a + 1) (b + 1)) = true := by decide +kernel
theorem okUp3 : (List.range 10).all (fun a => (List.range 10).all fun b => okUp 3 (a + 1) (b + 1)) = true := by decide +kernel
theorem okUp_all {n a b : Int} (h : stpsB n a b = true) : polyB (uprL n a b) = true ∧ polyB (shiftL (uprL n a b) a (-b)) = true := by
  obtain ⟨h1, h2, h3, h4, h5, h6⟩ := stpsB_bounds h
  obtain ⟨N, rfl⟩ : ∃ N : Nat, n = N := ⟨n.toNat, by omega⟩
  obtain ⟨x, rfl⟩ : ∃ x : Nat, a = ((x + 1 : Nat) : Int) := ⟨a.toNat - 1, by omega⟩
  obtain ⟨y, rfl⟩ : ∃ y : Nat, b = ((y + 1 : Nat) : Int) := ⟨b.toNat - 1, by omega⟩
  have key : okUp N (x + 1) (y + 1) = true := by
    have hN : N = 1 ∨ N = 2 ∨ N = 3 := by omega
    rcases hN with rfl | rfl | rfl
    · have q := okUp1; simp only [List.all_eq_true, List.mem_range] at q; exact q x (by omega) y (by omega)
    · have q := okUp2; simp only [List.all_eq_true, List.mem_range] at q; exact q x (by omega) y (by omega)
    · have q := okUp3; simp only [List.all_eq_true, List.mem_range] at q; exact q x (by omega) y (by omega)
  unfold okUp at key
  simpa only [Bool.and_eq_true] using key
def movV (n a b : Int) : List (Int × Int) := bif stpsB n a b then shiftL (uprL n a b) a (-b) else []
theorem movV_len (n a b : Int) : (movV n a b).length ≤ 8 := by
  have := uprV_len n a b
  unfold movV uprV at *
  cases h : stpsB n a b
  · simp
  · rw [h] at this
    simpa [shiftL] using this
theorem shift_up (n a b : Int) : shiftV (uprV n a b) a (-b) = movV n a b := by
  unfold movV uprV
  cases h : stpsB n a b
  · simp only [cond_false]
    exact shift_no (by unfold shiftOk; rfl)
  · obtain ⟨h1, h2⟩ := okUp_all h
    have hb := stpsB_bounds h
    simp only [cond_true]
    have hok : shiftOk (uprL n a b) a (-b) = true := by
      unfold shiftOk
      rw [h1, h2, show inB a (-40) 40 = true from inB_spec.2 (by omega), show inB (-b) (-40) 40 = true from inB_spec.2 (by omega)]; rfl
    unfold shiftV
    rw [hok]; rfl
theorem shift_up' (n a b : Int) : shiftV (uprV n a b) a (wrap64 (-b)) = movV n a b := by
  cases h : stpsB n a b
  · have e : uprV n a b = [] := by unfold uprV; rw [h]; rfl
    have e2 : movV n a b = [] := by unfold movV; rw [h]; rfl
    rw [e, e2]
    exact shift_no (by unfold shiftOk; rfl)
  · have := stpsB_bounds h
    rw [wrap_id (x := -b) (by omega)]
    exact shift_up n a b
set_option maxHeartbeats 1000000 in
theorem impl_moved (n a b : Int) (w : World) :
    Calls Try.prog 29 #[.int .i64 n, .int .i64 a, .int .i64 b] w (Lists w (movV n a b)) := by
  have H1 := Lib.hid (impl_upper n a b w)
  have HL := Lib.hid (uprV_len n a b)
  have HM := Lib.hid (shift_up' n a b)
  have HU : Hid (∀ v w', w'.ownsRow w.heap.size 46 2 v (movV n a b).length (flat (movV n a b)) → Below w.heap.size w w' → Lists w (movV n a b) (.returned v) w') := fun v w' h1 h2 => ⟨v, rfl, h1, h2⟩
  unfold Lists at H1
  generalize uprV n a b = L at *
  go_enter Try.func29, Try.ntmps29
  go_wp2_with fail
  refine H1.out.mono ?_
  rintro e w1 ⟨v1, rfl, own1, b1⟩
  obtain ⟨_, A1, c1, rfl, p1⟩ := own_pts own1
  have HS := Lib.hid (impl_shift A1 c1 L a (wrap64 (-b)) w1 p1 (by have := HL.out; omega))
  unfold ListsB at HS
  rw [HM.out] at HS
  clear own1 p1
  go_wp2_with fail
  refine HS.out.mono ?_
  rintro e w2 ⟨v2, rfl, own2, hb2⟩
  have b2 := below_on b1 hb2
  have R := Lib.hid (own_base own2 b1.size)
  clear own2 hb2
  go_wp2_with fail
  go_ret
  exact HU.out _ _ R.out b2
set_option maxRecDepth 100000 in
set_option maxHeartbeats 4000000 in
theorem spec_moved (n a b : Int) (w : World) :
    Calls Try.prog 47 #[.int .i64 n, .int .i64 a, .int .i64 b] w (Lists w (movV n a b)) := by
  have H1 := Lib.hid (spec_upper n a b)
  have HU : Hid (∀ v w', w'.ownsRow w.heap.size 46 2 v (movV n a b).length (flat (movV n a b)) → Below w.heap.size w w' → Lists w (movV n a b) (.returned v) w') := fun v w' h1 h2 => ⟨v, rfl, h1, h2⟩
  have HM : Hid (movV n a b = shiftL (uprV n a b) a (-b) ∧ ∀ i, i < (uprV n a b).length → 0 ≤ (gt (uprV n a b) i).1 ∧ (gt (uprV n a b) i).1 ≤ 40 ∧ 0 ≤ (gt (uprV n a b) i).2 ∧ (gt (uprV n a b) i).2 ≤ 40 ∧ 0 ≤ a ∧ a ≤ 10 ∧ 0 ≤ b ∧ b ≤ 10) := by
    unfold movV uprV
    cases h : stpsB n a b
    · exact ⟨rfl, fun i hi => by simp at hi⟩
    · obtain ⟨h1, h2⟩ := okUp_all h
      have hb := stpsB_bounds h
      refine ⟨rfl, fun i hi => ?_⟩
      have := okP_bounds (all_at (polyB_all h1).2.2 hi)
      simp only [cond_true] at *
      omega
  have HL := Lib.hid (uprV_len n a b)
  unfold Lists at H1
  generalize uprV n a b = L at *
  obtain ⟨i0, hi0, hz0, hz1, hz2⟩ := info_parts infoPt
  have own0 := World.ownsRow_lit (base := w.heap.size) (e := 46) (size := 2) w #[] 0 (Nat.le_refl _) (by decide) (by rfl)
  have b0 := below1 w (.cells #[] 46)
  go_enter Try.func47, Try.ntmps47
  go_wp2_with fail
  refine (H1.out _).mono ?_
  rintro e w2 ⟨v, rfl, own2, hb2⟩
  have ap2 := own_apart own0 (Nat.le_refl _) own2
  have own1 := own_below own0 hb2
  have b2 := below_on b0 hb2
  obtain ⟨_, A2, c2, rfl, -⟩ := own_pts own2
  clear hb2 own0 b0
  go_wp2_with fail
  go_loopw [7, 9, 16] (fun s _ i wr => ∃ (k : Nat) (M : List (Int × Int)), k ≤ L.length ∧ i = .int .i64 k ∧ Hid (M = shiftL (L.take k) a (-b)) ∧ wr.ownsRow w.heap.size 46 2 s M.length (flat M) ∧ (s.ownBlock = none ∨ s.ownBlock ≠ (Value.slice A2 L.length c2).ownBlock) ∧
      wr.ownsRow 0 46 2 (.slice A2 L.length c2) L.length (flat L) ∧ Below w.heap.size w wr) (fun _ _ i _ => L.length - (intOf i).toNat)
  case atStart => exact ⟨0, [], Nat.zero_le _, rfl, rfl, own1, ap2, own_base own2 (Nat.zero_le _), b2⟩
  case round =>
    obtain ⟨wo, rfl⟩ : ∃ wo : World, wo = wr := ⟨_, rfl⟩
    clear own1 own2 ap2 b2
    obtain ⟨k, M, hk, rfl, HQ, hown, hap, hoc, hb⟩ := hrel
    by_cases hlt : k < L.length
    · obtain ⟨g2, rfl, -⟩ := (ptsA_of hoc) 0 (by omega)
      obtain ⟨c1, c2'⟩ := gt_cells (ptsA_of hoc) (i := k) hlt
      have hbd := HM.out.2 k hlt
      have hML : M.length ≤ 8 := by rw [HQ.out]; simp [shiftL]; have := HL.out; omega
      have HM2 : Hid (M ++ [((gt L k).1 + a, (gt L k).2 + (-b))] = shiftL (L.take (k + 1)) a (-b)) := by
        show _ = _
        rw [HQ.out, List.take_succ_eq_append_getElem hlt, gt_at hlt]
        unfold shiftL
        rw [List.map_append]; rfl
      clear HQ
      generalize (gt L k).1 = px at *
      generalize (gt L k).2 = py at *
      have hp1 : (k : Int) < (L.length : Int) := by omega
      have hl8 : L.length ≤ 8 := HL.out
      have hsz := hb.size
      have hocl := hoc.lt g2 rfl
      obtain ⟨X, hX⟩ : ∃ X, X = px + a := ⟨_, rfl⟩
      obtain ⟨Y, hY⟩ : ∃ Y, Y = py - b := ⟨_, rfl⟩
      have f5 : IntKind.i64.wrap X = X := IntWalk.i64_in _ (by omega)
      have f6 : IntKind.i64.wrap Y = Y := IntWalk.i64_in _ (by omega)
      have HM3 : Hid (M ++ [(X, Y)] = shiftL (L.take (k + 1)) a (-b)) := by
        show _ = _
        rw [← HM2.out, hX, hY, Int.sub_eq_add_neg]
      have g5 := hX.symm; have g6 := hY.symm
      clear hX hY HM2 hbd
      have ap := hap
      go_wp2_with (at_builtin; refine wpList_append_lies _ rfl _ _ 39 rfl w.heap.size 46 i0 (.agg #[.int .i64 0, .int .i64 0]) 2 16 Try.underlying39 hi0 hz0 hz1 hz2 rfl (by decide) _ _ _ rfl ((hown.alloc _).alloc _) ⟨wo.heap.size + 1, 0, none⟩ 1 1 [.int .i64 X, .int .i64 Y] rfl rfl ?d1 ?d2 (by omega) ?d3 ?d4 ?d5 (wo.heap.size + 1 + 1) (by simp) ?_)
      case d1 =>
        have hx := World.news_of_block (cs := #[.int .i64 X, .int .i64 Y]) (t := 46) (fr := (0, 0)) (heap_alloc_new (wo.alloc (.cells #[.int .i64 px, .int .i64 py] 46)) (.cells #[.int .i64 X, .int .i64 Y] 46))
        rw [size_alloc] at hx
        exact hx
      case d2 => simp [Value.oneCell']
      case d3 => unfold maxLen; omega
      case d4 => omega
      case d5 => simp; omega
      intro g6 cp6 w6 own6 hgrow hat _
      have hr := fun k hk => (hown.lt k hk).1
      have HN : Hid ((M ++ [(X, Y)]).length = M.length + 1) := by simp [Hid]
      have R : Hid (w6.ownsRow w.heap.size 46 2 (.slice (some ⟨g6, 0, none⟩) (M ++ [(X, Y)]).length cp6) (M ++ [(X, Y)]).length (flat (M ++ [(X, Y)])) ∧ ((Value.slice (some ⟨g6, 0, none⟩) (M ++ [(X, Y)]).length cp6).ownBlock = none ∨ (Value.slice (some ⟨g6, 0, none⟩) (M ++ [(X, Y)]).length cp6).ownBlock ≠ (Value.slice (some ⟨g2, 0, none⟩) L.length c2).ownBlock) ∧
          w6.ownsRow 0 46 2 (.slice (some ⟨g2, 0, none⟩) L.length c2) L.length (flat L) ∧ Below w.heap.size w w6) := by
        refine ⟨by rw [flat_append, HN.out]; exact own6, .inr ?_, ?_, ((hb.alloc hb.size _).alloc (by simp; omega) _).grown hgrow (by simp; omega) hr⟩
        · simp only [Value.ownBlock, ne_eq, Option.some.injEq]
          rcases hat with hat | hat
          · rcases ap with ap | ap
            · rw [hat] at ap; cases ap
            · rw [hat] at ap; simpa [Value.ownBlock] using ap
          · omega
        · refine ((hoc.alloc _).alloc _).kept hgrow ?_
          rcases ap with ap | ap
          · rw [ap]; exact .inr (by simp [Value.ownBlock])
          · exact .inr (Ne.symm ap)
      clear hown own6 hgrow hb c1 c2' hap ap hoc hat
      go_wp2_with fail
      first
        | exact ⟨⟨k + 1, M ++ [(X, Y)], by omega, by first | rfl | go_num, HM3, by first | exact R.out.1 | (rw [HN.out]; exact R.out.1), by first | exact R.out.2.1 | (rw [HN.out]; exact R.out.2.1), R.out.2.2.1, R.out.2.2.2⟩, by simp [intOf]; omega⟩
        | (go_roundw
           case rel => exact ⟨k + 1, M ++ [(X, Y)], by omega, by first | rfl | go_num, HM3, by first | exact R.out.1 | (rw [HN.out] at *; exact R.out.1), by first | exact R.out.2.1 | (rw [HN.out] at *; exact R.out.2.1), R.out.2.2.1, R.out.2.2.2⟩
           case measure => simp [intOf]; omega)
    · have HE : Hid (movV n a b = M) := by
        show _ = _
        rw [HQ.out, HM.out.1, List.take_of_length_le (by omega)]
      have R := Lib.hid hown
      clear hown HQ hoc hap
      go_wp2_with fail
      go_ret
      exact HU.out _ _ (by rw [HE.out]; exact R.out) hb
end Go.Proofs.Ytnkehfhedjdhaaa

/-! Law11A -/
namespace Go.Proofs.Ytnkehfhedjdhaaa
open Go.RowKit

theorem ex_stepsOk (n a b : Int) (w : World) :
    Calls Try.prog 5 #[.int .i64 n, .int .i64 a, .int .i64 b] w fun e w' => e = .returned (.bool true) ∧ Below w.heap.size w w' := by
  have HS := Lib.hid (spec_stepsOk n a b)
  have HI := Lib.hid (impl_stepsOk n a b)
  generalize stpsB n a b = x at *
  cases x
  all_goals (
    go_enter Try.func5, Try.ntmps5
    go_wp2_with fail
    refine (HS.out _).mono ?_
    rintro e w1 ⟨rfl, rfl⟩
    go_wp2_with fail
    refine (HI.out _).mono ?_
    rintro e w2 ⟨rfl, rfl⟩
    go_wp2_with fail
    go_ret
    exact ⟨rfl, Below.refl _ _⟩)
set_option maxHeartbeats 1000000 in
theorem ex_between (w h v u : Int) (W : World) :
    Calls Try.prog 10 #[.int .i64 w, .int .i64 h, .int .i64 v, .int .i64 u] W fun e w' => e = .returned (.bool true) ∧ Below W.heap.size W w' := by
  have HS := Lib.hid (fun W => spec_between w h v u W)
  have HI := Lib.hid (fun W => impl_between w h v u W)
  unfold BetOut at HS HI
  go_enter Try.func10, Try.ntmps10
  go_wp2_with fail
  refine (HS.out _).mono ?_
  rintro e w1 ⟨N, A, B, ok, rfl, hb, b1⟩
  go_wp2_with fail
  refine (HI.out _).mono ?_
  rintro e w2 ⟨N', A', B', ok', rfl, hb', hb2⟩
  obtain ⟨rfl, rfl, rfl, rfl⟩ := hb.uniq hb'
  have b2 := below_on b1 hb2
  clear hb hb' hb2 b1
  cases ok
  all_goals (
    go_wp2_with fail
    go_ret
    exact ⟨rfl, b2⟩)
set_option maxRecDepth 100000 in
set_option maxHeartbeats 2000000 in
theorem law_lower (n a b : Int) (M : List (Int × Int)) (w : World)
    (SC : ∀ w, Calls Try.prog 42 #[.int .i64 n, .int .i64 a, .int .i64 b] w (Lists w M))
    (IC : ∀ w, Calls Try.prog 27 #[.int .i64 n, .int .i64 a, .int .i64 b] w (Lists w M)) (hM : M.length ≤ 1048576) :
    Calls Try.prog 6 #[.int .i64 n, .int .i64 a, .int .i64 b] w fun e w' => e = .returned (.bool true) ∧ Below w.heap.size w w' := by
  have HS : Hid (∀ w, Calls Try.prog 42 #[.int .i64 n, .int .i64 a, .int .i64 b] w fun e w' => ∃ v, e = .returned v ∧ w'.ownsRow w.heap.size 46 2 v M.length (flat M) ∧ Below w.heap.size w w') := SC
  have HI : Hid (∀ w, Calls Try.prog 27 #[.int .i64 n, .int .i64 a, .int .i64 b] w fun e w' => ∃ v, e = .returned v ∧ w'.ownsRow w.heap.size 46 2 v M.length (flat M) ∧ Below w.heap.size w w') := IC
  have HMM := Lib.hid hM
  clear SC IC hM
  go_enter Try.func6, Try.ntmps6
  go_wp2_with fail
  refine (HS.out w).mono ?_
  rintro e w1 ⟨v1, rfl, own1, b1⟩
  go_wp2_with fail
  refine (HI.out w1).mono ?_
  rintro e w2 ⟨v2, rfl, own2, hb2⟩
  have b2 := below_on b1 hb2
  have ap12 := own_apart own1 (Nat.le_refl _) own2
  replace own1 := own_below own1 hb2
  replace own2 := own_base own2 b1.size
  clear hb2 b1
  obtain ⟨_, A1, c1, rfl, p1⟩ := own_pts own1
  obtain ⟨_, A2, c2, rfl, p2⟩ := own_pts own2
  go_wp2_with fail
  refine (eq_pts A2 A1 c2 c1 M w2 p2 p1 HMM.out).mono ?_
  rintro e w3 ⟨rfl, hb3⟩
  have b3 := below_on b2 hb3
  replace own1 := own_below own1 hb3
  replace own2 := own_below own2 hb3
  clear hb3 p1 p2 b2
  go_wp2_with fail
  refine (mark_pts _ _ _ _ w3 own2 HMM.out).mono ?_
  rintro e w4 ⟨rfl, own2m, hg4⟩
  have b4 := b3.grown hg4 b3.size (fun k hk => (own2.lt k hk).1)
  replace own1 := own1.kept hg4 ap12
  clear hg4 own2 ap12 b3
  go_wp2_with fail
  refine (held_pts _ _ _ w4 own2m HMM.out).mono ?_
  rintro e w5 ⟨rfl, rfl⟩
  go_wp2_with fail
  refine (HI.out _).mono ?_
  rintro e w6 ⟨v6, rfl, own6, hb6⟩
  have b6 := below_on b4 hb6
  replace own1 := own_below own1 hb6
  replace own2m := own_below own2m hb6
  obtain ⟨_, A6, c6, rfl, p6⟩ := own_pts own6
  have p1 := ptsA_of own1
  clear hb6 own6 b4
  go_wp2_with fail
  refine (eq_pts A6 A1 c6 c1 M w6 p6 p1 HMM.out).mono ?_
  rintro e w7 ⟨rfl, hb7⟩
  have b7 := below_on b6 hb7
  replace own2m := own_below own2m hb7
  clear hb7 own1 p1 p6 b6
  go_wp2_with fail
  refine (held_pts _ _ _ w7 own2m HMM.out).mono ?_
  rintro e w8 ⟨rfl, rfl⟩
  go_wp2_with fail
  go_ret
  exact ⟨rfl, b7⟩
set_option maxRecDepth 100000 in
set_option maxHeartbeats 2000000 in
theorem law_upper (n a b : Int) (M : List (Int × Int)) (w : World)
    (SC : ∀ w, Calls Try.prog 46 #[.int .i64 n, .int .i64 a, .int .i64 b] w (Lists w M))
    (IC : ∀ w, Calls Try.prog 28 #[.int .i64 n, .int .i64 a, .int .i64 b] w (Lists w M)) (hM : M.length ≤ 1048576) :
    Calls Try.prog 7 #[.int .i64 n, .int .i64 a, .int .i64 b] w fun e w' => e = .returned (.bool true) ∧ Below w.heap.size w w' := by
  have HS : Hid (∀ w, Calls Try.prog 46 #[.int .i64 n, .int .i64 a, .int .i64 b] w fun e w' => ∃ v, e = .returned v ∧ w'.ownsRow w.heap.size 46 2 v M.length (flat M) ∧ Below w.heap.size w w') := SC
  have HI : Hid (∀ w, Calls Try.prog 28 #[.int .i64 n, .int .i64 a, .int .i64 b] w fun e w' => ∃ v, e = .returned v ∧ w'.ownsRow w.heap.size 46 2 v M.length (flat M) ∧ Below w.heap.size w w') := IC
  have HMM := Lib.hid hM
  clear SC IC hM
  go_enter Try.func7, Try.ntmps7
  go_wp2_with fail
  refine (HS.out w).mono ?_
  rintro e w1 ⟨v1, rfl, own1, b1⟩
  go_wp2_with fail
  refine (HI.out w1).mono ?_
  rintro e w2 ⟨v2, rfl, own2, hb2⟩
  have b2 := below_on b1 hb2
  have ap12 := own_apart own1 (Nat.le_refl _) own2
  replace own1 := own_below own1 hb2
  replace own2 := own_base own2 b1.size
  clear hb2 b1
  obtain ⟨_, A1, c1, rfl, p1⟩ := own_pts own1
  obtain ⟨_, A2, c2, rfl, p2⟩ := own_pts own2
  go_wp2_with fail
  refine (eq_pts A2 A1 c2 c1 M w2 p2 p1 HMM.out).mono ?_
  rintro e w3 ⟨rfl, hb3⟩
  have b3 := below_on b2 hb3
  replace own1 := own_below own1 hb3
  replace own2 := own_below own2 hb3
  clear hb3 p1 p2 b2
  go_wp2_with fail
  refine (mark_pts _ _ _ _ w3 own2 HMM.out).mono ?_
  rintro e w4 ⟨rfl, own2m, hg4⟩
  have b4 := b3.grown hg4 b3.size (fun k hk => (own2.lt k hk).1)
  replace own1 := own1.kept hg4 ap12
  clear hg4 own2 ap12 b3
  go_wp2_with fail
  refine (held_pts _ _ _ w4 own2m HMM.out).mono ?_
  rintro e w5 ⟨rfl, rfl⟩
  go_wp2_with fail
  refine (HI.out _).mono ?_
  rintro e w6 ⟨v6, rfl, own6, hb6⟩
  have b6 := below_on b4 hb6
  replace own1 := own_below own1 hb6
  replace own2m := own_below own2m hb6
  obtain ⟨_, A6, c6, rfl, p6⟩ := own_pts own6
  have p1 := ptsA_of own1
  clear hb6 own6 b4
  go_wp2_with fail
  refine (eq_pts A6 A1 c6 c1 M w6 p6 p1 HMM.out).mono ?_
  rintro e w7 ⟨rfl, hb7⟩
  have b7 := below_on b6 hb7
  replace own2m := own_below own2m hb7
  clear hb7 own1 p1 p6 b6
  go_wp2_with fail
  refine (held_pts _ _ _ w7 own2m HMM.out).mono ?_
  rintro e w8 ⟨rfl, rfl⟩
  go_wp2_with fail
  go_ret
  exact ⟨rfl, b7⟩
set_option maxRecDepth 100000 in
set_option maxHeartbeats 2000000 in
theorem law_moved (n a b : Int) (M : List (Int × Int)) (w : World)
    (SC : ∀ w, Calls Try.prog 47 #[.int .i64 n, .int .i64 a, .int .i64 b] w (Lists w M))
    (IC : ∀ w, Calls Try.prog 29 #[.int .i64 n, .int .i64 a, .int .i64 b] w (Lists w M)) (hM : M.length ≤ 1048576) :
    Calls Try.prog 8 #[.int .i64 n, .int .i64 a, .int .i64 b] w fun e w' => e = .returned (.bool true) ∧ Below w.heap.size w w' := by
  have HS : Hid (∀ w, Calls Try.prog 47 #[.int .i64 n, .int .i64 a, .int .i64 b] w fun e w' => ∃ v, e = .returned v ∧ w'.ownsRow w.heap.size 46 2 v M.length (flat M) ∧ Below w.heap.size w w') := SC
  have HI : Hid (∀ w, Calls Try.prog 29 #[.int .i64 n, .int .i64 a, .int .i64 b] w fun e w' => ∃ v, e = .returned v ∧ w'.ownsRow w.heap.size 46 2 v M.length (flat M) ∧ Below w.heap.size w w') := IC
  have HMM := Lib.hid hM
  clear SC IC hM
  go_enter Try.func8, Try.ntmps8
  go_wp2_with fail
  refine (HS.out w).mono ?_
  rintro e w1 ⟨v1, rfl, own1, b1⟩
  go_wp2_with fail
  refine (HI.out w1).mono ?_
  rintro e w2 ⟨v2, rfl, own2, hb2⟩
  have b2 := below_on b1 hb2
  have ap12 := own_apart own1 (Nat.le_refl _) own2
  replace own1 := own_below own1 hb2
  replace own2 := own_base own2 b1.size
  clear hb2 b1
  obtain ⟨_, A1, c1, rfl, p1⟩ := own_pts own1
  obtain ⟨_, A2, c2, rfl, p2⟩ := own_pts own2
  go_wp2_with fail
  refine (eq_pts A2 A1 c2 c1 M w2 p2 p1 HMM.out).mono ?_
  rintro e w3 ⟨rfl, hb3⟩
  have b3 := below_on b2 hb3
  replace own1 := own_below own1 hb3
  replace own2 := own_below own2 hb3
  clear hb3 p1 p2 b2
  go_wp2_with fail
  refine (mark_pts _ _ _ _ w3 own2 HMM.out).mono ?_
  rintro e w4 ⟨rfl, own2m, hg4⟩
  have b4 := b3.grown hg4 b3.size (fun k hk => (own2.lt k hk).1)
  replace own1 := own1.kept hg4 ap12
  clear hg4 own2 ap12 b3
  go_wp2_with fail
  refine (held_pts _ _ _ w4 own2m HMM.out).mono ?_
  rintro e w5 ⟨rfl, rfl⟩
  go_wp2_with fail
  refine (HI.out _).mono ?_
  rintro e w6 ⟨v6, rfl, own6, hb6⟩
  have b6 := below_on b4 hb6
  replace own1 := own_below own1 hb6
  replace own2m := own_below own2m hb6
  obtain ⟨_, A6, c6, rfl, p6⟩ := own_pts own6
  have p1 := ptsA_of own1
  clear hb6 own6 b4
  go_wp2_with fail
  refine (eq_pts A6 A1 c6 c1 M w6 p6 p1 HMM.out).mono ?_
  rintro e w7 ⟨rfl, hb7⟩
  have b7 := below_on b6 hb7
  replace own2m := own_below own2m hb7
  clear hb7 own1 p1 p6 b6
  go_wp2_with fail
  refine (held_pts _ _ _ w7 own2m HMM.out).mono ?_
  rintro e w8 ⟨rfl, rfl⟩
  go_wp2_with fail
  go_ret
  exact ⟨rfl, b7⟩
set_option maxRecDepth 100000 in
set_option maxHeartbeats 2000000 in
theorem law_rectangle (n a : Int) (M : List (Int × Int)) (w : World)
    (SC : ∀ w, Calls Try.prog 48 #[.int .i64 n, .int .i64 a] w (Lists w M))
    (IC : ∀ w, Calls Try.prog 37 #[.int .i64 n, .int .i64 a] w (Lists w M)) (hM : M.length ≤ 1048576) :
    Calls Try.prog 9 #[.int .i64 n, .int .i64 a] w fun e w' => e = .returned (.bool true) ∧ Below w.heap.size w w' := by
  have HS : Hid (∀ w, Calls Try.prog 48 #[.int .i64 n, .int .i64 a] w fun e w' => ∃ v, e = .returned v ∧ w'.ownsRow w.heap.size 46 2 v M.length (flat M) ∧ Below w.heap.size w w') := SC
  have HI : Hid (∀ w, Calls Try.prog 37 #[.int .i64 n, .int .i64 a] w fun e w' => ∃ v, e = .returned v ∧ w'.ownsRow w.heap.size 46 2 v M.length (flat M) ∧ Below w.heap.size w w') := IC
  have HMM := Lib.hid hM
  clear SC IC hM
  go_enter Try.func9, Try.ntmps9
  go_wp2_with fail
  refine (HS.out w).mono ?_
  rintro e w1 ⟨v1, rfl, own1, b1⟩
  go_wp2_with fail
  refine (HI.out w1).mono ?_
  rintro e w2 ⟨v2, rfl, own2, hb2⟩
  have b2 := below_on b1 hb2
  have ap12 := own_apart own1 (Nat.le_refl _) own2
  replace own1 := own_below own1 hb2
  replace own2 := own_base own2 b1.size
  clear hb2 b1
  obtain ⟨_, A1, c1, rfl, p1⟩ := own_pts own1
  obtain ⟨_, A2, c2, rfl, p2⟩ := own_pts own2
  go_wp2_with fail
  refine (eq_pts A2 A1 c2 c1 M w2 p2 p1 HMM.out).mono ?_
  rintro e w3 ⟨rfl, hb3⟩
  have b3 := below_on b2 hb3
  replace own1 := own_below own1 hb3
  replace own2 := own_below own2 hb3
  clear hb3 p1 p2 b2
  go_wp2_with fail
  refine (mark_pts _ _ _ _ w3 own2 HMM.out).mono ?_
  rintro e w4 ⟨rfl, own2m, hg4⟩
  have b4 := b3.grown hg4 b3.size (fun k hk => (own2.lt k hk).1)
  replace own1 := own1.kept hg4 ap12
  clear hg4 own2 ap12 b3
  go_wp2_with fail
  refine (held_pts _ _ _ w4 own2m HMM.out).mono ?_
  rintro e w5 ⟨rfl, rfl⟩
  go_wp2_with fail
  refine (HI.out _).mono ?_
  rintro e w6 ⟨v6, rfl, own6, hb6⟩
  have b6 := below_on b4 hb6
  replace own1 := own_below own1 hb6
  replace own2m := own_below own2m hb6
  obtain ⟨_, A6, c6, rfl, p6⟩ := own_pts own6
  have p1 := ptsA_of own1
  clear hb6 own6 b4
  go_wp2_with fail
  refine (eq_pts A6 A1 c6 c1 M w6 p6 p1 HMM.out).mono ?_
  rintro e w7 ⟨rfl, hb7⟩
  have b7 := below_on b6 hb7
  replace own2m := own_below own2m hb7
  clear hb7 own1 p1 p6 b6
  go_wp2_with fail
  refine (held_pts _ _ _ w7 own2m HMM.out).mono ?_
  rintro e w8 ⟨rfl, rfl⟩
  go_wp2_with fail
  go_ret
  exact ⟨rfl, b7⟩
theorem ex_lower (n a b : Int) (w : World) : Calls Try.prog 6 #[.int .i64 n, .int .i64 a, .int .i64 b] w fun e w' => e = .returned (.bool true) ∧ Below w.heap.size w w' :=
  law_lower n a b (lwV n a b) w (fun w => spec_lower n a b w) (fun w => impl_lower n a b w) (by have := lwV_len n a b; omega)
theorem ex_upper (n a b : Int) (w : World) : Calls Try.prog 7 #[.int .i64 n, .int .i64 a, .int .i64 b] w fun e w' => e = .returned (.bool true) ∧ Below w.heap.size w w' :=
  law_upper n a b (uprV n a b) w (fun w => spec_upper n a b w) (fun w => impl_upper n a b w) (by have := uprV_len n a b; omega)
theorem ex_moved (n a b : Int) (w : World) : Calls Try.prog 8 #[.int .i64 n, .int .i64 a, .int .i64 b] w fun e w' => e = .returned (.bool true) ∧ Below w.heap.size w w' :=
  law_moved n a b (movV n a b) w (fun w => spec_moved n a b w) (fun w => impl_moved n a b w) (by have := movV_len n a b; omega)
theorem ex_rectangle (x y : Int) (w : World) : Calls Try.prog 9 #[.int .i64 x, .int .i64 y] w fun e w' => e = .returned (.bool true) ∧ Below w.heap.size w w' :=
  law_rectangle x y (rcV x y) w (fun w => spec_rect x y w) (fun w => impl_rect x y w) (by have := rcV_len x y; omega)
end Go.Proofs.Ytnkehfhedjdhaaa

/-! Base -/
namespace Go.Proofs.Ytnkehfhedjdhaaa
open Go.ChangeShapes Go.WideShapes Go.ChangeAt Go.RowKit

/-- The arguments read behind the call as before, if below the old heap's size nothing has turned. -/
theorem args_stay {H : Type} {enc : TypeId × Value → H} {P : Program} (hl : laidOutB P = true) {W W' : World} (hb : Below W.heap.size W W') :
    ∀ (ts : List TypeId) (vs : List Value) (ds : List (DataW H)) (p : List MemPlace), (∀ t ∈ ts, P.readableRec t = true ∧ t < P.types.size) →
      DataW.TrodAll enc P W 0 (fun _ => true) true ts vs ds p → (∀ x ∈ p, x.block < W.heap.size) → DataW.TrodAll enc P W' 0 (fun b => decide (b < W.heap.size)) true ts vs ds p
  | [], vs, ds, p, _, h, _ => by
    obtain ⟨rfl, rfl, rfl⟩ := trodAll_nil h
    exact trodAll_mk0
  | t :: ts, vs, ds, p, ht, h, hp => by
    obtain ⟨v, vs1, d, ds1, a, b, rfl, rfl, rfl, h1, h2⟩ := trodAll_cons h
    exact trodAll_cons_mk (Below.trod hl (ht t (by simp)).1 (ht t (by simp)).2 h1 hb (fun x hx => hp x (by simp [hx])))
      (args_stay hl hb ts vs1 ds1 b (fun t h => ht t (by simp [h])) h2 (fun x hx => hp x (by simp [hx])))

/-- A law's 'post': one bool back, true; the arguments as they were; no variable is listed. -/
theorem law_post {H : Type} {enc : TypeId × Value → H} {P : Program} {f : Func} {s : ChangeSpec} {W W' : World} {args : Array Value} {ds gs : List (DataW H)} {before : List MemPlace} {tb : TypeId}
    (hl : laidOutB P = true) (ht : f.params.toList.all (fun t => P.readableRec t && decide (t < P.types.size)) = true) (hr : f.resultTypes = #[tb]) (ub : P.underlying tb = some .bool) (hv : s.vars = [])
    (hs : (s.fn H (ds ++ gs)).results = [.lit (.bool true)] ∧ (s.fn H (ds ++ gs)).args = ds ∧ (s.fn H (ds ++ gs)).vars = [])
    (hW : DataW.Whole enc P f.params.toList s.vars false W args.toList ds gs before) (hb : Below W.heap.size W W') :
    s.post enc P f false true false false W args (.bool true) W' := by
  have hW' := hW
  obtain ⟨p, q, hA, hV, hpq, _, _⟩ := hW
  rw [hv] at hV
  obtain ⟨rfl, rfl⟩ := trodVars_none hV
  have hlt : ∀ x ∈ p, x.block < W.heap.size := fun x hx => by simpa using hW'.lt x (by rw [hpq]; simp [hx])
  refine ⟨ds, [], before, [], p, [], hW', ?_, ?_, ?_, hb.frame _, fun h => by cases h⟩
  · rw [hs.1, hr]
    exact trodAll_mk1 (shut_bool ub _)
  · rw [hs.2.1]
    exact args_stay hl hb _ _ _ _ (fun t h => by simpa using List.all_eq_true.1 ht t h) hA hlt
  · rw [hs.2.2, hv]
    rfl
end Go.Proofs.Ytnkehfhedjdhaaa
