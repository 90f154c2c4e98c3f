/-
  A walk for PolygonOk of the model.
-/
import Derived.Test.YtimkknljoeiceaaMeet
import Derived.Test.YtimkknljoeiceaaGcd
namespace Go.Proofs.Ytimkknljoeiceaa
open Go.RowKit

def gt (L : List (Int × Int)) (i : Nat) : Int × Int := L.getD i (0, 0)
theorem gt_at {L : List (Int × Int)} {i : Nat} (h : i < L.length) : gt L i = L[i] := by simp [gt, h]
/-- Two sides, by their first corners' indexes i < k, meet as those of a polygon. -/
def adjB (n i k : Nat) : Bool := (k == i + 1) || (i == 0 && k == n - 1)
def pairM (L : List (Int × Int)) (i k : Nat) : Int := meetI (gt L i) (gt L ((i + 1) % L.length)) (gt L k) (gt L ((k + 1) % L.length))
def pairOk (L : List (Int × Int)) (i k : Nat) : Bool := bif adjB L.length i k then pairM L i k == 1 else pairM L i k == 0
def nbB (L : List (Int × Int)) : Bool := (List.range L.length).all fun i => !(eqQ (gt L i) (gt L ((i + 1) % L.length)))
def pairsB (L : List (Int × Int)) : Bool := (List.range L.length).all fun i => (List.range L.length).all fun k => decide (k ≤ i) || pairOk L i k
def polyB (L : List (Int × Int)) : Bool := inB L.length 3 10 && allOk L && nbB L && pairsB L
theorem nb_true {L : List (Int × Int)} (h : ∀ j, j < L.length → eqQ (gt L j) (gt L ((j + 1) % L.length)) = false) : nbB L = true := by
  simp only [nbB, List.all_eq_true, List.mem_range]
  intro j hj; rw [h j hj]; rfl
theorem nb_false {L : List (Int × Int)} {j : Nat} (hj : j < L.length) (h : eqQ (gt L j) (gt L ((j + 1) % L.length)) = true) : nbB L = false := by
  cases hb : nbB L
  · rfl
  · simp only [nbB, List.all_eq_true, List.mem_range] at hb
    have := hb j hj
    rw [h] at this; simp at this
theorem pairs_true {L : List (Int × Int)} (h : ∀ i, i < L.length → ∀ k, i < k → k < L.length → pairOk L i k = true) : pairsB L = true := by
  simp only [pairsB, List.all_eq_true, List.mem_range, Bool.or_eq_true, decide_eq_true_eq]
  intro i hi k hk
  rcases Nat.lt_or_ge i k with h1 | h1
  · exact .inr (h i hi k h1 hk)
  · exact .inl h1
theorem pairs_false {L : List (Int × Int)} {i k : Nat} (hi : i < k) (hk : k < L.length) (h : pairOk L i k = false) : pairsB L = false := by
  cases hb : pairsB L
  · rfl
  · simp only [pairsB, List.all_eq_true, List.mem_range, Bool.or_eq_true, decide_eq_true_eq] at hb
    rcases hb i (by omega) k hk with h1 | h1
    · omega
    · rw [h] at h1; cases h1
theorem all_at {L : List (Int × Int)} (h : allOk L = true) {i : Nat} (hi : i < L.length) : okP (gt L i).1 (gt L i).2 = true := by
  rw [gt_at hi]
  simp only [allOk, List.all_eq_true] at h
  exact h _ (List.getElem_mem hi)
theorem gt_cells {w : World} {g : Nat} {L : List (Int × Int)} (h : PtsA w (some ⟨g, 0, none⟩) L) {i : Nat} (hi : i < L.length) : w.cell? ⟨g, i * 2, none⟩ = some (.int .i64 (gt L i).1) ∧ w.cell? ⟨g, i * 2 + 1, none⟩ = some (.int .i64 (gt L i).2) := by
  obtain ⟨g', hg, h1, h2⟩ := h i hi
  simp only [Option.some.injEq, Addr.mk.injEq, and_true] at hg
  subst hg
  rw [gt_at hi]
  exact ⟨h1, h2⟩
theorem next_int {i n : Nat} (hn : 0 < n) : Int.tmod ((i : Int) + 1) (n : Int) = (((i + 1) % n : Nat) : Int) ∧ (i + 1) % n < n := by
  refine ⟨?_, Nat.mod_lt _ hn⟩
  have : (i : Int) + 1 = ((i + 1 : Nat) : Int) := by omega
  rw [this, tmod_nat]

set_option maxHeartbeats 8000000 in
set_option maxRecDepth 100000 in
theorem spec_poly (A : Option Addr) (c : Nat) (L : List (Int × Int)) (w : World) (hA : PtsA w A L) (hL : L.length ≤ 1048576) :
    Calls Try.prog 64 #[.slice A L.length c] w fun e w' => e = .returned (.bool (polyB L)) ∧ Below w.heap.size w w' := by
  have GP := guard_pt
  have EP := fun w x y x' y' => eql_pt w x y x' y'
  have HV : Hid (polyB L = (inB L.length 3 10 && allOk L && nbB L && pairsB L)) := rfl
  cases hin : inB (L.length : Int) 3 10
  · clear hA
    go_enter Try.func64, Try.ntmps64
    go_wp2_with fail
    refine (in_any _ _ _ _).mono ?_
    rintro e w1 ⟨rfl, rfl⟩
    go_wp2_with fail
    go_ret
    exact ⟨ret_bool (by rw [HV.out, hin]; rfl), Below.refl _ _⟩
  have hn := inB_spec.1 hin
  have h0 : 0 < L.length := by omega
  obtain ⟨g, rfl, -⟩ := hA 0 h0
  have HA := Lib.hid hA; clear hA
  go_enter Try.func64, Try.ntmps64
  go_wp2_with fail
  refine (in_any _ _ _ _).mono ?_
  rintro e w1 ⟨rfl, rfl⟩
  go_wp2_with fail
  go_loopw [4, 16] (fun _ i wr => ∃ k : Nat, k ≤ L.length ∧ i = .int .i64 k ∧ Hid (allOk L = allOk (L.drop k)) ∧ Below w1.heap.size w1 wr) (fun _ i _ => L.length - (intOf i).toNat)
  case atStart => exact ⟨0, Nat.zero_le _, rfl, rfl, Below.refl _ _⟩
  case round =>
    obtain ⟨wo, rfl⟩ : ∃ wo : World, wo = wr := ⟨_, rfl⟩
    obtain ⟨k, hk, rfl, HK, hb⟩ := hrel
    by_cases hlt : k < L.length
    · obtain ⟨c1, c2⟩ := gt_cells (ptsA_on HA.out hb) hlt
      have hd : L.drop k = L[k] :: L.drop (k + 1) := List.drop_eq_getElem_cons hlt
      have HK2 : Hid (allOk L = (okP (gt L k).1 (gt L k).2 && allOk (L.drop (k + 1)))) := by
        show _ = _
        rw [HK.out, hd, gt_at hlt]; rfl
      generalize (gt L k).1 = x at *
      generalize (gt L k).2 = y at *
      clear hd HK
      go_wp2_with fail
      refine (spec_ok _ _ _).mono ?_
      rintro e w2 ⟨rfl, hb2⟩
      have b2 := below_on (hb.alloc hb.size _) hb2
      clear hb hb2 c1 c2
      cases hok : okP x y
      · rw [hok] at HK2
        go_wp2_with fail
        go_ret
        exact ⟨ret_bool (by rw [HV.out, HK2.out, Bool.false_and, Bool.and_false, Bool.false_and, Bool.false_and]), b2⟩
      · rw [hok] at HK2
        go_wp2_with fail
        go_roundw
        case rel => exact ⟨k + 1, by omega, by go_num, HK2, b2⟩
        case measure => simp [intOf]; omega
    · have HAK : Hid (allOk L = true) := by
        show _ = _
        rw [HK.out, List.drop_of_length_le (by omega)]; rfl
      clear HK
      have b1 := hb
      clear hb
      obtain ⟨w2, e2⟩ : ∃ w2 : World, w2 = wo := ⟨_, rfl⟩
      rw [← e2] at b1 ⊢
      clear e2 wo
      have HA2 := Lib.hid (ptsA_on HA.out b1)
      go_wp2_with fail
      clear hlt hk
      go_loopw [6, 28] (fun _ i wr => ∃ k : Nat, k ≤ L.length ∧ i = .int .i64 k ∧ Hid (∀ j, j < L.length → j < k → eqQ (gt L j) (gt L ((j + 1) % L.length)) = false) ∧ Below w2.heap.size w2 wr) (fun _ i _ => L.length - (intOf i).toNat)
      case atStart => exact ⟨0, Nat.zero_le _, rfl, fun j _ h => by omega, Below.refl _ _⟩
      case round =>
        obtain ⟨wo, rfl⟩ : ∃ wo : World, wo = wr := ⟨_, rfl⟩
        obtain ⟨k, hk, rfl, HN, hb⟩ := hrel
        by_cases hlt : k < L.length
        · obtain ⟨hr, hrl⟩ := next_int (i := k) h0
          have hap := ptsA_on HA2.out hb
          obtain ⟨c1, c2⟩ := gt_cells hap hlt
          obtain ⟨c3, c4⟩ := gt_cells hap hrl
          clear hap
          have HE : Hid (eqQ (gt L k) (gt L ((k + 1) % L.length)) = ((gt L k).1 == (gt L ((k + 1) % L.length)).1 && (gt L k).2 == (gt L ((k + 1) % L.length)).2)) := rfl
          have hf1 : IntKind.i64.wrap ((k : Int) + 1) = (k : Int) + 1 := IntWalk.i64_in _ (by omega)
          obtain ⟨r, er⟩ : ∃ r, r = (k + 1) % L.length := ⟨_, rfl⟩
          have HR := Lib.hid er
          rw [← er] at hr hrl c3 c4 HE
          clear er
          have hf2 : IntKind.i64.wrap (r : Int) = (r : Int) := IntWalk.i64_in _ (by omega)
          have hne : ¬ L.length = 0 := by omega
          have hp1 : (r : Int) < (L.length : Int) := by omega
          have hp2 : (0 : Int) ≤ (r : Int) := by omega
          generalize (gt L k).1 = x at *
          generalize (gt L k).2 = y at *
          generalize (gt L r).1 = x' at *
          generalize (gt L r).2 = y' at *
          cases he : (x == x' && y == y')
          · have HN2 : Hid (∀ j, j < L.length → j < k + 1 → eqQ (gt L j) (gt L ((j + 1) % L.length)) = false) := fun j hj h => by
              rcases Nat.lt_or_ge j k with h1 | h1
              · exact HN.out j hj h1
              · obtain rfl : j = k := by omega
                rw [← HR.out, HE.out, he]
            go_wp2_with fail
            go_quiet (fail)
            go_wp2_with fail
            go_roundw
            case rel => exact ⟨k + 1, by omega, by go_num, HN2, ⟨hb.os, hb.tape, hb.output, hb.size, hb.block⟩⟩
            case measure => simp [intOf]; omega
          · have HF : Hid (nbB L = false) := nb_false hlt (by rw [← HR.out, HE.out, he])
            go_wp2_with fail
            go_quiet (fail)
            go_wp2_with fail
            go_ret
            have b3 := below_on b1 hb
            exact ⟨ret_bool (by rw [HV.out, HF.out, Bool.and_false, Bool.false_and]), b3.os, b3.tape, b3.output, b3.size, b3.block⟩
        · have HNB : Hid (nbB L = true) := nb_true fun j hj => HN.out j hj (by omega)
          have b3 := below_on b1 hb
          obtain ⟨w3, e3⟩ : ∃ w3 : World, w3 = wo := ⟨_, rfl⟩
          have HA3 := Lib.hid (ptsA_on HA2.out hb)
          rw [← e3] at b3 HA3 ⊢
          clear e3 hb HN b1
          go_wp2_with fail
          clear hlt hk
          go_loopw [7, 8, 9, 46] (fun _ _ _ i wr => ∃ k : Nat, k ≤ L.length ∧ i = .int .i64 k ∧ Hid (∀ i, i < k → ∀ m, i < m → m < L.length → pairOk L i m = true) ∧ Below w3.heap.size w3 wr) (fun _ _ _ i _ => L.length - (intOf i).toNat)
          case atStart => exact ⟨0, Nat.zero_le _, rfl, fun j h => by omega, Below.refl _ _⟩
          case round =>
            obtain ⟨wo, rfl⟩ : ∃ wo : World, wo = wr := ⟨_, rfl⟩
            obtain ⟨k, hk, rfl, HN, hb⟩ := hrel
            by_cases hlt : k < L.length
            · have hf1 : IntKind.i64.wrap ((k : Int) + 1) = (k : Int) + 1 := IntWalk.i64_in _ (by omega)
              go_wp2_with fail
              go_loopw [8, 9] (fun m _ wr => ∃ q : Nat, k + 1 ≤ q ∧ q ≤ L.length ∧ m = .int .i64 q ∧ Hid (∀ m, k < m → m < q → pairOk L k m = true) ∧ Below w3.heap.size w3 wr) (fun m _ _ => L.length - (intOf m).toNat)
              case atStart => exact ⟨k + 1, Nat.le_refl _, by omega, by go_num, fun m h1 h2 => by omega, hb⟩
              case round =>
                obtain ⟨wi, rfl⟩ : ∃ wi : World, wi = wr := ⟨_, rfl⟩
                clear hb
                obtain ⟨q, hkq, hq, rfl, HM, hb⟩ := hrel
                by_cases hlq : q < L.length
                · obtain ⟨hr, hrl⟩ := next_int (i := k) h0
                  obtain ⟨hs, hsl⟩ := next_int (i := q) h0
                  have hap := ptsA_on HA3.out hb
                  obtain ⟨c1, c2⟩ := gt_cells hap hlt
                  obtain ⟨c3, c4⟩ := gt_cells hap hrl
                  obtain ⟨c5, c6⟩ := gt_cells hap hlq
                  obtain ⟨c7, c8⟩ := gt_cells hap hsl
                  have HCM := Lib.hid (fun w => meet_any _ _ _ _ _ _ _ _ w (all_at HAK.out hlt) (all_at HAK.out hrl) (all_at HAK.out hlq) (all_at HAK.out hsl))
                  have HPM : Hid (pairM L k q = meetI ((gt L k).1, (gt L k).2) ((gt L ((k + 1) % L.length)).1, (gt L ((k + 1) % L.length)).2) ((gt L q).1, (gt L q).2) ((gt L ((q + 1) % L.length)).1, (gt L ((q + 1) % L.length)).2)) := rfl
                  clear hap
                  generalize (k + 1) % L.length = r at *
                  generalize (q + 1) % L.length = t at *
                  generalize (gt L k).1 = x1 at *
                  generalize (gt L k).2 = y1 at *
                  generalize (gt L r).1 = x2 at *
                  generalize (gt L r).2 = y2 at *
                  generalize (gt L q).1 = x3 at *
                  generalize (gt L q).2 = y3 at *
                  generalize (gt L t).1 = x4 at *
                  generalize (gt L t).2 = y4 at *
                  have hf2 : IntKind.i64.wrap (r : Int) = (r : Int) := IntWalk.i64_in _ (by omega)
                  have hf3 : IntKind.i64.wrap ((q : Int) + 1) = (q : Int) + 1 := IntWalk.i64_in _ (by omega)
                  have hf4 : IntKind.i64.wrap (t : Int) = (t : Int) := IntWalk.i64_in _ (by omega)
                  have hne : ¬ L.length = 0 := by omega
                  have hp1 : (r : Int) < (L.length : Int) := by omega
                  have hp2 : (0 : Int) ≤ (r : Int) := by omega
                  have hp3 : (t : Int) < (L.length : Int) := by omega
                  have hp4 : (0 : Int) ≤ (t : Int) := by omega
                  have k1 := cell_regrown c1; have k2 := cell_regrown c2; have k3 := cell_regrown c3; have k4 := cell_regrown c4; have k5 := cell_regrown c5; have k6 := cell_regrown c6; have k7 := cell_regrown c7; have k8 := cell_regrown c8
                  go_wp2_with fail
                  refine wp_region_quiet_below (by kernel_rfl) (by kernel_rfl) ?_
                  repeat (first
                    | go_big_quiet_step (first | exact Calls.regrown_of (HCM.out _))
                    | quiet_step (first | exact Calls.regrown_of (HCM.out _)))
                  refine wpQuiet_nil ?_
                  rintro _ ⟨⟨dq, osq⟩, rfl⟩
                  have hb2 := below_on hb (below_regrown _ dq osq)
                  clear k1 k2 k3 k4 k5 k6 k7 k8 c1 c2 c3 c4 c5 c6 c7 c8 hb
                  simp only at *
                  generalize Go.Sort.grow (redrawn wi dq) osq = w5 at *
                  clear hr hs hf2 hf4 hp1 hp2 hp3 hp4 HCM
                  generalize meetI (x1, y1) (x2, y2) (x3, y3) (x4, y4) = M at *
                  have HAD : Hid (pairOk L k q = bif adjB L.length k q then pairM L k q == 1 else pairM L k q == 0) := rfl
                  have hw1 : wrap64 ((L.length : Int) - 1) = (L.length : Int) - 1 := IntWalk.wrap64_in _ (by omega)
                  have hw2 : IntKind.i64.wrap ((L.length : Int) - 1) = (L.length : Int) - 1 := IntWalk.i64_in _ (by omega)
                  by_cases h1 : q = k + 1
                  · have e1 : ((q : Int) == (k : Int) + 1) = true := by rw [beq_iff_eq]; omega
                    have e1' : ((k + 1 : Nat) : Int) = (k : Int) + 1 := by omega
                    have HJ : Hid (adjB L.length k q = true) := by
                      show _ = _
                      simp [adjB, h1]
                    clear h1
                    cases hM : (M == 1)
                    · have HF : Hid (pairsB L = false) := pairs_false (i := k) (k := q) (by omega) hlq (by rw [HAD.out, HJ.out, HPM.out]; exact hM)
                      have hM' : (M != 1) = true := by simp [bne, hM]
                      go_wp2_with fail
                      go_ret
                      exact ⟨ret_bool (by rw [HV.out, HF.out, Bool.and_false]), below_on b3 hb2⟩
                    · have HM2 : Hid (∀ m, k < m → m < q + 1 → pairOk L k m = true) := fun m h1 h2 => by
                        rcases Nat.lt_or_ge m q with h3 | h3
                        · exact HM.out m h1 h3
                        · obtain rfl : m = q := by omega
                          rw [HAD.out, HJ.out, HPM.out]; exact hM
                      have hM' : (M != 1) = false := by simp [bne, hM]
                      go_wp2_with fail
                      go_roundw
                      case rel => exact ⟨q + 1, by omega, by omega, by go_num, HM2, hb2⟩
                      case measure => simp [intOf]; omega
                  · have e1 : ((q : Int) == (k : Int) + 1) = false := by rw [beq_eq_false_iff_ne]; omega
                    by_cases h2 : k = 0
                    · have e2 : ((k : Int) == 0) = true := by rw [beq_iff_eq]; omega
                      by_cases h3 : q = L.length - 1
                      · have e3 : ((q : Int) == (L.length : Int) - 1) = true := by rw [beq_iff_eq]; omega
                        have HJ : Hid (adjB L.length k q = true) := by
                          show _ = _
                          simp [adjB, h2, h3]
                        clear h3 h2
                        cases hM : (M == 1)
                        · have HF : Hid (pairsB L = false) := pairs_false (i := k) (k := q) (by omega) hlq (by rw [HAD.out, HJ.out, HPM.out]; exact hM)
                          have hM' : (M != 1) = true := by simp [bne, hM]
                          go_wp2_with fail
                          go_ret
                          exact ⟨ret_bool (by rw [HV.out, HF.out, Bool.and_false]), below_on b3 hb2⟩
                        · have HM2 : Hid (∀ m, k < m → m < q + 1 → pairOk L k m = true) := fun m h1 h2 => by
                            rcases Nat.lt_or_ge m q with h3 | h3
                            · exact HM.out m h1 h3
                            · obtain rfl : m = q := by omega
                              rw [HAD.out, HJ.out, HPM.out]; exact hM
                          have hM' : (M != 1) = false := by simp [bne, hM]
                          go_wp2_with fail
                          go_roundw
                          case rel => exact ⟨q + 1, by omega, by omega, by go_num, HM2, hb2⟩
                          case measure => simp [intOf]; omega
                      · have e3 : ((q : Int) == (L.length : Int) - 1) = false := by rw [beq_eq_false_iff_ne]; omega
                        have HJ : Hid (adjB L.length k q = false) := by
                          show _ = _
                          simp [adjB, h3]; omega
                        clear h2
                        cases hM : (M == 0)
                        · have HF : Hid (pairsB L = false) := pairs_false (i := k) (k := q) (by omega) hlq (by rw [HAD.out, HJ.out, HPM.out]; exact hM)
                          have hM' : (M != 0) = true := by simp [bne, hM]
                          go_wp2_with fail
                          go_ret
                          exact ⟨ret_bool (by rw [HV.out, HF.out, Bool.and_false]), below_on b3 hb2⟩
                        · have HM2 : Hid (∀ m, k < m → m < q + 1 → pairOk L k m = true) := fun m h1 h2 => by
                            rcases Nat.lt_or_ge m q with h3 | h3
                            · exact HM.out m h1 h3
                            · obtain rfl : m = q := by omega
                              rw [HAD.out, HJ.out, HPM.out]; exact hM
                          have hM' : (M != 0) = false := by simp [bne, hM]
                          go_wp2_with fail
                          go_roundw
                          case rel => exact ⟨q + 1, by omega, by omega, by go_num, HM2, hb2⟩
                          case measure => simp [intOf]; omega
                    · have e2 : ((k : Int) == 0) = false := by rw [beq_eq_false_iff_ne]; omega
                      have HJ : Hid (adjB L.length k q = false) := by
                        show _ = _
                        simp [adjB, h2]; omega
                      cases hM : (M == 0)
                      · have HF : Hid (pairsB L = false) := pairs_false (i := k) (k := q) (by omega) hlq (by rw [HAD.out, HJ.out, HPM.out]; exact hM)
                        have hM' : (M != 0) = true := by simp [bne, hM]
                        go_wp2_with fail
                        go_ret
                        exact ⟨ret_bool (by rw [HV.out, HF.out, Bool.and_false]), below_on b3 hb2⟩
                      · have HM2 : Hid (∀ m, k < m → m < q + 1 → pairOk L k m = true) := fun m h1 h2 => by
                          rcases Nat.lt_or_ge m q with h3 | h3
                          · exact HM.out m h1 h3
                          · obtain rfl : m = q := by omega
                            rw [HAD.out, HJ.out, HPM.out]; exact hM
                        have hM' : (M != 0) = false := by simp [bne, hM]
                        go_wp2_with fail
                        go_roundw
                        case rel => exact ⟨q + 1, by omega, by omega, by go_num, HM2, hb2⟩
                        case measure => simp [intOf]; omega
                · have HN2 : Hid (∀ i, i < k + 1 → ∀ m, i < m → m < L.length → pairOk L i m = true) := fun i hi m h1 h2 => by
                    rcases Nat.lt_or_ge i k with h3 | h3
                    · exact HN.out i h3 m h1 h2
                    · obtain rfl : i = k := by omega
                      exact HM.out m h1 (by omega)
                  go_wp2_with fail
                  go_roundw
                  case rel => exact ⟨k + 1, by omega, by go_num, HN2, hb⟩
                  case measure => simp [intOf]; omega
            · have HPB : Hid (pairsB L = true) := pairs_true fun i hi m h1 h2 => HN.out i (by omega) m h1 h2
              have b4 := below_on b3 hb
              clear hb b3
              go_wp2_with fail
              go_ret
              exact ⟨ret_bool (by rw [HV.out, hin, HAK.out, HNB.out, HPB.out]; rfl), b4⟩
end Go.Proofs.Ytimkknljoeiceaa
