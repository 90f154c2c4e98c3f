/-
  slices.Clone and slices.Reverse on points, and TurnPolygon of the program.
-/
import Derived.Test.YtimkknljoeiceaaGeo
import Derived.WalkSpells
import Derived.RegionTactic
namespace Go.Proofs.Ytimkknljoeiceaa
open Go.RowKit

theorem ptsA_news {w : World} {g : Nat} {L : List (Int × Int)} (h : PtsA w (some ⟨g, 0, none⟩) L) (k : Nat) : ∀ j u, (flat (L.drop k))[j]? = some u → w.cell? (Addr.add ⟨g, k * 2, none⟩ j) = some u := by
  intro j u hu
  have hj : j < (flat (L.drop k)).length := by
    rcases Nat.lt_or_ge j (flat (L.drop k)).length with h1 | h1
    · exact h1
    · rw [List.getElem?_eq_none h1] at hu; cases hu
  rw [flat_len, List.length_drop] at hj
  have hq : k + j / 2 < L.length := by omega
  obtain ⟨g', hg', h1, h2⟩ := h (k + j / 2) hq
  cases hg'
  have hf := flat_at (L.drop k) (j / 2) (by rw [List.length_drop]; omega)
  have hadd : Addr.add ⟨g, k * 2, none⟩ j = ⟨g, k * 2 + j, none⟩ := by
    unfold Addr.add
    split
    · rename_i h0; subst h0; rfl
    · rfl
  rw [hadd]
  have hd : (L.drop k)[j / 2]'(by rw [List.length_drop]; omega) = L[k + j / 2] := List.getElem_drop ..
  rw [hd] at hf
  rcases Nat.mod_two_eq_zero_or_one j with hm | hm
  · have e : j = j / 2 * 2 := by omega
    have e2 : k * 2 + j = (k + j / 2) * 2 := by omega
    rw [e2, h1, ← hu]
    rw [show (flat (L.drop k))[j]? = (flat (L.drop k))[j / 2 * 2]? from by rw [← e]]
    exact hf.1.symm
  · have e : j = j / 2 * 2 + 1 := by omega
    have e2 : k * 2 + j = (k + j / 2) * 2 + 1 := by omega
    rw [e2, h2, ← hu]
    rw [show (flat (L.drop k))[j]? = (flat (L.drop k))[j / 2 * 2 + 1]? from by rw [← e]]
    exact hf.2.symm
theorem flat_one (L : List (Int × Int)) : ∀ u ∈ flat L, u.oneCell' = true := by
  intro u hu
  simp only [flat, List.mem_flatMap, List.mem_cons, List.not_mem_nil, or_false] at hu
  obtain ⟨p, -, h | h⟩ := hu <;> subst h <;> rfl

set_option maxRecDepth 100000 in
set_option maxHeartbeats 1000000 in
theorem clone_any (A : Option Addr) (c : Nat) (L : List (Int × Int)) (w : World) (hA : PtsA w A L) (h1 : 1 ≤ L.length) (h2 : L.length ≤ 1048576) :
    Calls Try.prog 211 #[.slice A L.length c] w (Lists w L) := by
  obtain ⟨i0, hi0, hz0, hz1, hz2⟩ := info_parts infoPt
  obtain ⟨g, rfl, -⟩ := hA 0 h1
  have HU : Hid (Lists w L = fun e w' => ∃ v, e = .returned v ∧ w'.ownsRow w.heap.size 54 2 v L.length (flat L) ∧ Below w.heap.size w w') := rfl
  have hn := Lib.run_eql_slice_nil (P := Try.prog)
  have own0 := World.ownsRow_lit (base := w.heap.size) (e := 54) (size := 2) w #[] 0 (Nat.le_refl _) (by unfold maxLen; omega) (by rfl)
  have hb0 := below1 w (.cells #[] 54)
  have hA1 := ptsA_on hA hb0
  go_enter Try.func211, Try.ntmps211
  have HN := Lib.hid (ptsA_news hA1 0)
  rw [List.drop_zero, Nat.zero_mul] at HN
  clear hA hA1
  go_wp2_with (at_builtin; refine wpList_append_own _ rfl _ _ 27 rfl w.heap.size 54 i0 (.agg #[.int .i64 0, .int .i64 0]) 2 16 Try.underlying27 hi0 hz0 hz1 hz2 rfl (by decide) _ _ _ rfl own0 ⟨g, 0, none⟩ L.length c (flat L) rfl (flat_len L) HN.out (flat_one L) ?d3 ?d4 (by simp) ?_)
  case d3 => unfold maxLen; omega
  case d4 => omega
  intro v' w6 own6 hgrow _
  have R : Hid (w6.ownsRow w.heap.size 54 2 v' L.length (flat L) ∧ Below w.heap.size w w6) :=
    ⟨by simpa using own6, hb0.grown hgrow (by simp) (fun k hk => (own0.lt k hk).1)⟩
  clear own0 own6 hgrow hb0
  go_wp2_with fail
  go_ret
  rw [HU.out]
  exact ⟨_, rfl, R.out.1, R.out.2⟩

/-! ### slices.Reverse behind the first element -/
/-- After k rounds. -/
def revAt (M : List (Int × Int)) (k t : Nat) : Int × Int := if 1 ≤ t ∧ (t ≤ k ∨ M.length - k ≤ t) then gt M (M.length - t) else gt M t
def revK (M : List (Int × Int)) (k : Nat) : List (Int × Int) := (List.range M.length).map (revAt M k)
theorem revK_len (M : List (Int × Int)) (k : Nat) : (revK M k).length = M.length := by simp [revK]
theorem revK_zero (M : List (Int × Int)) : revK M 0 = M := by
  apply List.ext_getElem (by simp [revK])
  intro t h1 h2
  simp only [revK, List.getElem_map, List.getElem_range, revAt]
  rw [if_neg (by omega), gt_at h2]
theorem revK_all (M : List (Int × Int)) {k : Nat} (h : M.length ≤ 2 * k + 2) (h0 : 1 ≤ M.length) : revK M k = turnL M := by
  apply List.ext_getElem (by simp [revK, turnL, turnTill]; omega)
  intro t h1 h2
  have ht : t < M.length := by simpa [revK] using h1
  simp only [revK, List.getElem_map, List.getElem_range, revAt]
  cases t with
  | zero => rw [if_neg (by omega)]; rfl
  | succ t =>
    have e : (turnL M)[t + 1]'h2 = gt M (M.length - 1 - t) := by simp [turnL, turnTill]
    rw [e]
    by_cases hc : t + 1 ≤ k ∨ M.length - k ≤ t + 1
    · rw [if_pos ⟨by omega, hc⟩]; congr 1; omega
    · rw [if_neg (by omega)]; congr 1; omega
theorem gt_revK (M : List (Int × Int)) (k t : Nat) (ht : t < M.length) : gt (revK M k) t = revAt M k t := by
  rw [gt_at (by rw [revK_len]; exact ht)]
  simp [revK]
theorem revK_step (M : List (Int × Int)) (k : Nat) (h : 2 * k + 2 < M.length) :
    revK M (k + 1) = ((revK M k).set (1 + k) (gt (revK M k) (M.length - 1 - k))).set (M.length - 1 - k) (gt (revK M k) (1 + k)) := by
  rw [gt_revK _ _ _ (by omega), gt_revK _ _ _ (by omega)]
  apply List.ext_getElem (by simp [revK])
  intro t h1 h2
  have ht : t < M.length := by simpa [revK] using h1
  rw [List.getElem_set, List.getElem_set]
  simp only [revK, List.getElem_map, List.getElem_range, revAt]
  by_cases e1 : M.length - 1 - k = t
  · rw [if_pos e1, if_pos (by omega), if_neg (by omega)]; congr 1; omega
  · rw [if_neg e1]
    by_cases e2 : 1 + k = t
    · rw [if_pos e2, if_pos (by omega), if_neg (by omega)]; congr 1; omega
    · rw [if_neg e2]
      by_cases hc : 1 ≤ t ∧ (t ≤ k ∨ M.length - k ≤ t)
      · rw [if_pos (by omega), if_pos hc]
      · rw [if_neg (by omega), if_neg hc]
theorem flat_set1 (M : List (Int × Int)) : ∀ i (p : Int × Int), i < M.length → flat (M.set i p) = ((flat M).set (i * 2) (.int .i64 p.1)).set (i * 2 + 1) (.int .i64 p.2) := by
  induction M with
  | nil => intro i p h; simp at h
  | cons q M ih =>
    intro i p h
    have e : ∀ (r : Int × Int) (N : List (Int × Int)), flat (r :: N) = .int .i64 r.1 :: .int .i64 r.2 :: flat N := fun _ _ => rfl
    cases i with
    | zero => rw [List.set_cons_zero, e, e]; rfl
    | succ i =>
      rw [List.set_cons_succ, e, e, ih i p (by simpa using h)]
      have h1 : (i + 1) * 2 = i * 2 + 1 + 1 := by omega
      have h2 : (i + 1) * 2 + 1 = i * 2 + 1 + 1 + 1 := by omega
      rw [h2, h1]
      simp

theorem pts_own {w : World} {B g n cap : Nat} {L : List (Int × Int)} (h : w.ownsRow B 54 2 (.slice (some ⟨g, 0, none⟩) n cap) n (flat L)) (hn : L.length = n) : ∀ k, k < n → w.cell? ⟨g, k * 2, none⟩ = some (.int .i64 (gt L k).1) ∧ w.cell? ⟨g, k * 2 + 1, none⟩ = some (.int .i64 (gt L k).2) := by
  intro k hk
  have hk' : k < L.length := by omega
  rw [h.cellAt (k * 2) (by omega), h.cellAt (k * 2 + 1) (by omega), gt_at hk']
  exact flat_at L k hk'

theorem grown_drew {w w' : World} {r : Option Nat} (h : w.grownBy w' r) : w.grownBy w'.drew r := ⟨h.os, h.tape, h.output, h.size, h.block⟩
set_option maxRecDepth 100000 in
set_option maxHeartbeats 4000000 in
theorem rev_any (B g cap : Nat) (M : List (Int × Int)) (w : World) (hown : w.ownsRow B 54 2 (.slice (some ⟨g, 0, none⟩) M.length cap) M.length (flat M)) (h1 : 2 ≤ M.length) (h2 : M.length ≤ 1048576) :
    Calls Try.prog 103 #[.slice (some ⟨g, 2, none⟩) (M.length - 1) (cap - 1)] w fun e w' => (∃ v, e = .returned v) ∧ w'.ownsRow B 54 2 (.slice (some ⟨g, 0, none⟩) M.length cap) M.length (flat (turnL M)) ∧ w.grownBy w' (some g) := by
  obtain ⟨n, hn⟩ : ∃ n, n = M.length := ⟨_, rfl⟩
  have HN := Lib.hid hn
  rw [← hn] at hown h1 h2 ⊢
  clear hn
  have f1 : ((n - 1 : Nat) : Int) - 1 = ((n - 2 : Nat) : Int) := by omega
  go_enter Try.func103, Try.ntmps103
  go_wp2_with fail
  go_loopw [2, 3] (fun i j wr => ∃ k q : Nat, i = .int .i64 k ∧ j = .int .i64 q ∧ Hid (k + q + 2 = n ∧ k ≤ q + 1) ∧ wr.ownsRow B 54 2 (.slice (some ⟨g, 0, none⟩) n cap) n (flat (revK M k)) ∧ w.grownBy wr (some g)) (fun i j _ => n - (intOf i).toNat)
  case atStart => exact ⟨0, n - 2, rfl, rfl, ⟨by omega, by omega⟩, by rw [revK_zero]; exact hown, World.grownBy.refl _ _⟩
  case round =>
    obtain ⟨k, q, rfl, rfl, HK, own, hgr⟩ := hrel
    have hk1 := HK.out.1
    by_cases hlt : k < q
    · obtain ⟨x, hx⟩ : ∃ x, x = (gt (revK M k) (1 + k)).1 := ⟨_, rfl⟩
      obtain ⟨y, hy⟩ : ∃ y, y = (gt (revK M k) (1 + k)).2 := ⟨_, rfl⟩
      obtain ⟨x', hx'⟩ : ∃ x', x' = (gt (revK M k) (1 + q)).1 := ⟨_, rfl⟩
      obtain ⟨y', hy'⟩ : ∃ y', y' = (gt (revK M k) (1 + q)).2 := ⟨_, rfl⟩
      have hP := pts_own own (by rw [revK_len]; exact HN.out.symm)
      have p1 := hP (1 + k) (by omega)
      have p2 := hP (1 + q) (by omega)
      rw [← hx, ← hy] at p1
      rw [← hx', ← hy'] at p2
      have e1 : (1 + k) * 2 = 2 + k * 2 := by omega
      have e2 : (1 + q) * 2 = 2 + q * 2 := by omega
      rw [e1] at p1
      rw [e2] at p2
      obtain ⟨c1, c2⟩ := p1
      obtain ⟨c3, c4⟩ := p2
      have f2 := own.frozenAt (2 + k * 2)
      have f3 := own.frozenAt (2 + k * 2 + 1)
      have f4 := own.frozenAt (2 + q * 2)
      have f5 := own.frozenAt (2 + q * 2 + 1)
      have hk2 : (k : Int) < ((n - 1 : Nat) : Int) := by omega
      have hq2 : (q : Int) < ((n - 1 : Nat) : Int) := by omega
      have hml : (revK M k).length = n := by rw [revK_len]; exact HN.out.symm
      have own4 := ((((own.stored (2 + k * 2) (.int .i64 x')).1.stored (2 + k * 2 + 1) (.int .i64 y')).1.stored (2 + q * 2) (.int .i64 x)).1.stored (2 + q * 2 + 1) (.int .i64 y)).1
      have hq1 : M.length - 1 - k = 1 + q := by have := HN.out; omega
      have hstep : revK M (k + 1) = ((revK M k).set (1 + k) (x', y')).set (1 + q) (x, y) := by
        rw [revK_step M k (by have := HN.out; omega), hq1, hx, hy, hx', hy']
      have hflat : ((((flat (revK M k)).set (2 + k * 2) (.int .i64 x')).set (2 + k * 2 + 1) (.int .i64 y')).set (2 + q * 2) (.int .i64 x)).set (2 + q * 2 + 1) (.int .i64 y) = flat (revK M (k + 1)) := by
        rw [hstep, flat_set1 _ _ _ (by rw [List.length_set]; omega), flat_set1 _ _ _ (by omega), e1, e2]
      rw [hflat] at own4
      have hgr4 := only_set (only_set (only_set (only_set hgr (2 + k * 2) (.int .i64 x')) (2 + k * 2 + 1) (.int .i64 y')) (2 + q * 2) (.int .i64 x)) (2 + q * 2 + 1) (.int .i64 y)
      have R := Lib.hid (And.intro own4 hgr4)
      clear own own4 hgr hgr4 hP e1 e2 hx hy hx' hy' hk1 hown hflat hstep hq1 hml
      have hq0 : (0 : Int) ≤ (q : Int) - 1 := by omega
      have g1 : (q : Int) - 1 = ((q - 1 : Nat) : Int) := by omega
      go_wp2_with fail
      go_region
      go_wp2_with fail
      go_roundw
      case rel => exact ⟨k + 1, q - 1, by go_num, by first | rfl | go_num | exact congrArg _ g1, ⟨by have := HK.out.1; omega, by omega⟩, own_drew R.out.1, grown_drew R.out.2⟩
      case measure => simp [intOf]; omega
    · have e : revK M k = turnL M := revK_all M (by have := HN.out; have := HK.out; omega) (by have := HN.out; omega)
      rw [e] at own
      have R := Lib.hid (And.intro own hgr)
      clear own hgr hown hk1 e
      go_wp2_with fail
      go_end0
      exact ⟨⟨_, rfl⟩, R.out.1, R.out.2⟩

theorem own_cap {w : World} {B g n cap : Nat} {e : TypeId} {size : Nat} {xs : List Value} (h : w.ownsRow B e size (.slice (some ⟨g, 0, none⟩) n cap) n xs) : n ≤ cap := by
  rcases h.2 with ⟨h1, _⟩ | ⟨g', cap', cur, hv, hB, hg, h3⟩
  · cases h1
  · simp only [Value.slice.injEq] at hv
    obtain ⟨-, -, rfl⟩ := hv
    exact h3.1

set_option maxRecDepth 100000 in
set_option maxHeartbeats 2000000 in
theorem impl_turn (A : Option Addr) (c : Nat) (L : List (Int × Int)) (w : World) (hA : PtsA w A L) (hL : L.length ≤ 1048576) :
    Calls Try.prog 185 #[.slice A L.length c] w (Lists w (turnV L)) := by
  cases hp : polyB L
  · have HU : Hid (Lists w (turnV L) = fun e w' => ∃ v, e = .returned v ∧ w'.ownsRow w.heap.size 54 2 v 0 [] ∧ Below w.heap.size w w') := by
      show _ = _
      unfold turnV
      rw [hp]; rfl
    have PC := Lib.hid (impl_poly A c L w hA hL)
    rw [hp] at PC
    go_enter Try.func185, Try.ntmps185
    go_wp2_with fail
    refine PC.out.mono ?_
    rintro e w1 ⟨rfl, hb1⟩
    go_wp2_with fail
    go_ret
    rw [HU.out]
    exact ⟨_, rfl, World.ownsRow_nil _ _ _ _, hb1⟩
  · obtain ⟨h3, h10, hok⟩ := polyB_all hp
    have hlen : (turnL L).length = L.length := by simp [turnL, turnTill]; omega
    have HU : Hid (Lists w (turnV L) = fun e w' => ∃ v, e = .returned v ∧ w'.ownsRow w.heap.size 54 2 v L.length (flat (turnL L)) ∧ Below w.heap.size w w') := by
      show _ = _
      unfold turnV
      rw [hp, ← hlen]; rfl
    have PC := Lib.hid (impl_poly A c L w hA hL)
    rw [hp] at PC
    have HC := Lib.hid (fun (W : World) (hb : Below w.heap.size w W) => clone_any A c L W (ptsA_on hA hb) (by omega) hL)
    unfold Lists at HC
    clear hA hlen
    go_enter Try.func185, Try.ntmps185
    go_wp2_with fail
    refine PC.out.mono ?_
    rintro e w1 ⟨rfl, hb1⟩
    go_wp2_with fail
    refine (HC.out _ hb1).mono ?_
    rintro e w2 ⟨v, rfl, own, hb2⟩
    have hb12 := hb1.trans (hb2.mono hb1.size)
    replace own := own_base own hb1.size
    have hv : ∃ g cap, v = .slice (some ⟨g, 0, none⟩) L.length cap := by
      rcases own.2 with ⟨_, h0⟩ | ⟨g, cap, _, rfl, _⟩
      · omega
      · exact ⟨g, cap, rfl⟩
    obtain ⟨g, cap, rfl⟩ := hv
    have hcap := own_cap own
    have hgl := (own.lt g rfl).1
    have HR := Lib.hid (rev_any w.heap.size g cap L w2 own (by omega) hL)
    have hc1 : ¬ cap = 1 := by omega
    have hc2 : ¬ 1 = cap := by omega
    have hl1 : (1 : Int) ≤ (L.length : Int) := by omega
    have hl2 : 1 ≤ L.length := by omega
    clear hb1 hb2 own
    go_wp2_with fail
    refine HR.out.mono ?_
    rintro e w3 ⟨⟨u, rfl⟩, own3, hg3⟩
    have hb3 := hb12.grown hg3 hb12.size (fun k e => by cases e; exact hgl)
    have R := Lib.hid own3
    clear own3 hg3 hb12
    go_wp2_with fail
    go_ret
    rw [HU.out]
    exact ⟨_, rfl, R.out, hb3⟩
end Go.Proofs.Ytimkknljoeiceaa
