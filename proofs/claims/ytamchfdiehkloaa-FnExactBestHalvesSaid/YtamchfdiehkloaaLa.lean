/-
  Walks and facts of this seat, part La (merged by a script of this repo out of smaller texts).
-/
import Derived.Test.YtamchfdiehkloaaKc
/-! Plus9 -/
namespace Go.Proofs.Ytamchfdiehkloaa
open Go.RowKit

def inN (q : Nat) (o : Option Nat) : Nat :=
  match o with
  | some k => b2 (q.testBit k)
  | none => 0
theorem sm_pick (v : Nat → Nat) (k : Nat) : ∀ n, sm (fun j => if j = k then v j else 0) n = if k < n then v k else 0
  | 0 => by simp [sm]
  | n + 1 => by
    simp only [sm, sm_pick v k n]
    by_cases h : n = k
    · subst h; simp
    · rw [if_neg h]
      by_cases h2 : k < n
      · rw [if_pos h2, if_pos (by omega)]; rfl
      · rw [if_neg h2, if_neg (by omega)]
theorem sm_opt (q n : Nat) (o : Option Nat) (h : ∀ k, o = some k → k < n) : sm (fun j => b2 (q.testBit j && decide (o = some j))) n = inN q o := by
  cases o with
  | none =>
    rw [sm_congr (g := fun _ => 0) (fun j _ => by simp [b2]), sm_zero]; rfl
  | some k =>
    rw [sm_congr (g := fun j => if j = k then b2 (q.testBit j) else 0) (fun j _ => by
      by_cases e : j = k
      · subst e; simp
      · rw [if_neg e, show decide (some k = some j) = false by rw [decide_eq_false_iff_not]; intro h; exact e (Option.some.inj h).symm]; simp [b2]), sm_pick]
    rw [if_pos (h k rfl)]; rfl
theorem nbr_opts {w h i j : Nat} (hw : 0 < w) (hi : i < w * h) (q : Nat) : b2 (q.testBit j && nbrB w h i j) = b2 (q.testBit j && decide (nbI w h i 0 = some j)) + (b2 (q.testBit j && decide (nbI w h i 1 = some j)) + (b2 (q.testBit j && decide (nbI w h i 2 = some j)) + b2 (q.testBit j && decide (nbI w h i 3 = some j)))) := by
  have ha := nbI_adj hw hi j
  rw [← nbrB_iff] at ha
  have e : (List.range 4).map (nbI w h i) = [nbI w h i 0, nbI w h i 1, nbI w h i 2, nbI w h i 3] := rfl
  rw [e] at ha
  simp only [List.mem_cons, List.not_mem_nil, or_false] at ha
  have hif : ∀ (c : Prop) [Decidable c] (a : Nat), ((if c then some a else none) = some j) ↔ (c ∧ a = j) := by
    intro c _ a
    by_cases h : c
    · rw [if_pos h]; simp [h]
    · rw [if_neg h]; simp [h]
  have s0 : nbI w h i 0 = some j ↔ (0 < i / w ∧ i - w = j) := hif _ _
  have s1 : nbI w h i 1 = some j ↔ (0 < i % w ∧ i - 1 = j) := hif _ _
  have s2 : nbI w h i 2 = some j ↔ (i % w + 1 < w ∧ i + 1 = j) := hif _ _
  have s3 : nbI w h i 3 = some j ↔ (i / w + 1 < h ∧ i + w = j) := hif _ _
  have hd := Nat.div_add_mod i w
  have hm := Nat.mod_lt i hw
  have h0 : 0 < i / w → w ≤ i := fun hp => by
    have := Nat.mul_le_mul_left w hp
    omega
  have h1 : w = 1 → i % w = 0 := fun h => by subst h; exact Nat.mod_one i
  cases hq : q.testBit j
  · simp [b2]
  · simp only [Bool.true_and]
    have e1 : ∀ o : Option Nat, (some j = o) ↔ (o = some j) := fun o => eq_comm
    rw [e1, e1, e1, e1] at ha
    have hF : ¬ (nbI w h i 0 = some j ∨ nbI w h i 1 = some j ∨ nbI w h i 2 = some j ∨ nbI w h i 3 = some j) → nbrB w h i j = false := fun hn => by
      cases e : nbrB w h i j
      · rfl
      · exact absurd (ha.2 e) hn
    by_cases c0 : nbI w h i 0 = some j <;> by_cases c1 : nbI w h i 1 = some j <;> by_cases c2 : nbI w h i 2 = some j <;> by_cases c3 : nbI w h i 3 = some j <;> first
      | (rw [hF (by simp only [c0, c1, c2, c3, or_self, not_false_eq_true])]; simp only [c0, c1, c2, c3, decide_false]; rfl)
      | (rw [ha.1 (by simp only [c0, c1, c2, c3, or_true, true_or])]; simp only [c0, c1, c2, c3, decide_true, decide_false]; rfl)
      | (exfalso; have := s0.1 c0; have := s1.1 c1; omega)
      | (exfalso; have := s0.1 c0; have := s2.1 c2; omega)
      | (exfalso; have := s0.1 c0; have := s3.1 c3; omega)
      | (exfalso; have := s1.1 c1; have := s2.1 c2; omega)
      | (exfalso; have := s1.1 c1; have := s3.1 c3; omega)
      | (exfalso; have := s2.1 c2; have := s3.1 c3; omega)
theorem nbI_lt {w h i t k : Nat} (hw : 0 < w) (hi : i < w * h) (ht : t < 4) (e : nbI w h i t = some k) : k < w * h := by
  have : some k ∈ (List.range 4).map (nbI w h i) := List.mem_map.2 ⟨t, List.mem_range.2 ht, e⟩
  exact ((nbI_adj hw hi k).1 this).2.1
theorem deg_nb {w h i : Nat} (hw : 0 < w) (hi : i < w * h) (q : Nat) : degN w h q i = inN q (nbI w h i 0) + (inN q (nbI w h i 1) + (inN q (nbI w h i 2) + inN q (nbI w h i 3))) := by
  rw [degN_sm, sm_congr (fun j _ => nbr_opts hw hi q), sm_add, sm_add, sm_add, sm_opt _ _ _ (fun k e => nbI_lt hw hi (by decide) e), sm_opt _ _ _ (fun k e => nbI_lt hw hi (by decide) e), sm_opt _ _ _ (fun k e => nbI_lt hw hi (by decide) e), sm_opt _ _ _ (fun k e => nbI_lt hw hi (by decide) e)]
theorem has_opt (a b q : Nat) (x y : Int) : outN a b q x y + inN q (spot a b x y) = 1 := by
  unfold outN hasB spot
  cases covB a b x y
  · simp [inN]
  · simp only [Bool.true_and, if_true, inN]
    cases q.testBit (y * a + x).toNat <;> simp [b2]
theorem rim_deg {a b i : Nat} (ha : 0 < a) (hi : i < a * b) (q : Nat) : rimP8 a b q ((i % a : Nat) : Int) ((i / a : Nat) : Int) 4 + degN a b q i = 4 := by
  obtain ⟨h1, h2, h3⟩ := cell_index (b := b) ha hi
  rw [deg_nb ha hi]
  have e := fun t => has_opt a b q (nbP ((i % a : Nat) : Int) ((i / a : Nat) : Int) t).1 (nbP ((i % a : Nat) : Int) ((i / a : Nat) : Int) t).2
  have e2 := fun t => nbI_at (a := a) (b := b) h1 h2 t
  simp only [h3] at e2
  have e0 := e 0; have e1 := e 1; have e3 := e 2; have e4 := e 3
  rw [e2] at e0 e1 e3 e4
  simp only [rimP8]
  omega
theorem rimT_deg {a b q : Nat} {I : List Nat} (ha : 0 < a) (hI : ∀ i ∈ I, i < a * b) : ∀ k, k ≤ I.length → rimT8 a b q (I.map (ptI a)) k + ((I.take k).map (degN a b q)).sum = 4 * k
  | 0, _ => by simp [rimT8]
  | k + 1, hk => by
    have hlt : k < I.length := by omega
    have ih := rimT_deg (q := q) ha hI k (by omega)
    have e := rim_deg ha (hI _ (List.getElem_mem hlt)) q
    rw [take_snoc hlt, List.map_append, List.sum_append]
    simp only [rimT8, gt_ptI hlt, List.map_cons, List.map_nil, List.sum_cons, List.sum_nil]
    omega
def rimN (a b q : Nat) : Nat := rimT8 a b q (cellsC a q) (cellsC a q).length
theorem rimN_e {a b n q : Nat} (ha : 0 < a) (hn : n = a * b) (h36 : n ≤ 36) (hq : q < 2 ^ n) : rimN a b q + eN a b q q = 4 * (idxL q n).length := by
  unfold rimN eN
  rw [cellsC_idx hq h36, ← hn]
  have := rimT_deg (q := q) (b := b) ha (fun i hi => by rw [← hn]; exact (mem_idxL (m := q) (n := n)).1 hi |>.1) (idxL q n).length (Nat.le_refl _)
  rw [List.take_length] at this
  rw [List.length_map]
  exact this
theorem idxL_or {p q : Nat} (hd : ∀ j, p.testBit j = true → q.testBit j = false) (n : Nat) : (idxL (p ||| q) n).length = (idxL p n).length + (idxL q n).length := by
  unfold idxL
  rw [← List.countP_eq_length_filter, ← List.countP_eq_length_filter, ← List.countP_eq_length_filter, ← sm_count, ← sm_count, ← sm_count, ← sm_add]
  refine sm_congr fun i _ => ?_
  have := hd i
  rw [Nat.testBit_or]
  cases hp : p.testBit i <;> cases hq : q.testBit i <;> simp_all
theorem idxL_orL (n : Nat) : ∀ L, apartL L → (idxL (orL L) n).length = (L.map fun p => (idxL p n).length).sum
  | [], _ => by simp [orL, idxL]
  | p :: L, h => by
    simp only [orL, List.map_cons, List.sum_cons]
    rw [idxL_or h.1, idxL_orL n L h.2]
theorem rims_own {a b n : Nat} (ha : 0 < a) (hn : n = a * b) (h36 : n ≤ 36) : ∀ L : List Nat, (∀ p ∈ L, p < 2 ^ n) → (L.map (rimN a b)).sum + ownE a b L = 4 * (L.map fun p => (idxL p n).length).sum
  | [], _ => rfl
  | p :: L, h => by
    have h1 := rimN_e ha hn h36 (h p (by simp))
    have h2 := rims_own ha hn h36 L (fun q hq => h q (List.mem_cons_of_mem _ hq))
    simp only [List.map_cons, List.sum_cons, ownE]
    omega
/-- **The rims of the pieces are that of the shape and twice the neighbors in different pieces.** -/
theorem rims_len {a b n m : Nat} {L : List Nat} (ha : 0 < a) (hn : n = a * b) (h36 : n ≤ 36) (hL : ∀ p ∈ L, p < 2 ^ n) (hm : m < 2 ^ n) (hA : apartL L) (ho : orL L = m) : (L.map (rimN a b)).sum = rimN a b m + 2 * lenN a b L := by
  have h1 := rims_own ha hn h36 L hL
  have h2 := rimN_e ha hn h36 hm
  have h3 := eN_both a b L hA
  have h4 := idxL_orL n L hA
  rw [ho] at h3 h4
  omega
/-! ### The sums as the model adds them up -/
def eAllT (w h p : Nat) (L : List Nat) (t : Nat) : Nat := ((L.take t).map (eN w h p)).sum
theorem eAll_map (w h p : Nat) : ∀ L, eAll w h p L = (L.map (eN w h p)).sum
  | [] => rfl
  | q :: L => by simp only [eAll, List.map_cons, List.sum_cons, eAll_map w h p L]
def lenT (w h : Nat) (P : List Nat) : Nat → Nat
  | 0 => 0
  | k + 1 => lenT w h P k + eAll w h (P.getD k 0) (P.drop (k + 1))
theorem lenT_all (w h : Nat) : ∀ (P : List Nat), lenT w h P P.length = lenN w h P := by
  intro P
  have key : ∀ (P : List Nat) (k : Nat), k ≤ P.length → lenT w h P k + lenN w h (P.drop k) = lenN w h P := by
    intro P k
    induction k with
    | zero => intro _; simp [lenT]
    | succ k ih =>
      intro hk
      have hlt : k < P.length := by omega
      have h1 := ih (by omega)
      rw [List.drop_eq_getElem_cons hlt] at h1
      simp only [lenN] at h1
      simp only [lenT, List.getD_eq_getElem?_getD, List.getElem?_eq_getElem hlt, Option.getD_some]
      omega
  have := key P P.length (Nat.le_refl _)
  rw [List.drop_length] at this
  simpa [lenN] using this
theorem degN_le (w h q i : Nat) : degN w h q i ≤ w * h := by
  unfold degN
  exact Nat.le_trans List.countP_le_length (by simp)
theorem near_deg {a b n i q : Nat} (ha : 0 < a) (hn : n = a * b) (hi : i < n) (hq : q < 2 ^ n) (h64 : n ≤ 64) (hf : q.testBit i = false) : pc 64 (nearT a b (2 ^ i) n &&& q) = degN a b q i := by
  have hlt : nearT a b (2 ^ i) n &&& q < 2 ^ n := Nat.and_lt_two_pow _ hq
  rw [pc_idx hlt h64]
  unfold idxL degN
  rw [← List.countP_eq_length_filter, ← hn]
  refine List.countP_congr fun j _ => ?_
  rw [Nat.testBit_and, Bool.and_eq_true, Bool.and_eq_true, nbrB_iff, hn, testBit_nearT ha j (a * b) (Nat.le_refl _)]
  constructor
  · rintro ⟨h1 | ⟨k, hk, h2, h3⟩, h4⟩
    · rw [Nat.testBit_two_pow, decide_eq_true_eq] at h1
      subst h1
      rw [hf] at h4; cases h4
    · rw [Nat.testBit_two_pow, decide_eq_true_eq] at h2
      subst h2
      exact ⟨h4, h3⟩
  · rintro ⟨h1, h2⟩
    exact ⟨.inr ⟨i, by omega, by rw [Nat.testBit_two_pow]; simp, h2⟩, h1⟩
theorem eN_le (w h p q : Nat) : eN w h p q ≤ (w * h) * (w * h) := by
  unfold eN
  have : ∀ L : List Nat, ((L.map (degN w h q)).sum ≤ L.length * (w * h)) := by
    intro L
    induction L with
    | nil => simp
    | cons i L ih =>
      have := degN_le w h q i
      simp only [List.map_cons, List.sum_cons, List.length_cons, Nat.add_mul, Nat.one_mul]
      omega
  exact Nat.le_trans (this _) (Nat.mul_le_mul_right _ (idxL_len _ _))
end Go.Proofs.Ytamchfdiehkloaa

/-! Len9 -/
namespace Go.Proofs.Ytamchfdiehkloaa
open Go.RowKit

def lenV (w h M : Int) (cut : List Int) : Nat := lenN w.toNat h.toNat ((pieV w h M cut).map Int.toNat)
def LV (w h M : Int) (cut : List Int) (v : Int) : Prop := (CutP w h M cut ∧ v = lenV w h M cut) ∨ (¬ CutP w h M cut ∧ v = -1)
theorem LV.uniq {w h M : Int} {cut : List Int} {v v' : Int} (h1 : LV w h M cut v) (h2 : LV w h M cut v') : v = v' := by
  rcases h1 with ⟨a, rfl⟩ | ⟨a, rfl⟩ <;> rcases h2 with ⟨b, rfl⟩ | ⟨b, rfl⟩
  · rfl
  · exact absurd a b
  · exact absurd b a
  · rfl
def LenQ (w h M : Int) (cut : List Int) (W : World) (e : Ending) (w' : World) : Prop := ∃ v : Int, e = .returned (.int .i64 v) ∧ LV w h M cut v ∧ Below W.heap.size W w'
theorem CutAt.lenV {w h M : Int} {cut : List Int} {a b m n : Nat} {C : List Nat} (k : CutAt w h M cut a b m n C) : lenV w h M cut = lenN a b (uniF [] (idxL m n) C) := by
  unfold Go.Proofs.Ytamchfdiehkloaa.lenV
  rw [k.pie, toNat_castL, k.ew, k.eh]; rfl
theorem rimN_le {a b q : Nat} : rimN a b q ≤ 144 := by
  unfold rimN
  have h1 := rimT8_le a b q (cellsC a q) (cellsC a q).length
  have h2 := cellsC_len a q
  omega
theorem rimV_N {a b m : Nat} (hB : shapeB a b m = true) : rimV8 a b m = (rimN a b m : Nat) := rimV8_yes hB
theorem sum_le (f : Nat → Nat) (B : Nat) (hf : ∀ x, f x ≤ B) : ∀ L : List Nat, (L.map f).sum ≤ B * L.length
  | [] => by simp
  | x :: L => by
    have h1 := hf x
    have h2 := sum_le f B hf L
    simp only [List.map_cons, List.sum_cons, List.length_cons, Nat.mul_succ]
    omega
theorem CutAt.rims {w h M : Int} {cut : List Int} {a b m n : Nat} {C : List Nat} (k : CutAt w h M cut a b m n C) : ((uniF [] (idxL m n) C).map (rimN a b)).sum = rimN a b m + 2 * lenN a b (uniF [] (idxL m n) C) :=
  rims_len (by have := k.a6; omega) k.en k.n36 k.plt k.lt (uniF_apart k.len (idxL_nodup m n) k.num) (uniF_or k.lt k.len k.num)

set_option maxRecDepth 100000 in
set_option maxHeartbeats 2000000 in
theorem impl_len (w h M : Int) (A : Option Addr) (c : Nat) (cut : List Int) (W : World) (hA : IntsA W A cut) (hL : cut.length ≤ 1048576) :
    Calls Try.prog 53 #[.int .i64 w, .int .i64 h, .int .i64 M, .slice A cut.length c] W (LenQ w h M cut W) := by
  have HC := Lib.hid (impl_cutOk w h M A c cut W hA hL)
  by_cases hc : CutP w h M cut
  · obtain ⟨a, b, m, n, C, k⟩ := cutAt_of hc
    have HPC := Lib.hid (fun W hA => impl_pieces w h M A c cut W hA hL)
    have HU : Hid (∀ P, PVN w h M cut P → P = uniF [] (idxL m n) C) := fun P hP => by
      have := hP.1.uniq (.inl ⟨hc, rfl⟩ : PV w h M cut (pieV w h M cut))
      rw [k.pie] at this
      exact castL_inj this
    have HE := Lib.hid k.rims
    have HLV : Hid (LV w h M cut (lenN a b (uniF [] (idxL m n) C) : Nat)) := .inl ⟨hc, by rw [k.lenV]⟩
    have HR := Lib.hid (fun p W => impl_rim (a : Int) b p W)
    have HM := Lib.hid (fun W => impl_rim (a : Int) b m W)
    rw [rimV_N k.shape] at HM
    have hrm := rimN_le (a := a) (b := b) (q := m)
    have hP9 := k.le
    have HCQ := Lib.hid hc
    obtain ⟨kw, kh, km⟩ := And.intro k.ew (And.intro k.eh k.em)
    subst kw; subst kh; subst km
    have HA := Lib.hid hA
    clear hA hc k
    generalize uniF [] (idxL m n) C = P at *
    have HRS : Hid (∀ k, ((P.take k).map (rimN a b)).sum ≤ 144 * k) := fun k => by
      have := sum_le (rimN a b) 144 (fun x => rimN_le) (P.take k)
      have h2 : (P.take k).length ≤ k := by simp; omega
      omega
    have hl9 : lenN a b P ≤ 1296 := by
      have h1 := HE.out
      have h2 := HRS.out P.length
      rw [List.take_length] at h2
      omega
    have HEE : Hid ((P.map (rimN a b)).sum = rimN a b m + 2 * lenN a b P) := HE.out
    clear HE
    generalize lenN a b P = L at *
    generalize rimN a b m = rm at *
    go_enter Try.func53, Try.ntmps53
    go_wp2_with fail
    refine HC.out.mono ?_
    rintro e w1 ⟨v, rfl, hv, hb⟩
    obtain rfl := hv.2 HCQ.out
    have H1 := Lib.hid (HPC.out w1 (intsA_on HA.out hb))
    clear hv
    go_wp2_with fail
    refine H1.out.mono ?_
    rintro e w2 ⟨P', hPV, v, rfl, own2, hb2⟩
    obtain rfl := HU.out _ hPV
    rw [castL_len] at own2
    obtain ⟨A1, c1, rfl⟩ := own_castL own2
    have HP := Lib.hid (intsA_of own2)
    have HV := Lib.hid hPV.2.2
    have bb := below_on hb hb2
    clear own2 hPV hb hb2 HC
    go_wp2_with fail
    go_loopw [9, 11, 24] (fun s _ i wr => ∃ k S : Nat, k ≤ P'.length ∧ i = .int .i64 k ∧ s = .int .i64 S ∧ S ≤ 144 * k ∧ Hid (S = ((P'.take k).map (rimN a b)).sum) ∧ Below w2.heap.size w2 wr) (fun _ _ i _ => P'.length - (intOf i).toNat)
    case atStart => exact ⟨0, 0, Nat.zero_le _, rfl, rfl, Nat.zero_le _, rfl, Below.refl _ _⟩
    case round =>
      obtain ⟨wo, rfl⟩ : ∃ wo : World, wo = wr := ⟨_, rfl⟩
      obtain ⟨k, S, hk, rfl, rfl, hSk, HS, hb⟩ := hrel
      by_cases hlt : k < P'.length
      · obtain ⟨g1, rfl, e1⟩ := intsA_on HP.out hb k (by rw [castL_len]; exact hlt)
        rw [castL_get] at e1
        have HRQ := Lib.hid (fun W => HR.out (P'[k] : Nat) W)
        rw [rimV_N (HV.out _ (List.getElem_mem hlt))] at HRQ
        have HS2 : Hid (S + rimN a b P'[k] = ((P'.take (k + 1)).map (rimN a b)).sum) := by
          show _ = _
          rw [take_snoc hlt, List.map_append, List.sum_append, ← HS.out]; simp
        have hq := rimN_le (a := a) (b := b) (q := P'[k])
        generalize rimN a b P'[k] = q at *
        generalize P'[k] = x at *
        go_wp2_with fail
        refine (HRQ.out _).mono ?_
        rintro e w3 ⟨rfl, hb3⟩
        have hb4 := below_on hb hb3
        clear hb hb3
        go_wp2_with fail
        go_roundw
        case rel => exact ⟨k + 1, S + q, by omega, by go_num, by go_num, by omega, HS2, hb4⟩
        case measure => simp [intOf]; omega
      · obtain rfl : k = P'.length := by omega
        have hS : S = rm + 2 * L := by
          have := HS.out
          rw [List.take_of_length_le (Nat.le_refl _), HEE.out] at this
          exact this
        have HSS := Lib.hid hS
        have hb4 := below_on bb hb
        clear hb hS
        go_wp2_with fail
        refine (HM.out _).mono ?_
        rintro e w3 ⟨rfl, hb3⟩
        have hdv : Int.tdiv ((S : Int) - (rm : Int)) 2 = (L : Int) := by
          have := HSS.out
          rw [show (S : Int) - (rm : Int) = 2 * (L : Int) by omega]
          simp
        have hdv2 : ((S : Int) - (rm : Int)) / 2 = (L : Int) := by
          have := HSS.out
          omega
        have hb5 := below_on hb4 hb3
        clear hb4 hb3 bb
        go_wp2_with fail
        go_ret
        exact ⟨_, ret_int (by first | rfl | (have := HSS.out; rw [hdv]) | (have := HSS.out; omega)), HLV.out, hb5⟩
  · have HCQ := Lib.hid hc
    have R0 : Hid (∀ w1, Below W.heap.size W w1 → LenQ w h M cut W (.returned (.int .i64 (-1))) w1) := fun w1 hb => ⟨-1, rfl, .inr ⟨hc, rfl⟩, hb⟩
    clear hA hc
    go_enter Try.func53, Try.ntmps53
    go_wp2_with fail
    refine HC.out.mono ?_
    rintro e w1 ⟨v, rfl, hv, hb⟩
    obtain rfl : v = false := by
      cases v
      · rfl
      · exact absurd (hv.1 rfl) HCQ.out
    have RR := Lib.hid (R0.out _ hb)
    clear hv hb
    go_wp2_with fail
    go_ret
    exact RR.out
end Go.Proofs.Ytamchfdiehkloaa

/-! LenS9 -/
namespace Go.Proofs.Ytamchfdiehkloaa
open Go.RowKit

theorem degs_le {a b q : Nat} (h : a * b ≤ 36) (L : List Nat) : (L.map (degN a b q)).sum ≤ 36 * L.length := sum_le _ 36 (fun x => Nat.le_trans (degN_le a b q x) h) L
theorem eN_36 {a b : Nat} (h : a * b ≤ 36) (p q : Nat) : eN a b p q ≤ 1296 := Nat.le_trans (eN_le a b p q) (Nat.mul_le_mul h h)
theorem eAllT_step {a b p : Nat} {L : List Nat} {t : Nat} (h : t < L.length) : eAllT a b p L (t + 1) = eAllT a b p L t + eN a b p L[t] := by
  unfold eAllT
  rw [take_snoc h, List.map_append, List.sum_append]; simp
theorem eAllT_le {a b : Nat} (h : a * b ≤ 36) (p : Nat) (L : List Nat) (t : Nat) : eAllT a b p L t ≤ 1296 * t := by
  unfold eAllT
  have := sum_le (eN a b p) 1296 (eN_36 h p) (L.take t)
  have h2 : (L.take t).length ≤ t := by simp; omega
  have := Nat.mul_le_mul_left 1296 h2
  omega
theorem eAllT_all (a b p : Nat) (L : List Nat) : eAllT a b p L L.length = eAll a b p L := by
  unfold eAllT; rw [List.take_length, eAll_map]
theorem lenT_le {a b : Nat} (h : a * b ≤ 36) (P : List Nat) (h9 : P.length ≤ 9) : ∀ k, lenT a b P k ≤ 11664 * k
  | 0 => Nat.le_refl _
  | k + 1 => by
    have h1 := lenT_le h P h9 k
    have h2 := eAllT_le h (P.getD k 0) (P.drop (k + 1)) (P.drop (k + 1)).length
    rw [eAllT_all] at h2
    have h3 : (P.drop (k + 1)).length ≤ 9 := by simp; omega
    simp only [lenT]
    omega
theorem apart_at : ∀ {L : List Nat}, apartL L → ∀ i j (hi : i < L.length) (hj : j < L.length), i < j → ∀ x, (L[i]).testBit x = true → (L[j]).testBit x = false
  | p :: L, h, 0, j + 1, _, hj, _, x, hx => by
    simp only [List.getElem_cons_zero] at hx
    simp only [List.getElem_cons_succ]
    have := h.1 x hx
    cases e : (L[j]'(by simpa using hj)).testBit x
    · rfl
    · rw [(orL_bit L x).2 ⟨_, List.getElem_mem _, e⟩] at this; cases this
  | p :: L, h, i + 1, j + 1, hi, hj, hij, x, hx => by
    simp only [List.getElem_cons_succ] at hx ⊢
    exact apart_at h.2 i j (by simpa using hi) (by simpa using hj) (by omega) x hx
set_option maxRecDepth 100000 in
set_option maxHeartbeats 8000000 in
theorem specLen_any (a b n : Nat) (A : Option Addr) (c : Nat) (P : List Nat) (W : World) (hn : n = a * b) (ha : 1 ≤ a ∧ a ≤ 6) (hb : 1 ≤ b ∧ b ≤ 6) (h36 : n ≤ 36) (hP : IntsA W A (castL P)) (hL : P.length ≤ 9) (hlt : ∀ p ∈ P, p < 2 ^ n) (hap : apartL P) (hc : P.length ≤ c) :
    Calls Try.prog 105 #[.int .i64 a, .int .i64 b, .slice A P.length c] W fun e w' => e = .returned (.int .i64 (lenN a b P : Nat)) ∧ Below W.heap.size W w' := by
  have HP := Lib.hid hP
  have HLE := Lib.hid (fun p h W => cellsS_any a p W ha.1 (Nat.lt_of_lt_of_le (hlt p h) (Nat.pow_le_pow_right (by omega) h36)))
  have HCX := Lib.hid (fun p h => cellsC_idx (a := a) (hlt p h) h36)
  have HNR : Hid (∀ i W, i < n → Calls Try.prog 151 #[.int .i64 a, .int .i64 b, .int .i64 (2 ^ i : Nat)] W fun e w' => e = .returned (.int .i64 (nearT a b (2 ^ i) n)) ∧ w' = W) := fun i W hi => by
    rw [hn]
    exact near_any a b (2 ^ i) W ha hb (by omega) (by rw [← hn]; exact Nat.pow_lt_pow_right (by omega) hi)
  have HNL : Hid (∀ i q, i < n → q ∈ P → nearT a b (2 ^ i) n &&& q < 2 ^ 36 ∧ nearT a b (2 ^ i) n < 2 ^ 36 ∧ q < 2 ^ 36) := fun i q hi hq => by
    have h1 : nearT a b (2 ^ i) n < 2 ^ (a * b) := by rw [hn]; exact nearT_lt (by omega) (by rw [← hn]; exact Nat.pow_lt_pow_right (by omega) hi) _ (Nat.le_refl _)
    have h2 : 2 ^ (a * b) ≤ 2 ^ 36 := Nat.pow_le_pow_right (by omega) (by omega)
    have h3 := hlt q hq
    rw [hn] at h3
    exact ⟨Nat.and_lt_two_pow _ (by omega), by omega, by omega⟩
  have HND := Lib.hid (fun i q (hi : i < n) (hq : q ∈ P) hf => near_deg (a := a) (b := b) (n := n) (i := i) (q := q) (by omega) hn hi (hlt q hq) (by omega) hf)
  have HIX : Hid (∀ p, ∀ i ∈ idxL p n, i < n ∧ p.testBit i = true) := fun p i hi => mem_idxL.1 hi
  have HAT := Lib.hid (fun i j => apart_at hap i j)
  have HEN : Hid (∀ p q, eN a b p q = ((idxL p n).map (degN a b q)).sum) := fun p q => by
    show eN a b p q = _
    unfold eN; rw [hn]
  have HDL : Hid (∀ q (L : List Nat), (L.map (degN a b q)).sum ≤ 36 * L.length) := fun q L => degs_le (by omega) L
  have HEL : Hid (∀ p L t, eAllT a b p L t ≤ 1296 * t) := fun p L t => eAllT_le (by omega) p L t
  have HLL := Lib.hid (fun k => lenT_le (a := a) (b := b) (by omega) P hL k)
  have HLN := Lib.hid (lenT_all a b P)
  clear hP hlt hap hn
  go_enter Try.func105, Try.ntmps105
  go_wp2_with fail
  go_loopw [7, 16] (fun s i wr => ∃ k S : Nat, k ≤ P.length ∧ i = .int .i64 k ∧ s = .int .i64 S ∧ S ≤ 11664 * k ∧ Hid (S = lenT a b P k) ∧ Below W.heap.size W wr) (fun _ i _ => P.length - (intOf i).toNat)
  case atStart => exact ⟨0, 0, Nat.zero_le _, rfl, rfl, Nat.zero_le _, rfl, Below.refl _ _⟩
  case round =>
    obtain ⟨wo, rfl⟩ : ∃ wo : World, wo = wr := ⟨_, rfl⟩
    obtain ⟨k, S, hk, rfl, rfl, hSk, HS, hbw⟩ := hrel
    by_cases hlt : k < P.length
    · obtain ⟨g1, rfl, e1⟩ := intsA_on HP.out hbw k (by rw [castL_len]; exact hlt)
      rw [castL_get] at e1
      have hpm := List.getElem_mem hlt
      have HL1 := Lib.hid (HLE.out _ hpm)
      have HX1 := Lib.hid (HCX.out _ hpm)
      have HAP := Lib.hid (fun j => HAT.out k j hlt)
      have HSN : Hid (S + eAll a b P[k] (P.drop (k + 1)) = lenT a b P (k + 1)) := by
        show _ = _
        simp only [lenT, List.getD_eq_getElem?_getD, List.getElem?_eq_getElem hlt, Option.getD_some]
        rw [← HS.out]
      clear hpm
      generalize P[k] = p at *
      obtain ⟨R, hR⟩ : ∃ R, R = P.drop (k + 1) := ⟨_, rfl⟩
      have hRl : R.length = P.length - (k + 1) := by rw [hR]; simp
      have HRE := Lib.hid hR
      have HRL := Lib.hid hRl
      rw [← hR] at HSN
      clear hR
      have HQE : Hid (∀ j (hj : j < R.length) w', Below W.heap.size W w' → w'.cell? ⟨g1, k + 1 + j, none⟩ = some (.int .i64 (R[j] : Nat))) := fun j hj w' hb' => by
        have := HRL.out
        obtain ⟨_, q, e⟩ := intsA_on HP.out hb' (k + 1 + j) (by rw [castL_len]; omega)
        cases q
        rw [castL_get] at e
        simp only [HRE.out, List.getElem_drop]
        exact e
      have hr9 : R.length ≤ 9 := by omega
      obtain ⟨u, hu⟩ : ∃ u, u = k + 1 := ⟨_, rfl⟩
      have hku : (k : Int) + 1 = (u : Int) := by omega
      have huP : (u : Int) ≤ (P.length : Int) := by omega
      have huc : (u : Int) ≤ (c : Int) := by omega
      have hpc : (P.length : Int) ≤ (c : Int) := by omega
      have hul : P.length - u = R.length := by omega
      have hul2 : u ≤ P.length := by omega
      rw [← hu] at HQE HRE HRL
      clear hu hRl
      by_cases hkk : u = c
      · have hR0 : R = [] := List.length_eq_zero_iff.1 (by omega)
        have HS2 : Hid (S = lenT a b P (k + 1)) := by
          show _ = _
          rw [← HSN.out, hR0]; rfl
        have hp0 : P.length - u = 0 := by omega
        have hsk : S ≤ 11664 * (k + 1) := by omega
        clear HQE HSN HRE HRL hR0 hr9 hul
        subst hkk
        go_wp2_with fail
        refine wp_loop_rounds 1 ?_
        rw [rounds_succ]
        go_wp2_with fail
        go_roundw
        case rel => exact ⟨k + 1, S, by omega, by go_num, rfl, hsk, HS2, hbw⟩
        case measure => simp [intOf]; omega
      · go_wp2_with fail
        go_loopw [7, 26] (fun s i wr => ∃ j S2 : Nat, j ≤ R.length ∧ i = .int .i64 j ∧ s = .int .i64 S2 ∧ S2 ≤ S + 1296 * j ∧ Hid (S2 = S + eAllT a b p R j) ∧ Below W.heap.size W wr) (fun _ i _ => R.length - (intOf i).toNat)
        case atStart => exact ⟨0, S, Nat.zero_le _, rfl, rfl, by omega, rfl, hbw⟩
        case round =>
          clear hbw
          obtain ⟨wo2, rfl⟩ : ∃ wo2 : World, wo2 = wr := ⟨_, rfl⟩
          obtain ⟨j, S2, hj, rfl, rfl, hS2, HS2, hb2⟩ := hrel
          by_cases hjl : j < R.length
          · have e2 := HQE.out j hjl _ hb2
            have hqm : R[j] ∈ P := by
              have := List.getElem_mem hjl
              exact List.mem_of_mem_drop (i := u) (by rw [← HRE.out]; exact this)
            have HS3 : Hid (S2 + ((idxL p n).map (degN a b R[j])).sum = S + eAllT a b p R (j + 1)) := by
              show _ = _
              rw [eAllT_step hjl, HEN.out, HS2.out, Nat.add_assoc]
            have HBD := Lib.hid (HEL.out p R (j + 1))
            have HFR : Hid (∀ x, p.testBit x = true → (R[j]).testBit x = false) := fun x hx => by
              have h1 := HRE.out
              have hu2 : u + j < P.length := by omega
              have h2 := HAP.out (u + j) hu2 (by omega) x hx
              simp only [h1, List.getElem_drop]
              exact h2
            have HND2 : Hid (∀ i, i ∈ idxL p n → pc 64 (nearT a b (2 ^ i) n &&& R[j]) = degN a b R[j] i) := fun i hi => HND.out i _ (HIX.out p i hi).1 hqm (HFR.out i (HIX.out p i hi).2)
            have HNL2 : Hid (∀ i, i ∈ idxL p n → nearT a b (2 ^ i) n &&& R[j] < 2 ^ 36 ∧ nearT a b (2 ^ i) n < 2 ^ 36 ∧ R[j] < 2 ^ 36) := fun i hi => HNL.out i _ (HIX.out p i hi).1 hqm
            have HNR2 : Hid (∀ i W, i ∈ idxL p n → Calls Try.prog 151 #[.int .i64 a, .int .i64 b, .int .i64 (2 ^ i : Nat)] W fun e w' => e = .returned (.int .i64 (nearT a b (2 ^ i) n)) ∧ w' = W) := fun i W hi => HNR.out i W (HIX.out p i hi).1
            have HI36 : Hid (∀ i, i ∈ idxL p n → i < 36) := fun i hi => by have := (HIX.out p i hi).1; omega
            have HDS : Hid (∀ t, (((idxL p n).take t).map (degN a b R[j])).sum ≤ 36 * t) := fun t => by
              have h1 := HDL.out R[j] ((idxL p n).take t)
              have h2 : ((idxL p n).take t).length ≤ t := by simp; omega
              omega
            have HLS := Lib.hid (fun W => HL1.out W)
            rw [HX1.out] at HLS
            have hI9 := idxL_len p n
            generalize R[j] = q at *
            generalize idxL p n = I at *
            have hq36 : q < 2 ^ 36 ∨ I = [] := by
              cases I with
              | nil => exact .inr rfl
              | cons i I => exact .inl (HNL2.out i (by simp)).2.2
            go_wp2_with fail
            refine (HLS.out _).mono ?_
            rintro e w4 ⟨v4, rfl, own4, hb4⟩
            rw [List.length_map] at own4
            obtain ⟨A4, c4, rfl⟩ : ∃ A4 c4, v4 = .slice A4 I.length c4 := by
              obtain ⟨hl4, A4, c4, e, _⟩ := own_pts own4
              exact ⟨A4, c4, by rw [e, List.length_map]⟩
            have HP4 := Lib.hid (ptsA_of own4)
            have hb5 := below_on hb2 hb4
            clear own4 hb4 hb2
            go_wp2_with fail
            go_loopw [7, 34] (fun s i wr => ∃ t S3 : Nat, t ≤ I.length ∧ i = .int .i64 t ∧ s = .int .i64 S3 ∧ S3 ≤ S2 + 36 * t ∧ Hid (S3 = S2 + ((I.take t).map (degN a b q)).sum) ∧ Below w4.heap.size w4 wr) (fun _ i _ => I.length - (intOf i).toNat)
            case atStart => exact ⟨0, S2, Nat.zero_le _, rfl, rfl, by omega, rfl, Below.refl _ _⟩
            case round =>
              obtain ⟨wo3, rfl⟩ : ∃ wo3 : World, wo3 = wr := ⟨_, rfl⟩
              obtain ⟨t, S3, ht, rfl, rfl, hS3, HS4, hb6⟩ := hrel
              by_cases htl : t < I.length
              · obtain ⟨g4, rfl, -⟩ := HP4.out t (by rw [List.length_map]; exact htl)
                obtain ⟨d1, d2⟩ := gt_cells (ptsA_on HP4.out hb6) (i := t) (by rw [List.length_map]; exact htl)
                rw [gt_ptI htl] at d1 d2
                simp only at d1 d2
                have him := List.getElem_mem htl
                have HN1 := Lib.hid (fun W => HNR2.out _ W him)
                have hi36 := HI36.out _ him
                obtain ⟨hn1, hn2, hn3⟩ := HNL2.out _ him
                have HO := Lib.hid (fun W => ones_any _ W hn1)
                rw [HND2.out _ him] at HO
                have hand := and_nat (a := nearT a b (2 ^ I[t]) n) (b := q) (by omega) (by omega)
                have HS5 : Hid (S3 + degN a b q I[t] = S2 + ((I.take (t + 1)).map (degN a b q)).sum) := by
                  show _ = _
                  rw [take_snoc htl, List.map_append, List.sum_append, HS4.out]; simp; omega
                have hdl : degN a b q I[t] ≤ 36 := by
                  have := HDL.out q [I[t]]
                  simpa using this
                obtain ⟨p2, hp, hp2, hp3⟩ := pow_nat I[t] hi36
                rw [← hp2] at HN1 hn1 hn2 hand HO
                have hdm := Nat.div_add_mod I[t] a
                have hmod := Nat.mod_lt I[t] (show a > 0 by omega)
                have hdv : I[t] / a ≤ 36 := Nat.le_trans (Nat.div_le_self _ _) (by omega)
                generalize degN a b q I[t] = dg at *
                generalize hnr : nearT a b p2 n = nr at *
                generalize hdd : nr &&& q = nq at *
                clear him hp2 hnr hdd hn1 hn2 hn3 HS4
                obtain ⟨it, hit⟩ : ∃ it, it = I[t] := ⟨_, rfl⟩
                rw [← hit] at d1 d2 hi36 hp hdm hmod hdv
                clear hit
                obtain ⟨x, hx⟩ : ∃ x, x = it % a := ⟨_, rfl⟩
                obtain ⟨y, hy⟩ : ∃ y, y = it / a := ⟨_, rfl⟩
                rw [← hx] at d1 hdm hmod
                rw [← hy] at d2 hdm hdv
                obtain ⟨q4, hq4⟩ : ∃ q4, q4 = y * a := ⟨_, rfl⟩
                rw [Nat.mul_comm, ← hq4] at hdm
                have hqi : (y : Int) * (a : Int) = (q4 : Int) := by rw [hq4, Int.natCast_mul]
                have htn : ((q4 : Int) + (x : Int)).toNat = it := by omega
                have hqt : (q4 : Int) + (x : Int) = (it : Int) := by omega
                have hq40 : q4 ≤ 36 := by omega
                clear hx hy hq4 hdm
                have a1 := at_new wo3 (x : Int) (y : Int) 30
                have v1 := a1.c0; have v2 := a1.c1
                have hb7 := hb6.alloc hb6.size (.cells #[.int .i64 (x : Int), .int .i64 (y : Int)] 30)
                clear a1 hb6
                go_wp2_with fail
                refine (HN1.out _).mono ?_
                rintro e w7 ⟨rfl, rfl⟩
                go_wp2_with fail
                refine (HO.out _).mono ?_
                rintro e w7 ⟨rfl, rfl⟩
                go_wp2_with fail
                go_roundw
                case rel => exact ⟨t + 1, S3 + dg, by omega, by go_num, by go_num, by omega, HS5, hb7⟩
                case measure => simp [intOf]; omega
              · obtain rfl : t = I.length := by omega
                have hS4 : S3 = S + eAllT a b p R (j + 1) := by
                  have := HS4.out
                  rw [List.take_length] at this
                  rw [this]; exact HS3.out
                have hbd := HBD.out
                have hb7 := below_on hb5 hb6
                have HQ4 := Lib.hid hS4
                have hS5 : S3 ≤ S + 1296 * (j + 1) := by omega
                clear hS4 hbd hb5 hb6
                go_wp2_with fail
                go_roundw
                case rel => exact ⟨j + 1, S3, by omega, by go_num, rfl, hS5, HQ4, hb7⟩
                case measure => simp [intOf]; omega
          · obtain rfl : j = R.length := by omega
            have HQ : Hid (S2 = lenT a b P (k + 1)) := by
              show _ = _
              rw [HS2.out, eAllT_all]; exact HSN.out
            go_wp2_with fail
            go_roundw
            case rel => exact ⟨k + 1, S2, by omega, by go_num, rfl, by omega, HQ, hb2⟩
            case measure => simp [intOf]; omega
    · obtain rfl : k = P.length := by omega
      have HQ := HS.out
      rw [HLN.out] at HQ
      go_wp2_with fail
      go_ret
      exact ⟨ret_int (by rw [HQ]), hbw⟩
theorem own_fits {w : World} {B : Nat} {e : TypeId} {A : Option Addr} {n c s : Nat} {xs : List Value} (h : w.ownsRow B e s (.slice A n c) n xs) : n ≤ c := by
  rcases h.2 with ⟨h1, h0⟩ | ⟨g', cap', cur, hv, hB, hg, hn, hc, hs, ht⟩
  · simp only [Value.slice.injEq] at h1; omega
  · simp only [Value.slice.injEq] at hv; omega
set_option maxRecDepth 100000 in
set_option maxHeartbeats 2000000 in
theorem spec_len (w h M : Int) (A : Option Addr) (c : Nat) (cut : List Int) (W : World) (hA : IntsA W A cut) (hL : cut.length ≤ 1048576) :
    Calls Try.prog 52 #[.int .i64 w, .int .i64 h, .int .i64 M, .slice A cut.length c] W (LenQ w h M cut W) := by
  have HC := Lib.hid (spec_cutOk w h M A c cut W hA hL)
  by_cases hc : CutP w h M cut
  · obtain ⟨a, b, m, n, C, k⟩ := cutAt_of hc
    have HP := Lib.hid (fun W h2 => specPieces_any a m n A c C W k.a6 k.lt k.n36 h2 k.len k.l9 k.num)
    have HLV : Hid (LV w h M cut (lenN a b (uniF [] (idxL m n) C) : Nat)) := .inl ⟨hc, by rw [k.lenV]⟩
    have HLN := Lib.hid (fun A c W hP hcc => specLen_any a b n A c (uniF [] (idxL m n) C) W k.en k.a6 k.b6 k.n36 hP k.le k.plt (uniF_apart k.len (idxL_nodup m n) k.num) hcc)
    have HCQ := Lib.hid hc
    obtain ⟨kw, kh, km, kc⟩ := And.intro k.ew (And.intro k.eh (And.intro k.em k.ec))
    have hlen : cut.length = C.length := by rw [kc, castL_len]
    rw [← hlen, ← kc] at HP
    subst kw; subst kh; subst km
    have HA := Lib.hid hA
    clear hA hc k kc hlen
    generalize uniF [] (idxL m n) C = P at *
    generalize lenN a b P = L at *
    go_enter Try.func52, Try.ntmps52
    go_wp2_with fail
    refine HC.out.mono ?_
    rintro e w1 ⟨v, rfl, hv, hb⟩
    obtain rfl := hv.2 HCQ.out
    have H1 := Lib.hid (HP.out w1 (intsA_on HA.out hb))
    clear hv
    go_wp2_with fail
    refine H1.out.mono ?_
    rintro e w2 ⟨v, rfl, own2, hb2⟩
    rw [castL_len] at own2
    obtain ⟨A1, c1, rfl⟩ := own_castL own2
    have H2 := Lib.hid (HLN.out A1 c1 w2 (intsA_of own2) (own_fits own2))
    have bb := below_on hb hb2
    clear own2 hb hb2 HC HP H1
    go_wp2_with fail
    refine H2.out.mono ?_
    rintro e w3 ⟨rfl, hb3⟩
    have bb2 := below_on bb hb3
    clear bb hb3
    go_wp2_with fail
    go_ret
    exact ⟨_, rfl, HLV.out, bb2⟩
  · have HCQ := Lib.hid hc
    have R0 : Hid (∀ w1, Below W.heap.size W w1 → LenQ w h M cut W (.returned (.int .i64 (-1))) w1) := fun w1 hb => ⟨-1, rfl, .inr ⟨hc, rfl⟩, hb⟩
    clear hA hc
    go_enter Try.func52, Try.ntmps52
    go_wp2_with fail
    refine HC.out.mono ?_
    rintro e w1 ⟨v, rfl, hv, hb⟩
    obtain rfl : v = false := by
      cases v
      · rfl
      · exact absurd (hv.1 rfl) HCQ.out
    have RR := Lib.hid (R0.out _ hb)
    clear hv hb
    go_wp2_with fail
    go_ret
    exact RR.out
set_option maxRecDepth 100000 in
set_option maxHeartbeats 2000000 in
theorem ex_cutLength (w h M : Int) (A : Option Addr) (c : Nat) (cut : List Int) (W : World) (hA : ArgI W A cut) (_hL : cut.length ≤ maxLen) :
    Calls Try.prog 9 #[.int .i64 w, .int .i64 h, .int .i64 M, .slice A cut.length c] W fun e w' => e = .returned (.bool true) ∧ Below W.heap.size W w' := by
  by_cases hs : cut.length ≤ 1048576
  case neg =>
    have hs' : ((1048576 : Int) < (cut.length : Int)) := by omega
    clear hA hs
    unfold maxLen at _hL
    go_enter Try.func9, Try.ntmps9
    go_wp2_with fail
    go_ret
    exact ⟨rfl, Below.refl _ _⟩
  have HS := Lib.hid (fun A c W hA => spec_len w h M A c cut W hA hs)
  have HI := Lib.hid (fun A c W hA => impl_len w h M A c cut W hA hs)
  have HT := Lib.hid (fun W hA => toI_any A c cut W hA hs)
  have HA := Lib.hid hA
  have hs' : ¬ ((1048576 : Int) < (cut.length : Int)) := by omega
  have HSZ := Lib.hid hs
  clear hA _hL hs
  go_enter Try.func9, Try.ntmps9
  go_wp2_with fail
  refine (HT.out _ HA.out).mono ?_
  rintro e w1 ⟨rfl, own1, b1⟩
  have p1 := intsA_of own1
  clear own1
  go_wp2_with fail
  refine (HS.out _ _ _ p1).mono ?_
  rintro e w2 ⟨v, rfl, hv, hb2⟩
  have HV := Lib.hid hv
  have b2 := below_on b1 hb2
  clear hb2 b1 p1 hv
  go_wp2_with fail
  refine (HT.out _ (HA.out.step b2)).mono ?_
  rintro e w3 ⟨rfl, own3, hb3⟩
  have b3 := below_on b2 hb3
  have p3 := intsA_of own3
  clear hb3 b2
  go_wp2_with fail
  refine (HI.out _ _ _ p3).mono ?_
  rintro e w4 ⟨v', rfl, hv', hb4⟩
  obtain rfl := HV.out.uniq hv'
  have b4 := below_on b3 hb4
  replace own3 := own_below own3 hb4
  have p3 := intsA_of own3
  clear hb4 b3 hv' own3
  go_wp2_with fail
  refine (HT.out _ (HA.out.step b4)).mono ?_
  rintro e w6 ⟨rfl, own6, hb6⟩
  have b6 := below_on b4 hb6
  replace p3 := intsA_on p3 hb6
  have p6 := intsA_of own6
  clear hb6 own6 b4
  go_wp2_with fail
  refine (eq_ints _ _ _ _ cut w6 p3 p6 HSZ.out).mono ?_
  rintro e w7 ⟨rfl, hb7⟩
  have b7 := below_on b6 hb7
  clear hb7 p3 p6 b6
  go_wp2_with fail
  go_ret
  exact ⟨rfl, b7⟩
end Go.Proofs.Ytamchfdiehkloaa
