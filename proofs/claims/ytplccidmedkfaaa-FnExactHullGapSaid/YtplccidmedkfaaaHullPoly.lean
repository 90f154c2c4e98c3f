/-
  The hull is a polygon of positive area.
-/
import Derived.Test.YtplccidmedkfaaaHullGeo
import Derived.Test.YtplccidmedkfaaaChainS
namespace Go.Proofs.Ytplccidmedkfaaa
open Go.RowKit

/-- A ring that turns left is a polygon. -/
theorem convex_good {L : List P2} (hn : 3 ≤ L.length ∧ L.length ≤ 10) (hok : allOk L = true) (hnd : L.Nodup) (hk : ∀ s ∈ sidesL L, ∀ x ∈ L, x ≠ s.1 → x ≠ s.2 → 0 < crossP s.1 s.2 x) : Good L := by
  refine ⟨hn, hok, hnd, fun s hs t ht hst => ?_⟩
  obtain ⟨i, hi, rfl⟩ := mem_sides.1 hs
  obtain ⟨k, hk', rfl⟩ := mem_sides.1 ht
  have hL : 0 < L.length := by omega
  have ni := nx_lt hL i
  have nk := nx_lt hL k
  have hne : i ≠ k := fun e => hst (by rw [e])
  have off : ∀ {a b x : P2}, 0 < crossP a b x → onP a b x = false := fun {a b x} h => by
    cases ho : onP a b x
    · rfl
    · rw [onP_iff] at ho; omega
  have ne_of : ∀ {p q : Nat}, p < L.length → q < L.length → p ≠ q → gt L p ≠ gt L q := fun hp hq h e => h (gt_inj hnd hp hq e)
  have nxi : ∀ j, j < L.length → nx L j ≠ j := fun j hj => by rw [nx_eq hj]; split <;> omega
  have nx2 : ∀ j, j < L.length → nx L (nx L j) ≠ j := fun j hj => by
    rw [nx_eq (nx_lt hL j), nx_eq hj]
    split <;> split <;> omega
  have nxinj : ∀ p q, p < L.length → q < L.length → nx L p = nx L q → p = q := fun p q hp hq e => by
    rw [nx_eq hp, nx_eq hq] at e
    split at e <;> split at e <;> omega
  simp only
  constructor
  · intro e
    have e2 : nx L i = k := gt_inj hnd ni hk' e
    have h1 : i ≠ nx L k := fun e3 => nx2 i hi (by rw [e2]; exact e3.symm)
    exact ⟨off (hk _ ht _ (gt_mem hi) (ne_of hi hk' hne) (ne_of hi nk h1)), off (hk _ hs _ (gt_mem nk) (ne_of nk hi (Ne.symm h1)) (ne_of nk ni (by rw [e2]; exact nxi k hk')))⟩
  · intro h1 h2
    have h3 : nx L i ≠ nx L k := fun e => hne (nxinj i k hi hk' e)
    have h1' : nx L i ≠ k := fun e => h1 (by rw [e])
    have h2' : nx L k ≠ i := fun e => h2 (by rw [e])
    have c1 := hk _ hs _ (gt_mem hk') (ne_of hk' hi (Ne.symm hne)) (ne_of hk' ni (Ne.symm h1'))
    have c2 := hk _ hs _ (gt_mem nk) (ne_of nk hi h2') (ne_of nk ni (Ne.symm h3))
    have c3 := hk _ ht _ (gt_mem hi) (ne_of hi hk' hne) (ne_of hi nk (Ne.symm h2'))
    have c4 := hk _ ht _ (gt_mem ni) (ne_of ni hk' h1') (ne_of ni nk h3)
    rw [meet_zero]
    refine ⟨?_, off c3, off c4, off c1, off c2⟩
    have : opp (gt L i) (gt L (nx L i)) (gt L k) (gt L (nx L k)) = false := by
      cases ho : opp (gt L i) (gt L (nx L i)) (gt L k) (gt L (nx L k))
      · rfl
      · rw [opp_iff] at ho; simp only at c1 c2; omega
    rw [this, Bool.false_and]

theorem inner3 {T T' TN : List P2} {a b x : P2} (e1 : T = a :: T') (e2 : T = TN ++ [b]) (hx : x ∈ T) (h1 : x ≠ a) (h2 : x ≠ b) : [a, x, b].Sublist T := by
  obtain ⟨U, V, hUV⟩ := List.append_of_mem hx
  cases U with
  | nil => rw [e1] at hUV; simp only [List.nil_append, List.cons.injEq] at hUV; exact absurd hUV.1.symm h1
  | cons u U =>
    have hu : u = a := by rw [e1] at hUV; simp only [List.cons_append, List.cons.injEq] at hUV; exact hUV.1.symm
    rcases List.eq_nil_or_concat V with hV | ⟨V', v, hV⟩
    · exfalso
      rw [hV, e2] at hUV
      have := List.append_inj' (s₁ := TN) (t₁ := [b]) (s₂ := u :: U) (t₂ := [x]) hUV rfl
      simp only [List.cons.injEq, and_true] at this
      exact h2 this.2.symm
    · have hv : v = b := by
        rw [hV, e2] at hUV
        have h3 : TN ++ [b] = (u :: U ++ x :: V') ++ [v] := by rw [hUV]; simp
        have := List.append_inj' h3 rfl
        simp only [List.cons.injEq, and_true] at this
        exact this.2.symm
      rw [hUV, hV, hu, hv]
      simp

theorem sum_cross (c : P2) : ∀ (l : List P2) (x y : P2), l.head? = some x → l.getLast? = some y → ((consec l).map (fun s => crossP c s.1 s.2)).sum = ((consec l).map crossT).sum + crossT (c, x) - crossT (c, y)
  | [], _, _, hx, _ => by simp at hx
  | [a], x, y, hx, hy => by
    simp only [List.head?_cons, Option.some.injEq, List.getLast?_singleton] at hx hy
    subst hx hy
    simp [consec]
  | a :: b :: l, x, y, hx, hy => by
    simp only [List.head?_cons, Option.some.injEq] at hx
    subst hx
    have e : consec (a :: b :: l) = (a, b) :: consec (b :: l) := rfl
    have ih := sum_cross c (b :: l) b y rfl (by rw [← hy]; simp)
    rw [e, List.map_cons, List.map_cons, List.sum_cons, List.sum_cons, ih]
    have : crossP c a b = crossT (a, b) + crossT (c, a) - crossT (c, b) := by simp only [cross_eq, crossT]; grind
    simp only
    omega
theorem sum_nonneg : ∀ (l : List Int), (∀ x ∈ l, 0 ≤ x) → 0 ≤ l.sum
  | [], _ => by simp
  | a :: l, h => by
    rw [List.sum_cons]
    have h1 := h a (by simp)
    have h2 := sum_nonneg l (fun x hx => h x (List.mem_cons_of_mem _ hx))
    omega
theorem twice_nonneg {x : P2} {xs : List P2} (c : P2) (h : ∀ s ∈ sidesL (x :: xs), 0 ≤ crossP c s.1 s.2) : 0 ≤ twiceI (x :: xs) := by
  rw [twice_chain, chain_sum]
  have e := sum_cross c (x :: xs ++ [x]) x x rfl List.getLast?_concat
  have h2 : 0 ≤ ((consec (x :: xs ++ [x])).map (fun s => crossP c s.1 s.2)).sum := sum_nonneg _ (fun v hv => by
    obtain ⟨s, hs, rfl⟩ := List.mem_map.1 hv
    exact h s hs)
  omega

theorem hull_good {D : List P2} (hD : 3 ≤ D.length) (hs : D.Pairwise (fun a b => befP a b = true)) (hok : allOk D = true) (hn : 3 ≤ (hullS D).length ∧ (hullS D).length ≤ 10) : Good (hullS D) ∧ 0 ≤ twiceI (hullS D) := by
  obtain ⟨m, D', hm⟩ : ∃ m D', D = m :: D' := by
    cases D with
    | nil => simp at hD
    | cons m D' => exact ⟨m, D', rfl⟩
  obtain ⟨D0, M, hM⟩ : ∃ D0 M, D = D0 ++ [M] := ⟨D.dropLast, D.getLast (by intro e; rw [e] at hD; simp at hD), (List.dropLast_concat_getLast _).symm⟩
  obtain ⟨r3, rs⟩ := chain_turns ord_bef _ D rfl hs
  obtain ⟨t3, ts⟩ := chain_turns ord_back _ D.reverse rfl (List.pairwise_reverse.2 hs)
  have hR2 := chL_two (P := D) (by omega)
  have hT2 := chL_two (P := D.reverse) (by rw [List.length_reverse]; omega)
  have hsR := chL_sub D
  have hsT := chL_sub D.reverse
  obtain ⟨R', hR1⟩ : ∃ R', chL D = m :: R' := by rw [hm]; exact chain_head m _ D' rfl
  obtain ⟨RN, hRN⟩ : ∃ RN, chL D = RN ++ [M] := by rw [hM]; exact chain_last D0 M
  obtain ⟨T', hT1⟩ : ∃ T', chL D.reverse = M :: T' := by
    have e : D.reverse = M :: D0.reverse := by rw [hM]; simp
    rw [e]; exact chain_head M _ _ rfl
  obtain ⟨TN, hTN⟩ : ∃ TN, chL D.reverse = TN ++ [m] := by
    have e : D.reverse = D'.reverse ++ [m] := by rw [hm]; simp
    rw [e]; exact chain_last _ m
  have hH : hullS D = RN ++ TN := by
    unfold hullS
    rw [hRN, hTN, List.dropLast_concat, List.dropLast_concat]
  rw [hH] at hn ⊢
  generalize chL D = R at *
  generalize chL D.reverse = T at *
  obtain ⟨RN', hRN'⟩ : ∃ RN', RN = m :: RN' := by
    cases RN with
    | nil => rw [hRN] at hR2; simp at hR2
    | cons u RN' =>
      rw [hRN] at hR1
      simp only [List.cons_append, List.cons.injEq] at hR1
      exact ⟨RN', by rw [hR1.1]⟩
  have hsides : sidesL (RN ++ TN) = consec R ++ consec T := by
    have e1 : RN ++ TN = m :: (RN' ++ TN) := by rw [hRN']; rfl
    have e2 : m :: (RN' ++ TN) ++ [m] = RN ++ M :: T' := by
      have : RN ++ (TN ++ [m]) = RN ++ (M :: T') := by rw [← hTN, hT1]
      rw [← this, hRN']; simp
    rw [e1]
    show consec (m :: (RN' ++ TN) ++ [m]) = _
    rw [e2, consec_join M RN T', ← hRN, ← hT1]
  have inT : ∀ x ∈ T, x ≠ M → x ≠ m → 0 < crossP m M x ∧ befP m x = true ∧ befP x M = true := fun x hx h1 h2 => by
    have hsub := inner3 hT1 hTN hx h1 h2
    have c := t3 M x m hsub
    have hp := ts.sublist hsub
    simp only [List.pairwise_cons, List.mem_cons, List.not_mem_nil, or_false, forall_eq_or_imp, forall_eq] at hp
    exact ⟨by rw [cross_cyc m M x] at c; exact c, hp.2.1, hp.1.1⟩
  have inR : ∀ x ∈ R, x ≠ m → x ≠ M → 0 < crossP m x M ∧ befP m x = true ∧ befP x M = true := fun x hx h1 h2 => by
    have hsub := inner3 hR1 hRN hx h1 h2
    have c := r3 m x M hsub
    have hp := rs.sublist hsub
    simp only [List.pairwise_cons, List.mem_cons, List.not_mem_nil, or_false, forall_eq_or_imp, forall_eq] at hp
    exact ⟨c, hp.1.1, hp.2.1⟩
  have mR : m ∈ R := by rw [hR1]; simp
  have MR : M ∈ R := by rw [hRN]; simp
  have mT : m ∈ T := by rw [hTN]; simp
  have MT : M ∈ T := by rw [hT1]; simp
  have anti : ∀ x, crossP m M x = -crossP m x M := fun x => by simp only [cross_eq]; grind
  have sideR : ∀ s ∈ consec R, ∀ x, x ∈ R ∨ x ∈ T → x ≠ s.1 → x ≠ s.2 → 0 < crossP s.1 s.2 x := fun s hs x hx h1 h2 => by
    by_cases hxR : x ∈ R
    · exact turn_all r3 hs hxR h1 h2
    · have hxT : x ∈ T := hx.resolve_left hxR
      obtain ⟨c, b1, b2⟩ := inT x hxT (fun e => hxR (by rw [e]; exact MR)) (fun e => hxR (by rw [e]; exact mR))
      exact strip b1 b2 (consec_ord rs hs) (turn_nonneg r3 hs mR) (turn_nonneg r3 hs MR) c
  have sideT : ∀ s ∈ consec T, ∀ x, x ∈ R ∨ x ∈ T → x ≠ s.1 → x ≠ s.2 → 0 < crossP s.1 s.2 x := fun s hs x hx h1 h2 => by
    by_cases hxT : x ∈ T
    · exact turn_all t3 hs hxT h1 h2
    · have hxR : x ∈ R := hx.resolve_right hxT
      obtain ⟨c, b1, b2⟩ := inR x hxR (fun e => hxT (by rw [e]; exact mT)) (fun e => hxT (by rw [e]; exact MT))
      have h3 := consec_ord (r := fun a b => befP b a) ts hs
      exact strip_back (m := M) (M := m) b2 b1 h3 (turn_nonneg t3 hs MT) (turn_nonneg t3 hs mT) (by rw [cross_cyc M m x] at c; exact c)
  have memH : ∀ x ∈ RN ++ TN, x ∈ R ∨ x ∈ T := fun x hx => by
    rcases List.mem_append.1 hx with h | h
    · exact .inl (by rw [hRN]; exact List.mem_append_left _ h)
    · exact .inr (by rw [hTN]; exact List.mem_append_left _ h)
  have memD : ∀ x ∈ RN ++ TN, x ∈ D := fun x hx => by
    rcases memH x hx with h | h
    · exact hsR x h
    · exact List.mem_reverse.1 (hsT x h)
  have hokH : allOk (RN ++ TN) = true := by
    simp only [allOk, List.all_eq_true] at *
    exact fun x hx => hok x (memD x hx)
  have nd : ∀ {r : P2 → P2 → Bool}, (∀ a, r a a = false) → ∀ {l : List P2}, l.Pairwise (fun a b => r a b = true) → l.Nodup := fun {r} hr {l} h => by
    rw [List.nodup_iff_pairwise_ne]
    exact h.imp (fun {a b} h e => by rw [e, hr] at h; cases h)
  have hRNs := rs; rw [hRN] at hRNs
  have hTNs := ts; rw [hTN] at hTNs
  have hRN1 := List.pairwise_append.1 hRNs
  have hTN1 := List.pairwise_append.1 hTNs
  have hnd : (RN ++ TN).Nodup := by
    rw [List.nodup_append]
    refine ⟨nd bef_irrefl hRN1.1, nd (r := fun a b => befP b a) bef_irrefl hTN1.1, fun a ha b hb e => ?_⟩
    subst e
    have nM : a ≠ M := fun e => by have := hRN1.2.2 a ha M (by simp); rw [e, bef_irrefl] at this; cases this
    have nm : a ≠ m := fun e => by have := hTN1.2.2 a hb m (by simp); rw [e, bef_irrefl] at this; cases this
    have c1 := (inR a (by rw [hRN]; exact List.mem_append_left _ ha) nm nM).1
    have c2 := (inT a (by rw [hTN]; exact List.mem_append_left _ hb) nM nm).1
    have := anti a
    omega
  refine ⟨convex_good hn hokH hnd fun s hs x hx h1 h2 => ?_, ?_⟩
  · rw [hsides, List.mem_append] at hs
    rcases hs with hs | hs
    · exact sideR s hs x (memH x hx) h1 h2
    · exact sideT s hs x (memH x hx) h1 h2
  · have e1 : RN ++ TN = m :: (RN' ++ TN) := by rw [hRN']; rfl
    rw [e1]
    refine twice_nonneg m fun s hs => ?_
    rw [← e1, hsides, List.mem_append] at hs
    rw [← cross_cyc m s.1 s.2]
    rcases hs with hs | hs
    · exact turn_nonneg r3 hs mR
    · exact turn_nonneg t3 hs mT
theorem hull_poly {L : List P2} (hok : allOk L = true) (h : inB ((hullM L).length : Int) 3 10 = true) : polyB (hullM L) = true ∧ 0 ≤ twiceI (hullM L) := by
  have hn := inB_spec.1 h
  unfold hullM at hn ⊢
  cases hd : decide ((sortD L).length < 3)
  · rw [hd] at hn
    simp only [cond_false] at hn ⊢
    have hl := of_decide_eq_false hd
    have := hull_good (D := sortD L) (by omega) (sortD_spec _ L rfl).1 (by
      simp only [allOk, List.all_eq_true] at *
      exact fun x hx => hok x (((sortD_spec _ L rfl).2 x).1 hx)) (by omega)
    exact ⟨good_poly this.1, this.2⟩
  · rw [hd] at hn
    simp at hn
end Go.Proofs.Ytplccidmedkfaaa
