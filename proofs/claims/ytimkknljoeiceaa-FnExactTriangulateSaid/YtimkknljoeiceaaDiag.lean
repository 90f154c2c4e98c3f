/-
  Plain geometry: the middle of a segment that meets the sides at its ends only is on no side.
-/
import Derived.Test.YtimkknljoeiceaaRing
namespace Go.Proofs.Ytimkknljoeiceaa.Mid
open Go.RowKit

theorem cross_aa (a b : Pt) : crossP a b a = 0 := by unfold crossP crossI; grind
theorem cross_abb (a b : Pt) : crossP a b b = 0 := by unfold crossP crossI; grind
theorem le_of_mulD {d x y : Int} (hd : 0 < d) (h : d * x ≤ d * y) : x ≤ y := Int.le_of_mul_le_mul_left h hd
theorem mix_le {s t a b lo : Int} (hs : 0 ≤ s) (ht : 0 ≤ t) (ha : lo ≤ a) (hb : lo ≤ b) : (s + t) * lo ≤ s * a + t * b := by
  have h1 := Int.mul_le_mul_of_nonneg_left ha hs
  have h2 := Int.mul_le_mul_of_nonneg_left hb ht
  rw [Int.add_mul]; omega
theorem le_mix {s t a b hi : Int} (hs : 0 ≤ s) (ht : 0 ≤ t) (ha : a ≤ hi) (hb : b ≤ hi) : s * a + t * b ≤ (s + t) * hi := by
  have h1 := Int.mul_le_mul_of_nonneg_left ha hs
  have h2 := Int.mul_le_mul_of_nonneg_left hb ht
  rw [Int.add_mul]; omega
theorem on_of_x {a b v : Pt} (h : a.1 ≠ b.1) (hc : crossP a b v = 0) (hb : bt a.1 b.1 v.1) : onP a b v = true := by
  refine (onP_iff _ _ _).2 ⟨hc, hb, ?_⟩
  unfold crossP crossI at hc
  unfold bt at hb
  rcases Int.lt_or_gt_of_ne h with k | k
  · exact frac_bt (m := b.1 - a.1) (q := v.1 - a.1) (by omega) (by omega) (by omega) (by grind)
  · exact frac_bt (m := a.1 - b.1) (q := a.1 - v.1) (by omega) (by omega) (by omega) (by grind)
theorem on_of_y {a b v : Pt} (h : a.2 ≠ b.2) (hc : crossP a b v = 0) (hb : bt a.2 b.2 v.2) : onP a b v = true := by
  refine (onP_iff _ _ _).2 ⟨hc, ?_, hb⟩
  unfold crossP crossI at hc
  unfold bt at hb
  rcases Int.lt_or_gt_of_ne h with k | k
  · exact frac_bt (m := b.2 - a.2) (q := v.2 - a.2) (by omega) (by omega) (by omega) (by grind)
  · exact frac_bt (m := a.2 - b.2) (q := a.2 - v.2) (by omega) (by omega) (by omega) (by grind)
/-- Two intervals with a common point: an end of one is in the other. -/
theorem ends_meet {a b c d s t p q : Int} (hs : 0 ≤ s) (ht : 0 ≤ t) (hp : 0 ≤ p) (hq : 0 ≤ q) (h5 : 0 < s + t) (h6 : s + t = p + q) (h : s * a + t * b = p * c + q * d) : bt a b c ∨ bt a b d ∨ bt c d a ∨ bt c d b := by
  have m1 : (s + t) * min a b ≤ s * a + t * b := mix_le hs ht (by omega) (by omega)
  have m2 : s * a + t * b ≤ (s + t) * max a b := le_mix hs ht (by omega) (by omega)
  have m3 : (p + q) * min c d ≤ p * c + q * d := mix_le hp hq (by omega) (by omega)
  have m4 : p * c + q * d ≤ (p + q) * max c d := le_mix hp hq (by omega) (by omega)
  rw [← h6, ← h] at m3 m4
  have l1 := le_of_mulD h5 (Int.le_trans m1 m4)
  have l2 := le_of_mulD h5 (Int.le_trans m3 m2)
  unfold bt
  omega
theorem mul_zeroR {s x : Int} (h : s * x = 0) (hx : x ≠ 0) : s = 0 := by
  rcases Int.mul_eq_zero.1 h with k | k
  · exact k
  · exact absurd k hx
theorem opp_signs {x y : Int} (h : (0 < x ∧ y < 0) ∨ (x < 0 ∧ 0 < y)) : sgn x * sgn y < 0 := by
  unfold sgn
  rcases h with h | h
  · split <;> split <;> (try split) <;> (try split) <;> omega
  · split <;> split <;> (try split) <;> (try split) <;> omega
theorem cross_lin {a b c d e f : Pt} {s t p q : Int} (h6 : s + t = p + q) (e1 : s * a.1 + t * b.1 = p * c.1 + q * d.1) (e2 : s * a.2 + t * b.2 = p * c.2 + q * d.2) : s * crossP e f a + t * crossP e f b = p * crossP e f c + q * crossP e f d := by
  unfold crossP crossI
  have : p = s + t - q := by omega
  subst this
  grind
theorem strict_opp {s t x y : Int} (hs : 0 ≤ s) (ht : 0 ≤ t) (h5 : 0 < s + t) (h : s * x + t * y = 0) (hx : x ≠ 0) (hy : y ≠ 0) : (0 < x ∧ y < 0) ∨ (x < 0 ∧ 0 < y) := by
  rcases Int.lt_or_gt_of_ne hx with k | k <;> rcases Int.lt_or_gt_of_ne hy with l | l
  · exfalso
    have a1 := Int.mul_nonneg hs (show 0 ≤ -x by omega)
    have a2 := Int.mul_nonneg ht (show 0 ≤ -y by omega)
    rw [Int.mul_neg] at a1 a2
    have b1 := mul_zeroR (show s * x = 0 by omega) hx
    have b2 := mul_zeroR (show t * y = 0 by omega) hy
    omega
  · exact .inr ⟨k, l⟩
  · exact .inl ⟨k, l⟩
  · exfalso
    have a1 := Int.mul_nonneg hs (show 0 ≤ x by omega)
    have a2 := Int.mul_nonneg ht (show 0 ≤ y by omega)
    have b1 := mul_zeroR (show s * x = 0 by omega) hx
    have b2 := mul_zeroR (show t * y = 0 by omega) hy
    omega
theorem wt_on {a b x : Pt} {p q m : Int} (hp : 0 ≤ p) (hq : 0 ≤ q) (hm : 0 < m) (h : m = p + q) (e1 : m * x.1 = p * a.1 + q * b.1) (e2 : m * x.2 = p * a.2 + q * b.2) : onP a b x = true := by
  subst h
  refine (onP_iff _ _ _).2 ⟨?_, ?_, ?_⟩
  · refine mul_zeroR (x := p + q) ?_ (by omega)
    unfold crossP crossI
    grind
  · exact frac_bt (m := p + q) (q := q) hm hq (by omega) (by grind)
  · exact frac_bt (m := p + q) (q := q) hm hq (by omega) (by grind)
theorem apart {a b c d : Pt} (hab : a ≠ b) (hcd : c ≠ d) (h : meetI a b c d = 0) {s t p q : Int} (hs : 0 ≤ s) (ht : 0 ≤ t) (hp : 0 ≤ p) (hq : 0 ≤ q) (h5 : 0 < s + t) (h6 : s + t = p + q) (e1 : s * a.1 + t * b.1 = p * c.1 + q * d.1) (e2 : s * a.2 + t * b.2 = p * c.2 + q * d.2) : False := by
  have hh := meet_zero.1 h
  obtain ⟨ho, q1, q2, q3, q4⟩ := hh
  have f1 := cross_lin (e := c) (f := d) h6 e1 e2
  have f2 := cross_lin (e := a) (f := b) h6 e1 e2
  rw [cross_aa, cross_abb, Int.mul_zero, Int.mul_zero, Int.add_zero] at f1
  rw [cross_aa, cross_abb, Int.mul_zero, Int.mul_zero, Int.add_zero] at f2
  have f2' := f2.symm
  by_cases z1 : crossP c d a = 0
  · by_cases z2 : crossP c d b = 0
    · -- all on one line
      have z3 : crossP a b c = 0 ∧ crossP a b d = 0 := by
        have g : crossP a b c - crossP a b d = crossP c d b - crossP c d a := by unfold crossP crossI; grind
        have g2 : (p + q) * crossP a b c = 0 := by
          have : crossP a b d = crossP a b c := by omega
          rw [this] at f2'; grind
        have g3 : crossP a b c = 0 := mul_zeroR (x := p + q) (by rw [Int.mul_comm]; exact g2) (by omega)
        omega
      by_cases hx : a.1 = b.1 ∧ c.1 = d.1
      · have hy1 : a.2 ≠ b.2 := fun e => hab (Prod.ext hx.1 e)
        have hy2 : c.2 ≠ d.2 := fun e => hcd (Prod.ext hx.2 e)
        rcases ends_meet hs ht hp hq h5 h6 e2 with k | k | k | k
        · rw [on_of_y hy1 z3.1 k] at q3; cases q3
        · rw [on_of_y hy1 z3.2 k] at q4; cases q4
        · rw [on_of_y hy2 z1 k] at q1; cases q1
        · rw [on_of_y hy2 z2 k] at q2; cases q2
      · have hx1 : a.1 ≠ b.1 := fun e => by
          have hy1 : a.2 ≠ b.2 := fun e' => hab (Prod.ext e e')
          have g1 := z3.1
          have g2 := z3.2
          unfold crossP crossI at g1 g2
          rw [← e, Int.sub_self, Int.zero_mul] at g1 g2
          have k1 := mul_zeroR (s := c.1 - a.1) (x := b.2 - a.2) (by rw [Int.mul_comm]; omega) (by omega)
          have k2 := mul_zeroR (s := d.1 - a.1) (x := b.2 - a.2) (by rw [Int.mul_comm]; omega) (by omega)
          exact hx ⟨e, by omega⟩
        have hx2 : c.1 ≠ d.1 := fun e => by
          have hy1 : c.2 ≠ d.2 := fun e' => hcd (Prod.ext e e')
          have g1 := z1
          have g2 := z2
          unfold crossP crossI at g1 g2
          rw [← e, Int.sub_self, Int.zero_mul] at g1 g2
          have k1 := mul_zeroR (s := a.1 - c.1) (x := d.2 - c.2) (by rw [Int.mul_comm]; omega) (by omega)
          have k2 := mul_zeroR (s := b.1 - c.1) (x := d.2 - c.2) (by rw [Int.mul_comm]; omega) (by omega)
          exact hx ⟨by omega, e⟩
        rcases ends_meet hs ht hp hq h5 h6 e1 with k | k | k | k
        · rw [on_of_x hx1 z3.1 k] at q3; cases q3
        · rw [on_of_x hx1 z3.2 k] at q4; cases q4
        · rw [on_of_x hx2 z1 k] at q1; cases q1
        · rw [on_of_x hx2 z2 k] at q2; cases q2
    · have t0 : t = 0 := mul_zeroR (x := crossP c d b) (by rw [z1, Int.mul_zero] at f1; omega) z2
      subst t0
      rw [Int.zero_mul, Int.add_zero] at e1 e2
      rw [wt_on hp hq (by omega) (by omega) e1 e2] at q1; cases q1
  · by_cases z2 : crossP c d b = 0
    · have s0 : s = 0 := mul_zeroR (x := crossP c d a) (by rw [z2, Int.mul_zero] at f1; omega) z1
      subst s0
      rw [Int.zero_mul, Int.zero_add] at e1 e2
      rw [wt_on hp hq (by omega) (by omega) e1 e2] at q2; cases q2
    · have o1 := strict_opp hs ht h5 f1 z1 z2
      by_cases z3 : crossP a b c = 0
      · by_cases z4 : crossP a b d = 0
        · have g : crossP a b c - crossP a b d = crossP c d b - crossP c d a := by unfold crossP crossI; grind
          omega
        · have t0 : q = 0 := mul_zeroR (x := crossP a b d) (by rw [z3, Int.mul_zero] at f2'; omega) z4
          subst t0
          rw [Int.zero_mul, Int.add_zero] at e1 e2
          rw [wt_on hs ht (by omega) (by omega) e1.symm e2.symm] at q3; cases q3
      · by_cases z4 : crossP a b d = 0
        · have t0 : p = 0 := mul_zeroR (x := crossP a b c) (by rw [z4, Int.mul_zero] at f2'; omega) z3
          subst t0
          rw [Int.zero_mul, Int.zero_add] at e1 e2
          rw [wt_on hs ht (by omega) (by omega) e1.symm e2.symm] at q4; cases q4
        · have o2 := strict_opp hp hq (by omega) f2' z3 z4
          have k1 := opp_signs o1
          have k2 := opp_signs o2
          unfold opp at ho
          rw [decide_eq_true k2, decide_eq_true k1] at ho
          cases ho


theorem half {a b d : Pt} {p q : Int} (hq : 0 ≤ q) (hm : 0 < p + q) (e1 : (p + q) * (a.1 + b.1) = 2 * p * a.1 + 2 * q * d.1) (e2 : (p + q) * (a.2 + b.2) = 2 * p * a.2 + 2 * q * d.2) : onP a d b = true ∨ onP a b d = true := by
  rcases Int.le_total q p with h | h
  · exact .inl (wt_on (p := p - q) (q := 2 * q) (m := p + q) (by omega) (by omega) hm (by omega) (by grind) (by grind))
  · exact .inr (wt_on (p := q - p) (q := p + q) (m := 2 * q) (by omega) (by omega) (by omega) (by omega) (by grind) (by grind))
theorem touch {a b c d : Pt} {p q : Int} (hab : a ≠ b) (hcd : c ≠ d) (h : meetI a b c d = 1) (hc : c = a ∨ c = b ∨ d = a ∨ d = b) (hp : 0 ≤ p) (hq : 0 ≤ q) (hm : 0 < p + q)
    (e1 : (p + q) * (a.1 + b.1) = 2 * p * c.1 + 2 * q * d.1) (e2 : (p + q) * (a.2 + b.2) = 2 * p * c.2 + 2 * q * d.2) : False := by
  have M := meet_one h
  rcases hc with rfl | rfl | rfl | rfl
  · rcases half hq hm e1 e2 with k | k
    · exact hab (M c b (mem_shared.2 (.inl ⟨.inl rfl, on_left c d⟩)) (mem_shared.2 (.inl ⟨.inr rfl, k⟩)))
    · exact hcd (M c d (mem_shared.2 (.inl ⟨.inl rfl, on_left c d⟩)) (mem_shared.2 (.inr ⟨.inr rfl, k⟩)))
  · rcases half (a := c) (b := a) hq hm (by rw [← e1, Int.add_comm a.1]) (by rw [← e2, Int.add_comm a.2]) with k | k
    · exact hab (M a c (mem_shared.2 (.inl ⟨.inl rfl, k⟩)) (mem_shared.2 (.inl ⟨.inr rfl, on_left c d⟩)))
    · exact hcd (M c d (mem_shared.2 (.inl ⟨.inr rfl, on_left c d⟩)) (mem_shared.2 (.inr ⟨.inr rfl, by rw [on_flip]; exact k⟩)))
  · rcases half (a := d) (b := b) (d := c) (p := q) (q := p) hp (by omega) (by grind) (by grind) with k | k
    · exact hab (M d b (mem_shared.2 (.inl ⟨.inl rfl, on_right c d⟩)) (mem_shared.2 (.inl ⟨.inr rfl, by rw [on_flip]; exact k⟩)))
    · exact hcd (M c d (mem_shared.2 (.inr ⟨.inl rfl, k⟩)) (mem_shared.2 (.inl ⟨.inl rfl, on_right c d⟩)))
  · rcases half (a := d) (b := a) (d := c) (p := q) (q := p) hp (by omega) (by grind) (by grind) with k | k
    · exact hab (M a d (mem_shared.2 (.inl ⟨.inl rfl, by rw [on_flip]; exact k⟩)) (mem_shared.2 (.inl ⟨.inr rfl, on_right c d⟩)))
    · exact hcd (M c d (mem_shared.2 (.inr ⟨.inl rfl, by rw [on_flip]; exact k⟩)) (mem_shared.2 (.inl ⟨.inr rfl, on_right c d⟩)))
theorem vals (a b c d : Pt) : meetI a b c d = 0 ∨ meetI a b c d = 1 ∨ meetI a b c d = 2 ∨ meetI a b c d = 3 := by
  unfold meetI
  cases opp a b c d && opp c d a b <;> cases (sharedS a b c d).isEmpty <;> cases sameAll (sharedS a b c d) <;> simp
/-- Segments with a common point: they touch or are along each other. -/
theorem has_shared {a b c d p : Pt} (h : p ∈ sharedS a b c d) : meetI a b c d = 1 ∨ meetI a b c d = 3 := by
  have ho : (opp a b c d && opp c d a b) = false := by
    cases ho : opp a b c d && opp c d a b
    · rfl
    · rw [opp_none ho] at h; simp at h
  have he : (sharedS a b c d).isEmpty = false := by
    cases he : (sharedS a b c d).isEmpty
    · rfl
    · rw [List.isEmpty_iff.1 he] at h; simp at h
  unfold meetI
  rw [ho, he]
  cases sameAll (sharedS a b c d) <;> simp
theorem ends_shared {a b c d : Pt} (h : c = a ∨ c = b ∨ d = a ∨ d = b) : ∃ p, p ∈ sharedS a b c d := by
  rcases h with rfl | rfl | rfl | rfl
  · exact ⟨c, mem_shared.2 (.inl ⟨.inl rfl, on_left _ _⟩)⟩
  · exact ⟨c, mem_shared.2 (.inl ⟨.inr rfl, on_left _ _⟩)⟩
  · exact ⟨d, mem_shared.2 (.inl ⟨.inl rfl, on_right _ _⟩)⟩
  · exact ⟨d, mem_shared.2 (.inl ⟨.inr rfl, on_right _ _⟩)⟩
end Go.Proofs.Ytimkknljoeiceaa.Mid
namespace Go.Proofs.Ytimkknljoeiceaa
open Go.RowKit

/-! ### Diagonals -/
def dbQ (p : Pt) : Pt := (p.1 + p.1, p.2 + p.2)
def dblL (L : List Pt) : List Pt := L.map dbQ
def addQ (a b : Pt) : Pt := (a.1 + b.1, a.2 + b.2)
theorem dbl_len (L : List Pt) : (dblL L).length = L.length := by simp [dblL]
theorem dbl_gt (L : List Pt) (i : Nat) : gt (dblL L) i = dbQ (gt L i) := by
  simp only [gt, dblL, List.getD_eq_getElem?_getD, List.getElem?_map]
  cases L[i]? <;> rfl
theorem dbl_nx (L : List Pt) (i : Nat) : nx (dblL L) i = nx L i := by rw [nx, nx, dbl_len]
/-- The segment between corners i and k, and side j: what the document asks. -/
def sideM (L : List Pt) (i k j : Nat) : Int := meetI (gt L i) (gt L k) (gt L j) (gt L (nx L j))
def sharesB (L : List Pt) (i k j : Nat) : Bool := j == i || j == k || nx L j == i || nx L j == k
def sideB (L : List Pt) (i k j : Nat) : Bool := bif sharesB L i k j then !(sideM L i k j == 3 || sideM L i k j == 2) else sideM L i k j == 0
def farB (L : List Pt) (i k : Nat) : Bool := !(nx L i == k || nx L k == i || i == k)
def diagB (L : List Pt) (i k : Nat) : Bool := farB L i k && ((List.range L.length).all (sideB L i k) && insideB (dblL L) (addQ (gt L i) (gt L k)))
/-- What the program asks of side j. -/
def wantI (L : List Pt) (i k j : Nat) : Int := bif (eqQ (gt L j) (gt L i) || eqQ (gt L (nx L j)) (gt L i)) || (eqQ (gt L j) (gt L k) || eqQ (gt L (nx L j)) (gt L k)) then 1 else 0
def atEndsB (L : List Pt) (i k : Nat) : Bool := (List.range L.length).all fun j => meetV (gt L i) (gt L k) (gt L j) (gt L (nx L j)) == wantI L i k j

theorem good_far {L : List Pt} (h : Good L) {i k : Nat} (hi : i < L.length) (hk : k < L.length) (e : i ≠ k) : gt L i ≠ gt L k := fun hg => e (gt_inj h.2.2.1 hi hk hg)
theorem dbl_rim {L : List Pt} (h : Good L) {i k : Nat} (hi : i < L.length) (hk : k < L.length) (hik : i ≠ k) (hs : ∀ j, j < L.length → sideB L i k j = true) : onRim (dblL L) (addQ (gt L i) (gt L k)) = false := by
  refine onRim_false fun j hj => ?_
  rw [dbl_len] at hj
  rw [dbl_nx, dbl_gt, dbl_gt]
  cases hon : onP (dbQ (gt L j)) (dbQ (gt L (nx L j))) (addQ (gt L i) (gt L k))
  · rfl
  · exfalso
    have hn := nx_lt (L := L) (by omega) j
    have hjn : j ≠ nx L j := by
      have := h.1
      rw [nx_eq hj]
      split <;> omega
    have hcd := good_far h hj hn hjn
    have hab := good_far h hi hk hik
    have hne : dbQ (gt L j) ≠ dbQ (gt L (nx L j)) := fun e => hcd (by
      have e1 := congrArg Prod.fst e
      have e2 := congrArg Prod.snd e
      simp only [dbQ] at e1 e2
      exact Prod.ext (by omega) (by omega))
    obtain ⟨p, q, w⟩ := on_wt hon hne
    have w1 := w.e1
    have w2 := w.e2
    simp only [dbQ, addQ] at w1 w2
    have hb := hs j hj
    unfold sideB at hb
    cases hsh : sharesB L i k j
    · rw [hsh] at hb
      simp only [cond_false, beq_iff_eq] at hb
      exact Mid.apart hab hcd hb (s := p + q) (t := p + q) (p := 2 * p) (q := 2 * q) (by have := w.pq; omega) (by have := w.pq; omega) (by have := w.p0; omega) (by have := w.q0; omega) (by have := w.pq; omega) (by omega) (by grind) (by grind)
    · have hc : gt L j = gt L i ∨ gt L j = gt L k ∨ gt L (nx L j) = gt L i ∨ gt L (nx L j) = gt L k := by
        simp only [sharesB, Bool.or_eq_true, beq_iff_eq] at hsh
        rcases hsh with ((e | e) | e) | e <;> simp [e]
      rw [hsh] at hb
      have hm : sideM L i k j = 1 := by
        obtain ⟨x, hx⟩ := Mid.ends_shared hc
        rcases Mid.has_shared hx with e | e
        · exact e
        · rw [show sideM L i k j = 3 from e] at hb; cases hb
      exact Mid.touch hab hcd hm hc w.p0 w.q0 w.pq (by grind) (by grind)
/-- The program's test is the document's. -/
theorem diag_eq {L : List Pt} (h : Good L) {i k : Nat} (hi : i < L.length) (hk : k < L.length) : (atEndsB L i k && aroundB (dblL L) (addQ (gt L i) (gt L k))) = diagB L i k := by
  have hl := h.1
  have hq : ∀ x y, x < L.length → y < L.length → eqQ (gt L x) (gt L y) = (x == y) := fun x y hx hy => by
    rw [Bool.eq_iff_iff, eqQ_iff, beq_iff_eq]
    exact ⟨fun e => gt_inj h.2.2.1 hx hy e, fun e => by rw [e]⟩
  have ok := fun x => gt_ok h.2.1 x
  have hw : ∀ j, j < L.length → wantI L i k j = bif sharesB L i k j then 1 else 0 := fun j hj => by
    have hn := nx_lt (L := L) (by omega) j
    unfold wantI sharesB
    rw [hq j i hj hi, hq j k hj hk, hq _ i hn hi, hq _ k hn hk]
    cases (j == i) <;> cases (j == k) <;> cases (nx L j == i) <;> cases (nx L j == k) <;> rfl
  have hj1 : ∀ j, j < L.length → j ≠ nx L j := fun j hj => by
    rw [nx_eq hj]
    split <;> omega
  have hv : ∀ j, j < L.length → i ≠ k → meetV (gt L i) (gt L k) (gt L j) (gt L (nx L j)) = sideM L i k j := fun j hj hik => by
    have hn := nx_lt (L := L) (by omega) j
    unfold meetV okQ
    rw [ok i, ok k, ok j, ok (nx L j), hq i k hi hk, hq j _ hj hn, beq_eq_false_iff_ne.2 hik, beq_eq_false_iff_ne.2 (hj1 j hj)]
    rfl
  by_cases hik : i = k
  · subst hik
    have e1 : atEndsB L i i = false := by
      simp only [atEndsB, List.all_eq_false, List.mem_range]
      refine ⟨i, hi, ?_⟩
      have e2 : meetV (gt L i) (gt L i) (gt L i) (gt L (nx L i)) = 0 := by
        unfold meetV
        rw [(eqQ_iff (gt L i) (gt L i)).2 rfl]
        simp
      rw [e2, hw i hi]
      simp [sharesB]
    have e2 : farB L i i = false := by simp [farB]
    rw [diagB, e1, e2]; rfl
  · by_cases hf : farB L i k = true
    · rw [diagB, hf, Bool.true_and]
      have e1 : atEndsB L i k = (List.range L.length).all (sideB L i k) := by
        rw [Bool.eq_iff_iff]
        simp only [atEndsB, List.all_eq_true, List.mem_range, beq_iff_eq]
        refine forall_congr' fun j => forall_congr' fun hj => ?_
        rw [hv j hj hik, hw j hj, sideB]
        cases hsh : sharesB L i k j
        · simp
        · have hc : gt L j = gt L i ∨ gt L j = gt L k ∨ gt L (nx L j) = gt L i ∨ gt L (nx L j) = gt L k := by
            simp only [sharesB, Bool.or_eq_true, beq_iff_eq] at hsh
            rcases hsh with ((e | e) | e) | e <;> simp [e]
          obtain ⟨x, hx⟩ := Mid.ends_shared hc
          rcases Mid.has_shared hx with e | e
          · rw [show sideM L i k j = 1 from e]; simp
          · rw [show sideM L i k j = 3 from e]; simp
      rw [e1]
      cases hs : (List.range L.length).all (sideB L i k)
      · rfl
      · rw [Bool.true_and, Bool.true_and, insideB, dbl_rim h hi hk hik (fun j hj => List.all_eq_true.1 hs j (List.mem_range.2 hj)), Bool.false_or]
        rfl
    · have hf' : farB L i k = false := by simpa using hf
      rw [diagB, hf', Bool.false_and]
      have e1 : atEndsB L i k = false := by
        have key : ∀ j, j < L.length → ((j = i ∧ nx L j = k) ∨ (j = k ∧ nx L j = i)) → atEndsB L i k = false := fun j hj hh => by
          simp only [atEndsB, List.all_eq_false, List.mem_range]
          refine ⟨j, hj, ?_⟩
          rw [hv j hj hik, hw j hj]
          have hab := good_far h hi hk hik
          have e3 : sideM L i k j = 3 := by
            have i1 : gt L i ∈ sharedS (gt L i) (gt L k) (gt L j) (gt L (nx L j)) := by
              rcases hh with ⟨e1, e2⟩ | ⟨e1, e2⟩
              · rw [e1]; exact mem_shared.2 (.inl ⟨.inl rfl, on_left _ _⟩)
              · rw [e2]; exact mem_shared.2 (.inl ⟨.inl rfl, on_right _ _⟩)
            have i2 : gt L k ∈ sharedS (gt L i) (gt L k) (gt L j) (gt L (nx L j)) := by
              rcases hh with ⟨e1, e2⟩ | ⟨e1, e2⟩
              · rw [e2]; exact mem_shared.2 (.inl ⟨.inr rfl, on_right _ _⟩)
              · rw [e1]; exact mem_shared.2 (.inl ⟨.inr rfl, on_left _ _⟩)
            rcases Mid.has_shared i1 with e | e
            · exact absurd (meet_one e _ _ i1 i2) hab
            · exact e
          rw [e3]
          cases sharesB L i k j <;> simp
        simp only [farB, Bool.not_eq_false', Bool.or_eq_true, beq_iff_eq] at hf'
        rcases hf' with (e | e) | e
        · exact key i hi (.inl ⟨rfl, e⟩)
        · exact key k hk (.inr ⟨rfl, e⟩)
        · exact absurd e hik
      rw [e1]; rfl
end Go.Proofs.Ytimkknljoeiceaa
