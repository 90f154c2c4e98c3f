/-
  Plain geometry: a polygon is a ring; its inner points.
-/
import Derived.Test.YtklbambnnkdjlaaPickSum
import Derived.Test.YtklbambnnkdjlaaRing
import Derived.Test.YtklbambnnkdjlaaInner
namespace Go.Proofs.Ytklbambnnkdjlaa

theorem on_of_x {a b v : Pt} (h : a.1 ≠ b.1) (hc : crossP a b v = 0) (hb : bt a.1 b.1 v.1) : onP a b v = true := by
  refine (onP_iff _ _ _).2 ⟨hc, hb, ?_⟩
  unfold crossP crossI at hc
  unfold bt at hb
  rcases Int.lt_or_gt_of_ne h with k | k
  · exact frac_bt (m := b.1 - a.1) (q := v.1 - a.1) (by omega) (by omega) (by omega) (by grind)
  · exact frac_bt (m := a.1 - b.1) (q := a.1 - v.1) (by omega) (by omega) (by omega) (by grind)
theorem on_of_y {a b v : Pt} (h : a.2 ≠ b.2) (hc : crossP a b v = 0) (hb : bt a.2 b.2 v.2) : onP a b v = true := by
  refine (onP_iff _ _ _).2 ⟨hc, ?_, hb⟩
  unfold crossP crossI at hc
  unfold bt at hb
  rcases Int.lt_or_gt_of_ne h with k | k
  · exact frac_bt (m := b.2 - a.2) (q := v.2 - a.2) (by omega) (by omega) (by omega) (by grind)
  · exact frac_bt (m := a.2 - b.2) (q := a.2 - v.2) (by omega) (by omega) (by omega) (by grind)
/-- Two intervals with a common point: an end of one is in the other. -/
theorem ends_meet {a b c d s t p q : Int} (hs : 0 ≤ s) (ht : 0 ≤ t) (hp : 0 ≤ p) (hq : 0 ≤ q) (h5 : 0 < s + t) (h6 : s + t = p + q) (h : s * a + t * b = p * c + q * d) : bt a b c ∨ bt a b d ∨ bt c d a ∨ bt c d b := by
  have m1 : (s + t) * min a b ≤ s * a + t * b := mix_le hs ht (by omega) (by omega)
  have m2 : s * a + t * b ≤ (s + t) * max a b := le_mix hs ht (by omega) (by omega)
  have m3 : (p + q) * min c d ≤ p * c + q * d := mix_le hp hq (by omega) (by omega)
  have m4 : p * c + q * d ≤ (p + q) * max c d := le_mix hp hq (by omega) (by omega)
  rw [← h6, ← h] at m3 m4
  have l1 := le_of_mulD h5 (Int.le_trans m1 m4)
  have l2 := le_of_mulD h5 (Int.le_trans m3 m2)
  unfold bt
  omega
theorem mul_zeroR {s x : Int} (h : s * x = 0) (hx : x ≠ 0) : s = 0 := by
  rcases Int.mul_eq_zero.1 h with k | k
  · exact k
  · exact absurd k hx
theorem opp_signs {x y : Int} (h : (0 < x ∧ y < 0) ∨ (x < 0 ∧ 0 < y)) : sgn x * sgn y < 0 := by
  unfold sgn
  rcases h with h | h
  · split <;> split <;> (try split) <;> (try split) <;> omega
  · split <;> split <;> (try split) <;> (try split) <;> omega
theorem cross_lin {a b c d e f : Pt} {s t p q : Int} (h6 : s + t = p + q) (e1 : s * a.1 + t * b.1 = p * c.1 + q * d.1) (e2 : s * a.2 + t * b.2 = p * c.2 + q * d.2) : s * crossP e f a + t * crossP e f b = p * crossP e f c + q * crossP e f d := by
  unfold crossP crossI
  have : p = s + t - q := by omega
  subst this
  grind
theorem strict_opp {s t x y : Int} (hs : 0 ≤ s) (ht : 0 ≤ t) (h5 : 0 < s + t) (h : s * x + t * y = 0) (hx : x ≠ 0) (hy : y ≠ 0) : (0 < x ∧ y < 0) ∨ (x < 0 ∧ 0 < y) := by
  rcases Int.lt_or_gt_of_ne hx with k | k <;> rcases Int.lt_or_gt_of_ne hy with l | l
  · exfalso
    have a1 := Int.mul_nonneg hs (show 0 ≤ -x by omega)
    have a2 := Int.mul_nonneg ht (show 0 ≤ -y by omega)
    rw [Int.mul_neg] at a1 a2
    have b1 := mul_zeroR (show s * x = 0 by omega) hx
    have b2 := mul_zeroR (show t * y = 0 by omega) hy
    omega
  · exact .inr ⟨k, l⟩
  · exact .inl ⟨k, l⟩
  · exfalso
    have a1 := Int.mul_nonneg hs (show 0 ≤ x by omega)
    have a2 := Int.mul_nonneg ht (show 0 ≤ y by omega)
    have b1 := mul_zeroR (show s * x = 0 by omega) hx
    have b2 := mul_zeroR (show t * y = 0 by omega) hy
    omega
theorem wt_on {a b x : Pt} {p q m : Int} (hp : 0 ≤ p) (hq : 0 ≤ q) (hm : 0 < m) (h : m = p + q) (e1 : m * x.1 = p * a.1 + q * b.1) (e2 : m * x.2 = p * a.2 + q * b.2) : onP a b x = true := by
  subst h
  refine (onP_iff _ _ _).2 ⟨?_, ?_, ?_⟩
  · refine mul_zeroR (x := p + q) ?_ (by omega)
    unfold crossP crossI
    grind
  · exact frac_bt (m := p + q) (q := q) hm hq (by omega) (by grind)
  · exact frac_bt (m := p + q) (q := q) hm hq (by omega) (by grind)
theorem meet_apart {a b c d : Pt} (hab : a ≠ b) (hcd : c ≠ d) (h : meetI a b c d = 0) : Apart a b c d := fun s t p q hs ht hp hq h5 h6 ⟨e1, e2⟩ => by
  have hh : (opp a b c d && opp c d a b) = false ∧ onP c d a = false ∧ onP c d b = false ∧ onP a b c = false ∧ onP a b d = false := by
    unfold meetI at h
    cases ho : (opp a b c d && opp c d a b)
    · rw [ho] at h
      cases hE : (sharedS a b c d).isEmpty
      · rw [hE] at h
        cases hS : sameAll (sharedS a b c d) <;> rw [hS] at h <;> simp at h
      · simp only [sharedS, List.isEmpty_iff, List.append_eq_nil_iff, List.filter_eq_nil_iff] at hE
        refine ⟨rfl, ?_, ?_, ?_, ?_⟩
        · have := hE.1 a (by simp); simpa using this
        · have := hE.1 b (by simp); simpa using this
        · have := hE.2 c (by simp); simpa using this
        · have := hE.2 d (by simp); simpa using this
    · rw [ho] at h; simp at h
  obtain ⟨ho, q1, q2, q3, q4⟩ := hh
  have f1 := cross_lin (e := c) (f := d) h6 e1 e2
  have f2 := cross_lin (e := a) (f := b) h6 e1 e2
  rw [cross_aa, cross_abb, Int.mul_zero, Int.mul_zero, Int.add_zero] at f1
  rw [cross_aa, cross_abb, Int.mul_zero, Int.mul_zero, Int.add_zero] at f2
  have f2' := f2.symm
  by_cases z1 : crossP c d a = 0
  · by_cases z2 : crossP c d b = 0
    · -- all on one line
      have z3 : crossP a b c = 0 ∧ crossP a b d = 0 := by
        have g : crossP a b c - crossP a b d = crossP c d b - crossP c d a := by unfold crossP crossI; grind
        have g2 : (p + q) * crossP a b c = 0 := by
          have : crossP a b d = crossP a b c := by omega
          rw [this] at f2'; grind
        have g3 : crossP a b c = 0 := mul_zeroR (x := p + q) (by rw [Int.mul_comm]; exact g2) (by omega)
        omega
      by_cases hx : a.1 = b.1 ∧ c.1 = d.1
      · have hy1 : a.2 ≠ b.2 := fun e => hab (Prod.ext hx.1 e)
        have hy2 : c.2 ≠ d.2 := fun e => hcd (Prod.ext hx.2 e)
        rcases ends_meet hs ht hp hq h5 h6 e2 with k | k | k | k
        · rw [on_of_y hy1 z3.1 k] at q3; cases q3
        · rw [on_of_y hy1 z3.2 k] at q4; cases q4
        · rw [on_of_y hy2 z1 k] at q1; cases q1
        · rw [on_of_y hy2 z2 k] at q2; cases q2
      · have hx1 : a.1 ≠ b.1 := fun e => by
          have hy1 : a.2 ≠ b.2 := fun e' => hab (Prod.ext e e')
          have g1 := z3.1
          have g2 := z3.2
          unfold crossP crossI at g1 g2
          rw [← e, Int.sub_self, Int.zero_mul] at g1 g2
          have k1 := mul_zeroR (s := c.1 - a.1) (x := b.2 - a.2) (by rw [Int.mul_comm]; omega) (by omega)
          have k2 := mul_zeroR (s := d.1 - a.1) (x := b.2 - a.2) (by rw [Int.mul_comm]; omega) (by omega)
          exact hx ⟨e, by omega⟩
        have hx2 : c.1 ≠ d.1 := fun e => by
          have hy1 : c.2 ≠ d.2 := fun e' => hcd (Prod.ext e e')
          have g1 := z1
          have g2 := z2
          unfold crossP crossI at g1 g2
          rw [← e, Int.sub_self, Int.zero_mul] at g1 g2
          have k1 := mul_zeroR (s := a.1 - c.1) (x := d.2 - c.2) (by rw [Int.mul_comm]; omega) (by omega)
          have k2 := mul_zeroR (s := b.1 - c.1) (x := d.2 - c.2) (by rw [Int.mul_comm]; omega) (by omega)
          exact hx ⟨by omega, e⟩
        rcases ends_meet hs ht hp hq h5 h6 e1 with k | k | k | k
        · rw [on_of_x hx1 z3.1 k] at q3; cases q3
        · rw [on_of_x hx1 z3.2 k] at q4; cases q4
        · rw [on_of_x hx2 z1 k] at q1; cases q1
        · rw [on_of_x hx2 z2 k] at q2; cases q2
    · have t0 : t = 0 := mul_zeroR (x := crossP c d b) (by rw [z1, Int.mul_zero] at f1; omega) z2
      subst t0
      rw [Int.zero_mul, Int.add_zero] at e1 e2
      rw [wt_on hp hq (by omega) (by omega) e1 e2] at q1; cases q1
  · by_cases z2 : crossP c d b = 0
    · have s0 : s = 0 := mul_zeroR (x := crossP c d a) (by rw [z2, Int.mul_zero] at f1; omega) z1
      subst s0
      rw [Int.zero_mul, Int.zero_add] at e1 e2
      rw [wt_on hp hq (by omega) (by omega) e1 e2] at q2; cases q2
    · have o1 := strict_opp hs ht h5 f1 z1 z2
      by_cases z3 : crossP a b c = 0
      · by_cases z4 : crossP a b d = 0
        · have g : crossP a b c - crossP a b d = crossP c d b - crossP c d a := by unfold crossP crossI; grind
          omega
        · have t0 : q = 0 := mul_zeroR (x := crossP a b d) (by rw [z3, Int.mul_zero] at f2'; omega) z4
          subst t0
          rw [Int.zero_mul, Int.add_zero] at e1 e2
          rw [wt_on hs ht (by omega) (by omega) e1.symm e2.symm] at q3; cases q3
      · by_cases z4 : crossP a b d = 0
        · have t0 : p = 0 := mul_zeroR (x := crossP a b c) (by rw [z4, Int.mul_zero] at f2'; omega) z3
          subst t0
          rw [Int.zero_mul, Int.zero_add] at e1 e2
          rw [wt_on hs ht (by omega) (by omega) e1.symm e2.symm] at q4; cases q4
        · have o2 := strict_opp hp hq (by omega) f2' z3 z4
          have k1 := opp_signs o1
          have k2 := opp_signs o2
          unfold opp at ho
          rw [decide_eq_true k2, decide_eq_true k1] at ho
          cases ho

/-! ### A polygon is a ring -/
def rp (L : List Pt) (k : Nat) : Pt := gt L (k % L.length)
theorem rp_next {L : List Pt} (k : Nat) : rp L (k + 1) = gt L (nx L (k % L.length)) := by
  unfold rp nx
  rw [Nat.mod_add_mod]
theorem mod_ne {x y n : Nat} (h1 : x < y) (h2 : y < x + n) : x % n ≠ y % n := fun e => by
  have h3 := Nat.sub_mod_eq_zero_of_mod_eq e.symm
  have h4 := Nat.mod_eq_of_lt (show y - x < n by omega)
  omega
theorem good_ring {L : List Pt} (h : Good L) : Ring (rp L) L.length := by
  obtain ⟨⟨h3, h10⟩, hok, hnd, hs⟩ := h
  have hn : 0 < L.length := by omega
  have mem : ∀ k, (rp L k, rp L (k + 1)) ∈ sidesL L := fun k => by
    rw [sides_eq, rp_next]
    exact List.mem_map.2 ⟨k % L.length, List.mem_range.2 (Nat.mod_lt _ hn), rfl⟩
  have dif : ∀ x y, x < y → y < x + L.length → rp L x ≠ rp L y := fun x y h1 h2 e => mod_ne h1 h2 (gt_inj hnd (Nat.mod_lt _ hn) (Nat.mod_lt _ hn) e)
  have per : ∀ k, rp L (k + L.length) = rp L k := fun k => by unfold rp; rw [Nat.add_mod_right]
  refine ⟨h3, per, fun k => dif k (k + 1) (by omega) (by omega), fun i j h1 h2 => ?_, fun k => ?_⟩
  · have d1 := dif i j (by omega) (by omega)
    have d2 := dif (i + 1) j (by omega) (by omega)
    have d3 : rp L (j + 1) ≠ rp L i := by
      rw [← per i]
      exact dif (j + 1) (i + L.length) (by omega) (by omega)
    exact meet_apart (dif _ _ (by omega) (by omega)) (dif _ _ (by omega) (by omega)) ((hs _ (mem i) _ (mem j) (fun e => d1 (congrArg Prod.fst e))).2 d2 d3)
  · have d1 := dif k (k + 1) (by omega) (by omega)
    have e := (hs _ (mem k) _ (mem (k + 1)) (fun e => d1 (congrArg Prod.fst e))).1 rfl
    by_cases hc : crossP (rp L k) (rp L (k + 1)) (rp L (k + 2)) = 0
    · right
      rcases on_line hc with o | o | o
      · exact o
      · have := e.1; simp only at this; rw [show k + 1 + 1 = k + 2 from rfl, o] at this; cases this
      · have := e.2; simp only at this; rw [show k + 1 + 1 = k + 2 from rfl, o] at this; cases this
    · exact .inl hc

/-! ### The model's counts -/
theorem ins_par {f : Nat → Bool} {g : Nat → Int} : ∀ n, (∀ k, k < n → (f k = true ↔ g k % 2 = 1)) → (insT f n = true ↔ sumT g n % 2 = 1)
  | 0, _ => by simp [insT, sumT]
  | n + 1, h => by
    have ih := ins_par n fun k hk => h k (by omega)
    have hn := h n (by omega)
    simp only [insT, sumT]
    cases hf : f n
    · rw [hf] at hn
      have : ¬ g n % 2 = 1 := fun e => by have := hn.2 e; cases this
      rw [cond_false, ih]; omega
    · have := hn.1 hf
      rw [cond_true, Bool.not_eq_true', ← Bool.not_eq_true, ih]; omega
theorem flip_w (L : List Pt) (v : Pt) (i : Nat) : flipT L v i = true ↔ wS (gt L i) (gt L (nx L i)) v % 2 = 1 := by
  unfold flipT wS
  generalize gt L i = a
  generalize gt L (nx L i) = b
  generalize crossP a b v = x
  by_cases k1 : v.2 < a.2 <;> by_cases k2 : v.2 < b.2 <;> by_cases k3 : a.2 < b.2 <;> by_cases k4 : b.2 < a.2 <;> by_cases k5 : 0 < x <;> by_cases k6 : x < 0 <;> (first | (exfalso; omega) | skip) <;>
    simp [k1, k2, k3, k4, k5, k6] <;> (repeat (first | rw [if_pos (by omega)] | rw [if_neg (by omega)])) <;> omega
theorem inn_spec {L : List Pt} (h : Ring (rp L) L.length) (v : Pt) : innT L v = true ↔ (∀ k, onP (rp L k) (rp L (k + 1)) v = false) ∧ wN (rp L) L.length v ≠ 0 := by
  have hn : 0 < L.length := by have := h.n3; omega
  obtain ⟨z, z01, hz, _⟩ := h.hopf
  have e1 : onRim L v = false ↔ ∀ k, onP (rp L k) (rp L (k + 1)) v = false := by
    constructor
    · intro e k
      cases hk : onP (rp L k) (rp L (k + 1)) v
      · rfl
      · rw [rp_next] at hk
        rw [onRim_true (Nat.mod_lt k hn) hk] at e; cases e
    · intro e
      refine onRim_false fun i hi => ?_
      have := e i
      rw [rp_next, rp, Nat.mod_eq_of_lt hi] at this
      exact this
  have e2 : insT (flipT L v) L.length = true ↔ wN (rp L) L.length v % 2 = 1 := ins_par _ fun k hk => by
    rw [flip_w, rp_next, rp, Nat.mod_eq_of_lt hk]
  unfold innT insideB
  constructor
  · intro e
    rw [Bool.and_eq_true, Bool.not_eq_true'] at e
    obtain ⟨r1, r2⟩ := e
    rw [r1, Bool.false_or, e2] at r2
    exact ⟨e1.1 r1, by omega⟩
  · rintro ⟨r1, r2⟩
    rw [e1.2 r1, Bool.false_or]
    have := h.off_any hz r1
    rw [e2.2 (by omega)]; rfl
theorem row_sum (f : Nat → Bool) : ∀ n, (rowN f n : Int) = sumT (fun j => ind (f j)) n
  | 0 => rfl
  | n + 1 => by
    simp only [rowN, sumT]
    rw [← row_sum f n]
    cases f n <;> simp [ind]
theorem all_sum (g : Nat → Nat) : ∀ n, (allN g n : Int) = sumT (fun r => (g r : Int)) n
  | 0 => rfl
  | n + 1 => by
    simp only [allN, sumT]
    rw [← all_sum g n]; omega
theorem inner_sum (L : List Pt) : (innerN L : Int) = sumB (fun v => ind (innT L v)) (boxTill L L.length).1.1 (boxTill L L.length).1.2 (boxW L) (boxH L) := by
  unfold innerN sumB
  rw [all_sum]
  exact sumT_congr _ fun r _ => row_sum _ _
theorem box_has (L : List Pt) : ∀ n i, i < n → (boxTill L n).1.1 ≤ (gt L i).1 ∧ (gt L i).1 ≤ (boxTill L n).2.1 ∧ (boxTill L n).1.2 ≤ (gt L i).2 ∧ (gt L i).2 ≤ (boxTill L n).2.2
  | n + 1, i, hi => by
    have e : boxTill L (n + 1) = boxStep (boxTill L n) (gt L n) := rfl
    rw [e]
    unfold boxStep minI maxI
    simp only
    rcases Nat.lt_or_ge i n with k | k
    · have := box_has L n i k
      refine ⟨?_, ?_, ?_, ?_⟩ <;> (split <;> omega)
    · rw [show i = n by omega]
      refine ⟨?_, ?_, ?_, ?_⟩ <;> (split <;> omega)
/-- The polygon's own Pick's theorem. -/
theorem pick_poly (L : List Pt) (hp : polyB L = true) : (innerN L : Int) = pickI L := by
  have h := good_ring ((poly_iff L).1 hp)
  have hn : 0 < L.length := by have := h.n3; omega
  obtain ⟨e, he, ha⟩ := h.pick (x0 := (boxTill L L.length).1.1) (y0 := (boxTill L L.length).1.2) (w := boxW L) (hh := boxH L) (fun k => by
    have := box_has L L.length (k % L.length) (Nat.mod_lt _ hn)
    unfold rp boxW boxH
    omega) (innT L) (inn_spec h)
  rw [← inner_sum] at ha
  have a1 : sumT (fun k => (rp L k).1 * (rp L (k + 1)).2 - (rp L k).2 * (rp L (k + 1)).1) L.length = twiceI L := sumT_congr _ fun k hk => by
    rw [rp_next, rp, Nat.mod_eq_of_lt hk]; rfl
  have a2 : sumT (fun k => (Nat.gcd ((rp L (k + 1)).1 - (rp L k).1).natAbs ((rp L (k + 1)).2 - (rp L k).2).natAbs : Int)) L.length = rimI L := sumT_congr _ fun k hk => by
    rw [rp_next, rp, Nat.mod_eq_of_lt hk]; rfl
  rw [a1, a2] at ha
  have pos : ∀ n : Nat, n ≤ L.length → (n : Int) ≤ sumT (rimT L) n := fun n => by
    induction n with
    | zero => intro _; simp [sumT]
    | succ n ih =>
      intro hl
      have i1 := ih (by omega)
      have hne := h.ne n
      rw [rp_next, rp, Nat.mod_eq_of_lt (show n < L.length by omega)] at hne
      have : 0 < stepsN (gt L n).1 (gt L n).2 (gt L (nx L n)).1 (gt L (nx L n)).2 := by
        unfold stepsN
        rcases Nat.eq_zero_or_pos (Nat.gcd ((gt L (nx L n)).1 - (gt L n).1).natAbs ((gt L (nx L n)).2 - (gt L n).2).natAbs) with k | k
        · have := Nat.gcd_eq_zero_iff.1 k
          exact absurd (Prod.ext (by omega) (by omega)) hne
        · exact k
      rw [sumT]
      have e : rimT L n = (stepsN (gt L n).1 (gt L n).2 (gt L (nx L n)).1 (gt L (nx L n)).2 : Int) := rfl
      omega
  have p1 := pos L.length (Nat.le_refl _)
  have p2 : (L.length : Int) ≤ rimI L := p1
  have h3 := h.n3
  unfold pickI maxI
  rcases he with rfl | rfl
  · rw [if_neg (by omega), ha]
    rw [show 1 * (2 * (innerN L : Int) + rimI L - 2) - rimI L + 2 = 2 * (innerN L : Int) by omega]
    rw [Int.tdiv_eq_ediv_of_nonneg (by omega)]
    omega
  · rw [if_pos (by omega), ha]
    rw [show -(-1 * (2 * (innerN L : Int) + rimI L - 2)) - rimI L + 2 = 2 * (innerN L : Int) by omega]
    rw [Int.tdiv_eq_ediv_of_nonneg (by omega)]
    omega
end Go.Proofs.Ytklbambnnkdjlaa
