/-
  Plain geometry: the number of times a ring goes round its corners, and the sum of its turns.
-/
import Derived.Test.YtklbambnnkdjlaaHopf
namespace Go.Proofs.Ytklbambnnkdjlaa

def turnAt (p : Nat → Pt) (k : Nat) : Int := mu (p k) (p (k + 1)) (p (k + 2))
def turnAt' (p : Nat → Pt) (k : Nat) : Int := mu' (p k) (p (k + 1)) (p (k + 2))
def upAt (p : Nat → Pt) (k : Nat) : Int := rho (p k) (p (k + 1))
theorem Ring.turns {p : Nat → Pt} {n : Nat} (h : Ring p n) (k : Nat) : turnAt p k - turnAt' p k = upAt p (k + 1) - upAt p k :=
  mu_rho (h.ne k) (h.ne (k + 1)) (h.corner k)
theorem Ring.step0 {p : Nat → Pt} {n : Nat} (h : Ring p n) : wN p n (p 1) - wN p n (p 2) = turnAt p 0 - turnAt' p 1 := by
  obtain ⟨m, rfl⟩ : ∃ m, n = m + 1 + 1 + 1 := ⟨n - 3, by have := h.n3; omega⟩
  have cells : ∀ k, k < m → wS (p (k + 1 + 1 + 1)) (p (k + 1 + 1 + 1 + 1)) (p 1) - wS (p (k + 1 + 1 + 1)) (p (k + 1 + 1 + 1 + 1)) (p 2) = rS (p 1) (p 2) (p (k + 1 + 3)) - rS (p 1) (p 2) (p (k + 3)) := fun k hk => by
    have := cell (h.apart 1 (k + 3) (by omega) (by omega)).swap
    exact this
  have t1 := sumT_congr m cells
  rw [sumT_sub, sumT_tele (fun k => rS (p 1) (p 2) (p (k + 3)))] at t1
  have per := h.per 0
  unfold wN turnAt turnAt' mu mu'
  rw [sumT_succ', sumT_succ', sumT_succ', sumT_succ', sumT_succ', sumT_succ']
  simp only [Nat.zero_add] at per t1 ⊢
  rw [show m + 3 = m + 1 + 1 + 1 by omega, per] at t1
  rw [wS_a (p 1) (p 2), wS_b (p 0) (p 1), wS_b (p 1) (p 2), show (1 : Nat) + 1 = 2 from rfl, show (2 : Nat) + 1 = 3 from rfl, wS_a (p 2) (p 3)]
  omega
theorem Ring.step {p : Nat → Pt} {n : Nat} (h : Ring p n) (k : Nat) : wN p n (p (k + 1)) - wN p n (p (k + 2)) = turnAt p k - turnAt' p (k + 1) := by
  have h1 := (h.shift k).step0
  rw [wN_shift h, wN_shift h] at h1
  unfold turnAt turnAt' at h1 ⊢
  simp only [Nat.zero_add] at h1
  rw [show k + 1 = 1 + k by omega, show k + 2 = 2 + k by omega, show 1 + k + 1 = 1 + 1 + k by omega, show 1 + k + 2 = 1 + 2 + k by omega]
  exact h1
theorem Ring.z_step {p : Nat → Pt} {n : Nat} (h : Ring p n) (k : Nat) : wN p n (p (k + 2)) - turnAt p (k + 1) + upAt p (k + 2) = wN p n (p (k + 1)) - turnAt p k + upAt p (k + 1) := by
  have h1 := h.step k
  have h2 := h.turns (k + 1)
  rw [show k + 1 + 1 = k + 2 by omega] at h2
  omega
/-- How often the ring goes round its own corners. -/
theorem Ring.z {p : Nat → Pt} {n : Nat} (h : Ring p n) : ∀ k j, wN p n (p (k + 1)) - turnAt p k + upAt p (k + 1) = wN p n (p (j + 1)) - turnAt p j + upAt p (j + 1) := by
  have h0 : ∀ k, wN p n (p (k + 1)) - turnAt p k + upAt p (k + 1) = wN p n (p 1) - turnAt p 0 + upAt p 1 := fun k => by
    induction k with
    | zero => rfl
    | succ k ih => rw [← ih, ← h.z_step k]
  exact fun k j => by rw [h0 k, h0 j]

/-! ### The highest corner -/
def Higher (q a : Pt) : Prop := a.2 < q.2 ∨ (a.2 = q.2 ∧ q.1 ≤ a.1)
theorem Higher.w {q a b : Pt} (ha : Higher q a) (hb : Higher q b) : wS a b q = 0 := by
  unfold Higher at ha hb
  unfold wS
  rw [if_neg (by omega), if_neg (by omega)]
theorem level_cross {u v q : Pt} (h : v.2 = q.2) : crossP u v q = (v.2 - u.2) * (v.1 - q.1) := by unfold crossP crossI; rw [← h]; grind
theorem Higher.r {q u v : Pt} (hu : Higher q u) (hv : Higher q v) : rS u v q = 0 := by
  unfold Higher at hu hv
  unfold rS
  rw [if_neg, if_neg]
  · rintro ⟨h1, h2, h3⟩
    rw [show crossP u v q = -crossP v u q from crossP_flip v u q, level_cross (by omega)] at h3
    have := Int.mul_nonneg (a := u.2 - v.2) (b := u.1 - q.1) (by omega) (by omega)
    omega
  · rintro ⟨h1, h2, h3⟩
    rw [level_cross (by omega)] at h3
    have := Int.mul_nonneg (a := v.2 - u.2) (b := v.1 - q.1) (by omega) (by omega)
    omega
theorem Higher.rho_to {q a : Pt} (ha : Higher q a) (hne : a ≠ q) : rho a q = 1 := by
  unfold Higher at ha
  have : ¬ (a.1 = q.1 ∧ a.2 = q.2) := fun e => hne (Prod.ext e.1 e.2)
  unfold rho
  rw [if_pos (by omega)]
theorem Higher.rho_from {q a : Pt} (ha : Higher q a) : rho q a = 0 := by
  unfold Higher at ha
  unfold rho
  rw [if_neg (by omega)]
theorem Higher.mu_top {q a b : Pt} (ha : Higher q a) (hb : Higher q b) : mu a q b = 0 ∨ mu a q b = -1 := by
  unfold Higher at ha hb
  unfold mu rS wS
  generalize crossP q b a = x
  generalize crossP a q b = y
  split <;> split <;> (try split) <;> (try split) <;> omega
/-- The highest of the first m corners. -/
theorem highest (p : Nat → Pt) : ∀ m, ∃ t, t ≤ m ∧ ∀ k, k ≤ m → Higher (p t) (p k)
  | 0 => ⟨0, by omega, fun k hk => by rw [show k = 0 by omega]; exact .inr ⟨rfl, by omega⟩⟩
  | m + 1 => by
    obtain ⟨t, h1, h2⟩ := highest p m
    have h3 : Higher (p t) (p (m + 1)) ∨ Higher (p (m + 1)) (p t) := by unfold Higher; omega
    rcases h3 with h3 | h3
    · refine ⟨t, by omega, fun k hk => ?_⟩
      rcases Nat.lt_or_ge m k with h4 | h4
      · rw [show k = m + 1 by omega]; exact h3
      · exact h2 k h4
    · refine ⟨m + 1, by omega, fun k hk => ?_⟩
      rcases Nat.lt_or_ge m k with h4 | h4
      · rw [show k = m + 1 by omega]; exact .inr ⟨rfl, by omega⟩
      · have := h2 k h4
        unfold Higher at this h3 ⊢
        omega
theorem Ring.mod {p : Nat → Pt} {n : Nat} (h : Ring p n) (k : Nat) : p k = p (k % n) := by
  have h1 : ∀ q r, p (r + n * q) = p r := fun q r => by
    induction q with
    | zero => simp
    | succ q ih => rw [show r + n * (q + 1) = r + n * q + n by rw [Nat.mul_succ]; omega, h.per, ih]
  have h2 := h1 (k / n) (k % n)
  rwa [Nat.mod_add_div] at h2
theorem Ring.highest {p : Nat → Pt} {n : Nat} (h : Ring p n) : ∃ t, ∀ k, Higher (p t) (p k) := by
  obtain ⟨t, h1, h2⟩ := Go.Proofs.Ytklbambnnkdjlaa.highest p n
  refine ⟨t, fun k => ?_⟩
  rw [h.mod k]
  exact h2 _ (Nat.le_of_lt (Nat.mod_lt _ (by have := h.n3; omega)))

/-! ### The sum of the turns -/
def hopf (p : Nat → Pt) (j : Nat) : Int := sumT (fun i => rS (p i) (p (i + 1)) (p (j + 2))) (j + 1)
theorem Ring.hopf0 {p : Nat → Pt} {n : Nat} (hp : ∀ k, Higher (p 0) (p k)) : hopf p 0 = turnAt' p 0 := by
  unfold hopf turnAt' mu'
  simp only [sumT, Nat.zero_add]
  rw [(hp 1).w (hp 2)]
  omega
theorem Ring.hopf_step {p : Nat → Pt} {n : Nat} (h : Ring p n) (hp : ∀ k, Higher (p 0) (p k)) {j : Nat} (hj : j + 4 ≤ n) : hopf p (j + 1) = hopf p j + turnAt' p (j + 1) := by
  have cells : ∀ i, i < j + 1 → rS (p i) (p (i + 1)) (p (j + 3)) - rS (p i) (p (i + 1)) (p (j + 2)) = 0 - (wS (p (j + 2)) (p (j + 3)) (p (i + 1)) - wS (p (j + 2)) (p (j + 3)) (p i)) := fun i hi => by
    have := cell (h.apart i (j + 2) (by omega) (by omega)).swap
    rw [show j + 2 + 1 = j + 3 by omega] at this
    omega
  have t1 := sumT_congr (j + 1) cells
  rw [sumT_sub, sumT_sub, sumT_tele (fun i => wS (p (j + 2)) (p (j + 3)) (p i)), sumT_zero (fun _ => 0) _ (fun _ _ => rfl), (hp (j + 2)).w (hp (j + 3))] at t1
  unfold hopf turnAt' mu'
  rw [sumT]
  rw [show j + 1 + 2 = j + 3 by omega, show j + 1 + 1 = j + 2 by omega]
  omega
theorem Ring.hopf_sum {p : Nat → Pt} {n : Nat} (h : Ring p n) (hp : ∀ k, Higher (p 0) (p k)) : ∀ j, j + 3 ≤ n → hopf p j = sumT (turnAt' p) (j + 1)
  | 0, _ => by rw [Ring.hopf0 (n := n) hp]; simp [sumT]
  | j + 1, hj => by rw [h.hopf_step hp (by omega), h.hopf_sum hp j (by omega)]; rfl
theorem Ring.hopf_last {p : Nat → Pt} {m : Nat} (h : Ring p (m + 3)) (hp : ∀ k, Higher (p 0) (p k)) : hopf p m = turnAt p (m + 2) - turnAt' p (m + 1) := by
  have per0 : p (m + 3) = p 0 := by have := h.per 0; rwa [Nat.zero_add] at this
  have per1 : p (m + 4) = p 1 := by have := h.per 1; rwa [show 1 + (m + 3) = m + 4 by omega] at this
  have cells : ∀ i, i < m → rS (p (i + 1)) (p (i + 1 + 1)) (p (m + 2)) = wS (p (m + 2)) (p 0) (p (i + 1 + 1)) - wS (p (m + 2)) (p 0) (p (i + 1)) := fun i hi => by
    have := cell (h.apart (i + 1) (m + 2) (by omega) (by omega)).swap
    rw [show m + 2 + 1 = m + 3 by omega, per0, (hp (i + 1)).r (hp (i + 1 + 1))] at this
    omega
  have t1 := sumT_congr m cells
  rw [sumT_tele (fun i => wS (p (m + 2)) (p 0) (p (i + 1)))] at t1
  unfold hopf turnAt turnAt' mu mu'
  rw [sumT_succ', show m + 2 + 1 = m + 3 by omega, show m + 2 + 2 = m + 4 by omega, show m + 1 + 1 = m + 2 by omega, show m + 1 + 2 = m + 3 by omega, per0, per1, (hp (m + 1)).r (hp (m + 2))]
  simp only [Nat.zero_add] at t1 ⊢
  omega
theorem Ring.turn_top {p : Nat → Pt} {n : Nat} (h : Ring p n) (hp : ∀ k, Higher (p 0) (p k)) : ∃ z, (z = 0 ∨ z = 1) ∧ (∀ k, wN p n (p (k + 1)) = z + turnAt p k - upAt p (k + 1)) ∧ sumT (turnAt p) n = 1 - 2 * z := by
  obtain ⟨m, rfl⟩ : ∃ m, n = m + 3 := ⟨n - 3, by have := h.n3; omega⟩
  have per0 : p (m + 3) = p 0 := by have := h.per 0; rwa [Nat.zero_add] at this
  have per1 : p (m + 4) = p 1 := by have := h.per 1; rwa [show 1 + (m + 3) = m + 4 by omega] at this
  have w0 : wN p (m + 3) (p 0) = 0 := sumT_zero _ _ fun k _ => (hp k).w (hp (k + 1))
  have u0 : upAt p (m + 3) = 0 := by unfold upAt; rw [show m + 3 + 1 = m + 4 by omega, per0, per1]; exact (hp 1).rho_from
  have u1 : upAt p (m + 2) = 1 := by
    unfold upAt
    rw [show m + 2 + 1 = m + 3 by omega, per0]
    refine (hp (m + 2)).rho_to ?_
    have := h.ne (m + 2)
    rwa [show m + 2 + 1 = m + 3 by omega, per0] at this
  have u00 : upAt p 0 = 0 := (hp 1).rho_from
  have t0 : turnAt p (m + 2) = 0 ∨ turnAt p (m + 2) = -1 := by
    unfold turnAt
    rw [show m + 2 + 1 = m + 3 by omega, show m + 2 + 2 = m + 4 by omega, per0, per1]
    exact (hp (m + 2)).mu_top (hp 1)
  have z0 := h.z
  refine ⟨-turnAt p (m + 2), by omega, fun k => ?_, ?_⟩
  · have := z0 k (m + 2)
    rw [show m + 2 + 1 = m + 3 by omega, per0, w0, u0] at this
    omega
  · have s1 := h.hopf_sum hp m (by omega)
    have s2 := h.hopf_last hp
    have s3 := h.turns (m + 2)
    rw [show m + 2 + 1 = m + 3 by omega, u0, u1] at s3
    have s4 := sumT_congr (m + 3) fun k _ => h.turns k
    rw [sumT_sub, sumT_tele, u0, u00] at s4
    have s5 : sumT (turnAt' p) (m + 3) = sumT (turnAt' p) (m + 1) + turnAt' p (m + 1) + turnAt' p (m + 2) := rfl
    have s6 : sumT (fun k => turnAt p k) (m + 3) = sumT (turnAt p) (m + 3) := rfl
    have s7 : sumT (fun k => turnAt' p k) (m + 3) = sumT (turnAt' p) (m + 3) := rfl
    omega
theorem turnAt_shift (p : Nat → Pt) (t k : Nat) : turnAt (fun k => p (k + t)) k = turnAt p (k + t) := by
  unfold turnAt
  simp only
  rw [show k + 1 + t = k + t + 1 by omega, show k + 2 + t = k + t + 2 by omega]
theorem upAt_shift (p : Nat → Pt) (t k : Nat) : upAt (fun k => p (k + t)) k = upAt p (k + t) := by
  unfold upAt
  simp only
  rw [show k + 1 + t = k + t + 1 by omega]
theorem sumT_shift {f : Nat → Int} {n : Nat} (per : ∀ k, f (k + n) = f k) : ∀ t, sumT (fun k => f (k + t)) n = sumT f n
  | 0 => rfl
  | t + 1 => by
    rw [← sumT_shift per t, ← sumT_rot (f := fun k => f (k + t)) (n := n) (by rw [Nat.zero_add, Nat.add_comm n t]; exact per t)]
    exact sumT_congr n fun k _ => by rw [show k + (t + 1) = k + 1 + t by omega]
/-- Hopf's theorem: the ring goes round z or z - 1 times; the turns sum up to 1 - 2 z. -/
theorem Ring.hopf {p : Nat → Pt} {n : Nat} (h : Ring p n) : ∃ z, (z = 0 ∨ z = 1) ∧ (∀ k, wN p n (p (k + 1)) = z + turnAt p k - upAt p (k + 1)) ∧ sumT (turnAt p) n = 1 - 2 * z := by
  obtain ⟨t, ht⟩ := h.highest
  obtain ⟨z, h1, h2, h3⟩ := (h.shift t).turn_top (fun k => by simp only [Nat.zero_add]; exact ht _)
  have per : ∀ k, turnAt p (k + n) = turnAt p k := fun k => by
    unfold turnAt
    rw [show k + n + 1 = k + 1 + n by omega, show k + n + 2 = k + 2 + n by omega, h.per, h.per, h.per]
  refine ⟨z, h1, fun k => ?_, ?_⟩
  · have e1 := h2 0
    have e2 := h.z k (0 + t)
    rw [wN_shift h, turnAt_shift, upAt_shift, show 0 + 1 + t = 0 + t + 1 by omega] at e1
    omega
  · rw [← h3, ← sumT_shift per t]
    exact sumT_congr n fun k _ => (turnAt_shift p t k).symm
end Go.Proofs.Ytklbambnnkdjlaa
