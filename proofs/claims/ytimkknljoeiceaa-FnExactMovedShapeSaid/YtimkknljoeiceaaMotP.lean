/-
  Motions of polygons, plain: the box of what was moved; a moved polygon is one.
-/
import Derived.Test.YtimkknljoeiceaaMot
import Derived.Test.YtimkknljoeiceaaShape
namespace Go.Proofs.Ytimkknljoeiceaa
open Go.RowKit

def dn (b p : Pt) : Pt := (p.1 - b.1, p.2 - b.2)
def lowL (L : List Pt) : Pt := (boxTill L L.length).1
def cornL (L : List Pt) : List Pt := L.map (dn (lowL L))
def moveL (L : List Pt) (m : Nat) : List Pt := cornL (L.map (mot m))
def moveV (L : List Pt) (m : Int) : List Pt := bif polyB L && inB m 0 7 then moveL L m.toNat else []
theorem cornL_len (L : List Pt) : (cornL L).length = L.length := by simp [cornL]
theorem moveL_len (L : List Pt) (m : Nat) : (moveL L m).length = L.length := by simp [moveL, cornL]
theorem gt_map {f : Pt → Pt} {L : List Pt} {i : Nat} (h : i < L.length) : gt (L.map f) i = f (gt L i) := by
  rw [gt_at (by simpa using h), gt_at h]; simp
theorem minI_eq (x y : Int) : minI x y = min x y := by unfold minI; split <;> omega
theorem maxI_eq (x y : Int) : maxI x y = max x y := by unfold maxI; split <;> omega

/-- The box holds all corners. -/
theorem box_le {L : List Pt} : ∀ k, k ≤ L.length → ∀ i, i < k ∨ i = 0 → (boxTill L k).1.1 ≤ (gt L i).1 ∧ (boxTill L k).1.2 ≤ (gt L i).2 ∧ (gt L i).1 ≤ (boxTill L k).2.1 ∧ (gt L i).2 ≤ (boxTill L k).2.2
  | 0, _, i, hi => by
    obtain rfl : i = 0 := by omega
    simp [boxTill]
  | k + 1, hk, i, hi => by
    simp only [boxTill, boxStep, minI_eq, maxI_eq]
    rcases Nat.lt_or_ge i k with h | h
    · have := box_le (L := L) k (by omega) i (.inl h); omega
    · by_cases h0 : i = 0
      · have := box_le (L := L) k (by omega) i (.inr h0); omega
      · obtain rfl : i = k := by omega
        omega
/-- Each side of the box is reached. -/
theorem box_at {L : List Pt} : ∀ k, k ≤ L.length → 0 < L.length → (∃ i, i < L.length ∧ (boxTill L k).1.1 = (gt L i).1) ∧ (∃ i, i < L.length ∧ (boxTill L k).1.2 = (gt L i).2)
  | 0, _, h0 => ⟨⟨0, h0, rfl⟩, ⟨0, h0, rfl⟩⟩
  | k + 1, hk, h0 => by
    obtain ⟨⟨i, hi, e1⟩, ⟨j, hj, e2⟩⟩ := box_at k (by omega) h0
    simp only [boxTill, boxStep, minI]
    constructor
    · split
      · exact ⟨k, by omega, rfl⟩
      · exact ⟨i, hi, e1⟩
    · split
      · exact ⟨k, by omega, rfl⟩
      · exact ⟨j, hj, e2⟩
theorem box_hi {L : List Pt} (hok : allOk L = true) : ∀ k, k ≤ L.length → 0 < L.length → (boxTill L k).2.1 ≤ 40 ∧ (boxTill L k).2.2 ≤ 40
  | 0, _, h0 => by
    have := okP_bounds (all_at hok h0)
    simp only [boxTill]; omega
  | k + 1, hk, h0 => by
    have := box_hi hok k (by omega) h0
    have := okP_bounds (all_at hok (show k < L.length by omega))
    simp only [boxTill, boxStep, maxI_eq]
    omega
theorem low_le {L : List Pt} {i : Nat} (hi : i < L.length) : (lowL L).1 ≤ (gt L i).1 ∧ (lowL L).2 ≤ (gt L i).2 := by
  have := box_le (L := L) L.length (Nat.le_refl _) i (.inl hi)
  exact ⟨this.1, this.2.1⟩

/-- The least corner of a moved box: the lesser numbers of its two moved ends. -/
theorem box_mot {m : Nat} (hm : m < 8) {L : List Pt} : ∀ k, k ≤ L.length → 0 < L.length →
    ((boxTill L k).1.1 ≤ (boxTill L k).2.1 ∧ (boxTill L k).1.2 ≤ (boxTill L k).2.2) ∧
    (boxTill (L.map (mot m)) k).1 = (minI (mot m (boxTill L k).1).1 (mot m (boxTill L k).2).1, minI (mot m (boxTill L k).1).2 (mot m (boxTill L k).2).2)
  | 0, _, h0 => by
    simp only [boxTill, gt_map h0]
    exact ⟨⟨Int.le_refl _, Int.le_refl _⟩, by simp [minI]⟩
  | k + 1, hk, h0 => by
    obtain ⟨⟨h1, h2⟩, h3⟩ := box_mot hm k (by omega) h0
    simp only [boxTill, boxStep, gt_map (show k < L.length by omega), h3]
    clear h3
    generalize boxTill L k = B at *
    generalize gt L k = q at *
    refine ⟨⟨by simp only [minI_eq, maxI_eq]; omega, by simp only [minI_eq, maxI_eq]; omega⟩, ?_⟩
    match m, hm with
    | 0, _ => simp only [mot, minI_eq, maxI_eq]; exact Prod.ext (by simp only; omega) (by simp only; omega)
    | 1, _ => simp only [mot, minI_eq, maxI_eq]; exact Prod.ext (by simp only; omega) (by simp only; omega)
    | 2, _ => simp only [mot, minI_eq, maxI_eq]; exact Prod.ext (by simp only; omega) (by simp only; omega)
    | 3, _ => simp only [mot, minI_eq, maxI_eq]; exact Prod.ext (by simp only; omega) (by simp only; omega)
    | 4, _ => simp only [mot, minI_eq, maxI_eq]; exact Prod.ext (by simp only; omega) (by simp only; omega)
    | 5, _ => simp only [mot, minI_eq, maxI_eq]; exact Prod.ext (by simp only; omega) (by simp only; omega)
    | 6, _ => simp only [mot, minI_eq, maxI_eq]; exact Prod.ext (by simp only; omega) (by simp only; omega)
    | 7, _ => simp only [mot, minI_eq, maxI_eq]; exact Prod.ext (by simp only; omega) (by simp only; omega)
    | j + 8, h => omega
theorem low_mot {m : Nat} (hm : m < 8) {L : List Pt} (h0 : 0 < L.length) :
    lowL (L.map (mot m)) = (minI (mot m (boxTill L L.length).1).1 (mot m (boxTill L L.length).2).1, minI (mot m (boxTill L L.length).1).2 (mot m (boxTill L L.length).2).2) := by
  have := (box_mot hm L.length (Nat.le_refl _) h0).2
  unfold lowL
  rw [List.length_map]
  exact this

/-! ### isometries -/
structure Iso (f : Pt → Pt) : Prop where
  inj : ∀ a b, f a = f b → a = b
  cr : (∀ a b c, crossP (f a) (f b) (f c) = crossP a b c) ∨ (∀ a b c, crossP (f a) (f b) (f c) = -crossP a b c)
  on : ∀ a b c, onP (f a) (f b) (f c) = onP a b c
theorem iso_of {f : Pt → Pt} (inj : ∀ a b, f a = f b → a = b)
    (cr : (∀ a b c, crossP (f a) (f b) (f c) = crossP a b c) ∨ (∀ a b c, crossP (f a) (f b) (f c) = -crossP a b c))
    (bx : ∀ a b c : Pt, (bt a.1 b.1 c.1 ∧ bt a.2 b.2 c.2) ↔ (bt (f a).1 (f b).1 (f c).1 ∧ bt (f a).2 (f b).2 (f c).2)) : Iso f where
  inj := inj
  cr := cr
  on a b c := by
    rw [Bool.eq_iff_iff, onP_iff, onP_iff, ← bx]
    have : crossP (f a) (f b) (f c) = 0 ↔ crossP a b c = 0 := by
      rcases cr with h | h
      · rw [h]
      · rw [h]; omega
    rw [this]
theorem iso_dn (b : Pt) : Iso (dn b) :=
  iso_of (fun p q h => by simp only [dn, Prod.mk.injEq] at h; exact Prod.ext (by omega) (by omega))
    (.inl fun p q r => by unfold crossP crossI dn; grind)
    (fun p q r => by unfold bt dn; simp only; omega)
theorem iso_mot {m : Nat} (hm : m < 8) : Iso (mot m) := by
  have ax : ∀ p q : Pt, p.1 = q.1 → p.2 = q.2 → p = q := fun p q h1 h2 => Prod.ext h1 h2
  match m, hm with
  | 0, _ => exact iso_of (fun p q h => h) (.inl fun _ _ _ => rfl) (fun _ _ _ => Iff.rfl)
  | 1, _ => exact iso_of (fun p q h => by simp only [mot, Prod.mk.injEq] at h; exact ax _ _ (by omega) (by omega)) (.inl fun p q r => by unfold crossP crossI mot; grind) (fun p q r => by unfold bt mot; simp only; omega)
  | 2, _ => exact iso_of (fun p q h => by simp only [mot, Prod.mk.injEq] at h; exact ax _ _ (by omega) (by omega)) (.inl fun p q r => by unfold crossP crossI mot; grind) (fun p q r => by unfold bt mot; simp only; omega)
  | 3, _ => exact iso_of (fun p q h => by simp only [mot, Prod.mk.injEq] at h; exact ax _ _ (by omega) (by omega)) (.inl fun p q r => by unfold crossP crossI mot; grind) (fun p q r => by unfold bt mot; simp only; omega)
  | 4, _ => exact iso_of (fun p q h => by simp only [mot, Prod.mk.injEq] at h; exact ax _ _ (by omega) (by omega)) (.inr fun p q r => by unfold crossP crossI mot; grind) (fun p q r => by unfold bt mot; simp only; omega)
  | 5, _ => exact iso_of (fun p q h => by simp only [mot, Prod.mk.injEq] at h; exact ax _ _ (by omega) (by omega)) (.inr fun p q r => by unfold crossP crossI mot; grind) (fun p q r => by unfold bt mot; simp only; omega)
  | 6, _ => exact iso_of (fun p q h => by simp only [mot, Prod.mk.injEq] at h; exact ax _ _ (by omega) (by omega)) (.inr fun p q r => by unfold crossP crossI mot; grind) (fun p q r => by unfold bt mot; simp only; omega)
  | 7, _ => exact iso_of (fun p q h => by simp only [mot, Prod.mk.injEq] at h; exact ax _ _ (by omega) (by omega)) (.inr fun p q r => by unfold crossP crossI mot; grind) (fun p q r => by unfold bt mot; simp only; omega)
  | k + 8, h => omega
theorem Iso.opp {f : Pt → Pt} (h : Iso f) (a b c d : Pt) : opp (f a) (f b) (f c) (f d) = opp a b c d := by
  rw [Bool.eq_iff_iff, opp_iff, opp_iff]
  rcases h.cr with e | e
  · rw [e, e]
  · rw [e, e]; omega
theorem Iso.meet {f : Pt → Pt} (h : Iso f) (a b c d : Pt) : meetI (f a) (f b) (f c) (f d) = 0 ↔ meetI a b c d = 0 := by
  rw [meet_zero, meet_zero, h.opp, h.opp, h.on, h.on, h.on, h.on]
theorem sides_map {f : Pt → Pt} (L : List Pt) : sidesL (L.map f) = (sidesL L).map fun s => (f s.1, f s.2) := by
  rw [sides_eq, sides_eq, List.length_map, List.map_map]
  refine List.map_congr_left fun i hi => ?_
  rw [List.mem_range] at hi
  have hn : nx (L.map f) i = nx L i := by simp [nx]
  have hl : nx L i < L.length := Nat.mod_lt _ (by omega)
  rw [hn, gt_map hi, gt_map hl]
  rfl
theorem good_map {f : Pt → Pt} (h : Iso f) {L : List Pt} (g : Good L) (hok : allOk (L.map f) = true) : Good (L.map f) := by
  obtain ⟨hl, _, hnd, hs⟩ := g
  refine ⟨by rw [List.length_map]; exact hl, hok, ?_, ?_⟩
  · rw [nodup_iff] at hnd ⊢
    intro i k hik hk
    rw [List.length_map] at hk
    rw [gt_map (by omega), gt_map hk]
    exact fun e => hnd i k hik hk (h.inj _ _ e)
  · rw [sides_map]
    intro s hsm t htm hne
    obtain ⟨s', hs', rfl⟩ := List.mem_map.1 hsm
    obtain ⟨t', ht', rfl⟩ := List.mem_map.1 htm
    have hne' : s' ≠ t' := fun e => hne (by rw [e])
    obtain ⟨h1, h2⟩ := hs s' hs' t' ht' hne'
    refine ⟨fun e => ?_, fun e1 e2 => ?_⟩
    · have := h1 (h.inj _ _ e)
      simp only [h.on]
      exact this
    · exact (h.meet _ _ _ _).2 (h2 (fun e => e1 (by rw [e])) (fun e => e2 (by rw [e])))
theorem map_ok {L : List Pt} (hok : allOk L = true) {m : Nat} (hm : m < 8) : allOk (moveL L m) = true := by
  simp only [allOk, List.all_eq_true]
  intro p hp
  obtain ⟨q, hq, rfl⟩ := List.mem_map.1 hp
  obtain ⟨k, hk, rfl⟩ := List.getElem_of_mem hq
  have hk' : k < L.length := by simpa using hk
  rw [← gt_at hk]
  have b1 := low_le hk
  have h0 : 0 < (L.map (mot m)).length := by omega
  obtain ⟨⟨i, hi, e1⟩, ⟨j, hj, e2⟩⟩ := box_at (L := L.map (mot m)) _ (Nat.le_refl _) h0
  have hi' : i < L.length := by simpa using hi
  have hj' : j < L.length := by simpa using hj
  change (lowL _).1 = _ at e1
  change (lowL _).2 = _ at e2
  have ok1 := okP_bounds (all_at hok hk')
  have ok2 := okP_bounds (all_at hok hi')
  have ok3 := okP_bounds (all_at hok hj')
  rw [gt_map hk'] at b1 ⊢
  rw [gt_map hi'] at e1
  rw [gt_map hj'] at e2
  generalize lowL (L.map (mot m)) = b at *
  generalize gt L k = p1 at *
  generalize gt L i = p2 at *
  generalize gt L j = p3 at *
  simp only [okP, Bool.and_eq_true, inB_spec, dn]
  clear hp hq hk hi hj h0
  match m, hm with
  | 0, _ => simp only [mot] at *; omega
  | 1, _ => simp only [mot] at *; omega
  | 2, _ => simp only [mot] at *; omega
  | 3, _ => simp only [mot] at *; omega
  | 4, _ => simp only [mot] at *; omega
  | 5, _ => simp only [mot] at *; omega
  | 6, _ => simp only [mot] at *; omega
  | 7, _ => simp only [mot] at *; omega
  | k + 8, h => omega
theorem iso_move {L : List Pt} {m : Nat} (hm : m < 8) : ∃ f, Iso f ∧ moveL L m = L.map f := by
  refine ⟨dn (lowL (L.map (mot m))) ∘ mot m, ?_, by simp [moveL, cornL]⟩
  have h1 := iso_dn (lowL (L.map (mot m)))
  have h2 := iso_mot hm
  refine ⟨fun a b h => h2.inj _ _ (h1.inj _ _ h), ?_, fun a b c => (h1.on _ _ _).trans (h2.on _ _ _)⟩
  rcases h1.cr with e1 | e1
  · rcases h2.cr with e2 | e2
    · exact .inl fun a b c => (e1 _ _ _).trans (e2 _ _ _)
    · exact .inr fun a b c => (e1 _ _ _).trans (e2 _ _ _)
  · rcases h2.cr with e2 | e2
    · exact .inr fun a b c => (e1 _ _ _).trans (by rw [e2])
    · exact .inl fun a b c => (e1 _ _ _).trans (by rw [e2, Int.neg_neg])
theorem good_move {L : List Pt} (g : Good L) {m : Nat} (hm : m < 8) : Good (moveL L m) := by
  obtain ⟨f, hf, e⟩ := iso_move (L := L) hm
  have ok := map_ok g.2.1 hm
  rw [e] at ok ⊢
  exact good_map hf g ok
theorem poly_move {L : List Pt} (h : polyB L = true) {m : Nat} (hm : m < 8) : polyB (moveL L m) = true := good_poly (good_move (poly_good h) hm)
end Go.Proofs.Ytimkknljoeiceaa
