/-
  Walks and facts of this seat, part Kd (merged by a script of this repo out of smaller texts).
-/
import Derived.Test.YtncahchhinfneaaKc
import Derived.Stop.Asserts
import Derived.Shelf.Abstract
import Derived.Laws.Tables
import Derived.Laws.Rows
import Derived.ProofKit
import Derived.OpenShut
import Derived.ChangeSlices
import Derived.Maps.AppendAt
import Derived.Deep.Matrix
import Derived.Laws.MakeOwn
/-! Fst10 -/
namespace Go.Proofs.Ytncahchhinfneaa
open Go.RowKit

/-- The first place where something holds; -1 if there is none. -/
def fstI (f : Nat → Bool) : Nat → Int
  | 0 => -1
  | k + 1 => if fstI f k < 0 ∧ f k = true then (k : Int) else fstI f k
theorem fstI_none {f : Nat → Bool} : ∀ n, (∀ j, j < n → f j = false) → fstI f n = -1
  | 0, _ => rfl
  | n + 1, h => by rw [fstI, if_neg (by rintro ⟨_, e⟩; rw [h n (by omega)] at e; cases e)]; exact fstI_none n (fun j hj => h j (by omega))
theorem fstI_at {f : Nat → Bool} {k : Nat} (hk : f k = true) (hl : ∀ j, j < k → f j = false) : ∀ d, fstI f (k + 1 + d) = (k : Int)
  | 0 => by rw [Nat.add_zero, fstI, fstI_none k hl, if_pos ⟨by omega, hk⟩]
  | d + 1 => by rw [show k + 1 + (d + 1) = (k + 1 + d) + 1 by omega, fstI, fstI_at hk hl d, if_neg (by rintro ⟨h, _⟩; omega)]
theorem fstI_cases (f : Nat → Bool) : ∀ n, (fstI f n = -1 ∧ ∀ j, j < n → f j = false) ∨ ∃ k, k < n ∧ fstI f n = (k : Int) ∧ f k = true ∧ ∀ j, j < k → f j = false
  | 0 => .inl ⟨rfl, fun j h => absurd h (Nat.not_lt_zero j)⟩
  | n + 1 => by
    rcases fstI_cases f n with ⟨h1, h2⟩ | ⟨k, hk, h1, h2, h3⟩
    · cases hf : f n
      · refine .inl ⟨by rw [fstI, hf, if_neg (by simp)]; exact h1, fun j hj => ?_⟩
        rcases Nat.lt_or_ge j n with h | h
        · exact h2 j h
        · obtain rfl : j = n := by omega
          exact hf
      · exact .inr ⟨n, by omega, by rw [fstI, if_pos ⟨by omega, hf⟩], hf, h2⟩
    · exact .inr ⟨k, by omega, by rw [fstI, if_neg (by rintro ⟨h, _⟩; omega)]; exact h1, h2, h3⟩
theorem fstI_bd (f : Nat → Bool) (n : Nat) : -1 ≤ fstI f n ∧ fstI f n < n := by
  rcases fstI_cases f n with ⟨h, _⟩ | ⟨k, hk, h, _⟩ <;> omega
theorem fstI_congr {f g : Nat → Bool} : ∀ n, (∀ j, j < n → f j = g j) → fstI f n = fstI g n
  | 0, _ => rfl
  | n + 1, h => by rw [fstI, fstI, fstI_congr n (fun j hj => h j (by omega)), h n (by omega)]
end Go.Proofs.Ytncahchhinfneaa

/-! Mat10 -/
namespace Go.Proofs.Ytncahchhinfneaa
open Go.RowKit

/-- What a mask is matched by: its name; none if it is no shape, or taken. -/
def kindV (w h x : Int) : Option Int := if shapeB w h x = true then some (nameV w h x) else none
theorem kind_same (w h x y : Int) : sameV w h x y = ((kindV w h x).isSome && decide (kindV w h y = kindV w h x)) := by
  unfold sameV kindV
  cases shapeB w h x <;> cases shapeB w h y <;> simp [eq_comm]
def hitK (p : Option Int) (L : List (Option Int)) (k : Nat) : Bool := p.isSome && decide (L.getD k none = p)
def selK (p : Option Int) (L : List (Option Int)) : Int := fstI (hitK p L) L.length
def matchK : List (Option Int) → List (Option Int) → Option (List Nat)
  | [], _ => some []
  | p :: ps, L => if selK p L < 0 then none else (matchK ps (L.set (selK p L).toNat none)).map fun t => (selK p L).toNat :: t
def matchV (A L : List (Option Int)) : Option (List Nat) := if A.length = L.length then matchK A L else none
theorem matchK_no {p : Option Int} {ps L : List (Option Int)} (h : selK p L < 0) : matchK (p :: ps) L = none := by rw [matchK, if_pos h]
theorem matchK_yes {p : Option Int} {ps L : List (Option Int)} {k : Nat} (h : selK p L = (k : Int)) : matchK (p :: ps) L = (matchK ps (L.set k none)).map fun t => k :: t := by
  rw [matchK, if_neg (by omega), h]; rfl
theorem matchK_len : ∀ (A L : List (Option Int)) (t : List Nat), matchK A L = some t → t.length = A.length ∧ ∀ k ∈ t, k < L.length
  | [], L, t, h => by rw [matchK] at h; cases h; simp
  | p :: ps, L, t, h => by
    rcases fstI_cases (hitK p L) L.length with ⟨h1, _⟩ | ⟨k, hk, h1, _⟩
    · rw [matchK_no (by rw [show selK p L = -1 from h1]; omega)] at h; cases h
    · rw [matchK_yes (show selK p L = (k : Int) from h1)] at h
      cases hm : matchK ps (L.set k none) with
      | none => rw [hm] at h; cases h
      | some u =>
        rw [hm] at h
        obtain rfl : k :: u = t := by simpa using h
        have ih := matchK_len ps (L.set k none) u hm
        rw [List.length_set] at ih
        refine ⟨by simp [ih.1], fun x hx => ?_⟩
        rcases List.mem_cons.1 hx with rfl | hx
        · exact hk
        · exact ih.2 x hx

/-! ### Matched exactly if the names are the same ones -/
theorem set_perm {v : Int} : ∀ (L : List (Option Int)) (k : Nat), k < L.length → L.getD k none = some v → (L.filterMap id).Perm (v :: (L.set k none).filterMap id)
  | [], k, hk, _ => by simp at hk
  | o :: L, 0, _, h => by
    have h : o = some v := by simpa using h
    subst h
    simp
  | o :: L, k + 1, hk, h => by
    have ih := set_perm L k (by simpa using hk) (by simpa using h)
    rw [List.set_cons_succ]
    cases o with
    | none => simpa using ih
    | some u =>
      simp only [List.filterMap_cons, id]
      exact (ih.cons u).trans (List.Perm.swap _ _ _)
theorem sel_none {v : Int} {L : List (Option Int)} (h : ∀ j, j < L.length → hitK (some v) L j = false) : v ∉ L.filterMap id := by
  intro hv
  rw [List.mem_filterMap] at hv
  obtain ⟨o, ho, e⟩ := hv
  obtain ⟨j, hj, rfl⟩ := List.getElem_of_mem ho
  have := h j hj
  have e' : L[j] = some v := e
  simp [hitK, hj, e'] at this
theorem match_perm : ∀ (N : List Int) (L : List (Option Int)), (matchK (N.map some) L).isSome = true ↔ ∃ R, (L.filterMap id).Perm (N ++ R)
  | [], L => by simp only [List.map_nil, matchK, Option.isSome_some, List.nil_append, true_iff]; exact ⟨_, List.Perm.refl _⟩
  | v :: N, L => by
    rcases fstI_cases (hitK (some v) L) L.length with ⟨h1, h2⟩ | ⟨k, hk, h1, h2, _⟩
    · rw [List.map_cons, matchK_no (by rw [show selK (some v) L = -1 from h1]; omega)]
      refine ⟨fun h => by simp at h, fun ⟨R, hR⟩ => absurd (hR.symm.subset (by simp : v ∈ v :: N ++ R)) (sel_none h2)⟩
    · rw [List.map_cons, matchK_yes (show selK (some v) L = (k : Int) from h1), Option.isSome_map, match_perm N]
      have e : L.getD k none = some v := by simpa [hitK] using h2
      have hp := set_perm L k hk e
      refine ⟨fun ⟨R, hR⟩ => ⟨R, hp.trans (hR.cons v)⟩, fun ⟨R, hR⟩ => ⟨R, ?_⟩⟩
      exact List.Perm.cons_inv (hp.symm.trans hR)
theorem filterMap_some (N : List Int) : (N.map some).filterMap id = N := by
  induction N with
  | nil => rfl
  | cons a N ih => simp
theorem matchV_perm (N M : List Int) : (matchV (N.map some) (M.map some)).isSome = true ↔ N.Perm M := by
  unfold matchV
  by_cases h : N.length = M.length
  · rw [if_pos (by simpa using h), match_perm, filterMap_some]
    refine ⟨fun ⟨R, hR⟩ => ?_, fun hp => ⟨[], by rw [List.append_nil]; exact hp.symm⟩⟩
    have hl := hR.length_eq
    rw [List.length_append] at hl
    obtain rfl : R = [] := List.eq_nil_of_length_eq_zero (by omega)
    rw [List.append_nil] at hR; exact hR.symm
  · rw [if_neg (by simpa using h)]
    exact ⟨fun h => by simp at h, fun hp => absurd hp.length_eq h⟩

/-! ### Names in ascending order -/
/-- A number is put behind all that are at most as great. -/
def insN (x : Int) : List Int → List Int
  | [] => [x]
  | y :: ys => if x < y then x :: y :: ys else y :: insN x ys
theorem insN_perm (x : Int) : ∀ l, (insN x l).Perm (x :: l)
  | [] => List.Perm.refl _
  | y :: ys => by
    rw [insN]
    split
    · exact List.Perm.refl _
    · exact ((insN_perm x ys).cons y).trans (List.Perm.swap _ _ _)
def Asc (l : List Int) : Prop := l.Pairwise (· ≤ ·)
theorem insN_asc {x : Int} : ∀ {l : List Int}, Asc l → Asc (insN x l)
  | [], _ => by simp [insN, Asc]
  | y :: ys, h => by
    unfold Asc at *
    rw [List.pairwise_cons] at h
    rw [insN]
    split
    · rename_i hlt
      rw [List.pairwise_cons, List.pairwise_cons]
      refine ⟨fun z hz => ?_, h⟩
      rcases List.mem_cons.1 hz with rfl | hz
      · omega
      · have := h.1 z hz; omega
    · rename_i hlt
      rw [List.pairwise_cons]
      refine ⟨fun z hz => ?_, insN_asc (l := ys) h.2⟩
      rcases List.mem_cons.1 ((insN_perm x ys).subset hz) with rfl | hz
      · omega
      · exact h.1 z hz
def sortN (l : List Int) : List Int := l.foldl (fun s x => insN x s) []
theorem sortN_snoc (l : List Int) (x : Int) : sortN (l ++ [x]) = insN x (sortN l) := by unfold sortN; rw [List.foldl_append]; rfl
theorem sortN_both (l : List Int) : ∀ s, Asc s → Asc (l.foldl (fun s x => insN x s) s) ∧ (l.foldl (fun s x => insN x s) s).Perm (s ++ l) := by
  induction l with
  | nil => intro s hs; simp only [List.foldl_nil, List.append_nil]; exact ⟨hs, List.Perm.refl _⟩
  | cons x l ih =>
    intro s hs
    rw [List.foldl_cons]
    obtain ⟨h1, h2⟩ := ih (insN x s) (insN_asc hs)
    refine ⟨h1, h2.trans ?_⟩
    have h3 := (insN_perm x s).append_right l
    exact h3.trans (List.perm_middle.symm)
theorem asc_perm : ∀ (l m : List Int), Asc l → Asc m → l.Perm m → l = m
  | [], m, _, _, h => by rw [List.nil_perm.1 h]
  | x :: l, [], _, _, h => by have := h.length_eq; simp at this
  | x :: l, y :: m, h1, h2, h => by
    unfold Asc at *
    rw [List.pairwise_cons] at h1 h2
    have e : x = y := by
      have a1 : x ∈ y :: m := h.subset (by simp)
      have a2 : y ∈ x :: l := h.symm.subset (by simp)
      rcases List.mem_cons.1 a1 with e | a1
      · exact e
      · rcases List.mem_cons.1 a2 with e | a2
        · exact e.symm
        · have := h1.1 y a2; have := h2.1 x a1; omega
    subst e
    rw [asc_perm l m h1.2 h2.2 (List.Perm.cons_inv h)]
theorem sortN_eq (l m : List Int) : sortN l = sortN m ↔ l.Perm m := by
  have a := sortN_both l [] (by simp [Asc])
  have b := sortN_both m [] (by simp [Asc])
  rw [List.nil_append] at a b
  constructor
  · intro h
    have h' : l.foldl (fun s x => insN x s) [] = m.foldl (fun s x => insN x s) [] := h
    rw [h'] at a
    exact a.2.symm.trans b.2
  · intro h
    exact asc_perm _ _ a.1 b.1 (a.2.trans (h.trans b.2.symm))
theorem match_sort (N M : List Int) : (matchV (N.map some) (M.map some)).isSome = true ↔ sortN N = sortN M := by rw [matchV_perm, sortN_eq]
/-- The place behind all that are at most as great. -/
def insAt (x : Int) (l : List Int) : Nat → Nat
  | 0 => 0
  | k + 1 => if x < l.getD k 0 then insAt x l k else k + 1
theorem insN_take {x : Int} {l : List Int} {k : Nat} (hA : Asc l) (hk : k ≤ l.length) (h1 : ∀ j, k ≤ j → j < l.length → x < l.getD j 0) (h2 : k = 0 ∨ l.getD (k - 1) 0 ≤ x) : insN x l = l.take k ++ x :: l.drop k := by
  induction l generalizing k with
  | nil => obtain rfl : k = 0 := by simpa using hk
           rfl
  | cons y ys ih =>
    unfold Asc at hA
    rw [List.pairwise_cons] at hA
    match k with
    | 0 =>
      have := h1 0 (by omega) (by simp)
      rw [insN, if_pos (by simpa using this)]; rfl
    | k + 1 =>
      have hy : ¬ x < y := by
        rcases h2 with h2 | h2
        · omega
        · rcases Nat.eq_zero_or_pos k with rfl | h0
          · simpa using h2
          · have hk' : k < (y :: ys).length := by omega
            have hm : (y :: ys).getD k 0 ∈ ys := by
              obtain ⟨j, rfl⟩ : ∃ j, k = j + 1 := ⟨k - 1, by omega⟩
              have hj : j < ys.length := by simpa using hk'
              simp [hj]
            have := hA.1 _ hm
            rw [Nat.add_sub_cancel] at h2
            omega
      rw [insN, if_neg hy, List.take_succ_cons, List.drop_succ_cons, List.cons_append]
      congr 1
      refine ih hA.2 (by simpa using hk) (fun j hj hl => ?_) ?_
      · have := h1 (j + 1) (by omega) (by simpa using hl)
        simpa using this
      · rcases Nat.eq_zero_or_pos k with rfl | h0
        · exact .inl rfl
        · refine .inr ?_
          rcases h2 with h2 | h2
          · omega
          · rw [Nat.add_sub_cancel] at h2
            obtain ⟨j, rfl⟩ : ∃ j, k = j + 1 := ⟨k - 1, by omega⟩
            simpa using h2
theorem sortN_asc (l : List Int) : Asc (sortN l) := (sortN_both l [] (by simp [Asc])).1
theorem sortN_len (l : List Int) : (sortN l).length = l.length := by
  have := (sortN_both l [] (by simp [Asc])).2.length_eq
  simpa [sortN] using this
end Go.Proofs.Ytncahchhinfneaa

/-! SamS10 -/
namespace Go.Proofs.Ytncahchhinfneaa
open Go.RowKit

set_option maxRecDepth 100000 in
set_option maxHeartbeats 2000000 in
theorem spec_same (w h x y : Int) (W : World) : Calls Try.prog 53 #[.int .i64 w, .int .i64 h, .int .i64 x, .int .i64 y] W fun e w' => e = .returned (.bool (sameV w h x y)) ∧ Below W.heap.size W w' := by
  have HX := Lib.hid (fun W => spec_shape w h x W)
  have HY := Lib.hid (fun W => spec_shape w h y W)
  cases hX : shapeB w h x
  · rw [hX] at HX
    have HV : Hid (sameV w h x y = false) := by
      show _ = _
      unfold sameV; rw [hX]; rfl
    rw [HV.out]
    clear hX HY
    go_enter Try.func53, Try.ntmps53
    go_wp2_with fail
    refine (HX.out _).mono ?_
    rintro e w1 ⟨rfl, rfl⟩
    go_wp2_with fail
    go_ret
    exact ⟨rfl, Below.refl _ _⟩
  cases hY : shapeB w h y
  · rw [hX] at HX
    rw [hY] at HY
    have HV : Hid (sameV w h x y = false) := by
      show _ = _
      unfold sameV; rw [hY, Bool.and_false]; rfl
    rw [HV.out]
    clear hX hY
    go_enter Try.func53, Try.ntmps53
    go_wp2_with fail
    refine (HX.out _).mono ?_
    rintro e w1 ⟨rfl, rfl⟩
    go_wp2_with fail
    refine (HY.out _).mono ?_
    rintro e w1 ⟨rfl, rfl⟩
    go_wp2_with fail
    go_ret
    exact ⟨rfl, Below.refl _ _⟩
  obtain ⟨a, b, m, rfl, rfl, rfl, ha1, ha2, hb1, hb2, hm, hab⟩ := mask_nat hX
  obtain ⟨n, rfl, hn⟩ : ∃ n : Nat, y = n ∧ n < 2 ^ (a * b) := by
    obtain ⟨a', b', n, e1, e2, e3, -, -, -, -, hn, -⟩ := mask_nat hY
    obtain rfl := Int.ofNat.inj e1
    obtain rfl := Int.ofNat.inj e2
    exact ⟨n, e3, hn⟩
  have HI := Lib.hid (sameN_iff hX hY)
  have HV : Hid (∀ v : Bool, (v = true ↔ ∃ t, t < 8 ∧ putB a b ((cellsC a m).map (mot t)) = true ∧ putM a b ((cellsC a m).map (mot t)) = putM a b (cellsC a n)) → sameV a b m n = v) := fun v hv => by
    rw [HI.out] at hv
    rw [Bool.eq_iff_iff, hv]
    unfold sameV
    rw [hX, hY]
    simp
  rw [hX] at HX
  rw [hY] at HY
  have HCE := Lib.hid (fun W => cellsS_any a n W ha1 (lt62 hn hab))
  unfold Lists at HCE
  have HPU := Lib.hid (fun A c W hA => putS_any8 a b A c (cellsC a n) W ⟨ha1, ha2⟩ hab hA (cellsC_len a n) (bd_cells0 ⟨ha1, ha2⟩ ⟨hb1, hb2⟩ hab hn) (cells_pw a n))
  unfold PutP at HPU
  have HMV := Lib.hid (fun t W (ht : t < 8) => moveS_any8 a b m t W ⟨ha1, ha2⟩ ⟨hb1, hb2⟩ hab hm ht)
  unfold PutP at HMV
  generalize putM a b (cellsC a n) = tq at *
  generalize putB a b (cellsC a n) = pb at *
  generalize cellsC a n = L at *
  obtain ⟨f, hf⟩ : ∃ f : Nat → Nat, f = fun t => putM a b ((cellsC a m).map (mot t)) := ⟨_, rfl⟩
  obtain ⟨g, hg⟩ : ∃ g : Nat → Bool, g = fun t => putB a b ((cellsC a m).map (mot t)) := ⟨_, rfl⟩
  have HM2 : Hid (∀ (t : Nat) W, t < 8 → Calls Try.prog 121 #[.int .i64 a, .int .i64 b, .int .i64 m, .int .i64 t] W fun e w' => e = .returned (.tuple #[.int .i64 (f t : Nat), .bool (g t)]) ∧ Below W.heap.size W w') := fun t W ht => by
    rw [hf, hg]; exact HMV.out t W ht
  have HV2 : Hid (∀ v : Bool, (v = true ↔ ∃ t, t < 8 ∧ g t = true ∧ f t = tq) → sameV a b m n = v) := by
    show ∀ v : Bool, _
    rw [hf, hg]; exact HV.out
  clear HMV HV HI hf hg hX hY hm hn hab
  generalize sameV a b m n = sv at *
  go_enter Try.func53, Try.ntmps53
  go_wp2_with fail
  refine (HX.out _).mono ?_
  rintro e w1 ⟨rfl, rfl⟩
  go_wp2_with fail
  refine (HY.out _).mono ?_
  rintro e w1 ⟨rfl, rfl⟩
  go_wp2_with fail
  refine (HCE.out _).mono ?_
  rintro e w4 ⟨v4, rfl, own4, hb4⟩
  obtain ⟨_, A4, c4, rfl, p4⟩ := own_pts own4
  clear own4
  go_wp2_with fail
  refine (HPU.out A4 c4 w4 p4).mono ?_
  rintro e w5 ⟨rfl, hb5⟩
  have b5 := below_on hb4 hb5
  clear p4 hb4 hb5
  go_wp2_with fail
  go_loopw [11, 12, 13] (fun i _ _ wr => ∃ k : Nat, k ≤ 8 ∧ i = .int .i64 k ∧ Hid (∀ t, t < k → ¬ (g t = true ∧ f t = tq)) ∧ Below _ _ wr) (fun i _ _ _ => 8 - (intOf i).toNat)
  case atStart => exact ⟨0, by omega, rfl, fun t ht => absurd ht (Nat.not_lt_zero t), b5⟩
  case round =>
    clear b5
    obtain ⟨wo, rfl⟩ : ∃ wo : World, wo = wr := ⟨_, rfl⟩
    obtain ⟨k, hk, rfl, HN, hb⟩ := hrel
    by_cases hlt : k < 8
    · have HC := Lib.hid (HM2.out k wo hlt)
      have R1 : Hid (g k = true → f k = tq → sv = true) := fun h1 h2 => HV2.out true ⟨fun _ => ⟨k, hlt, h1, h2⟩, fun _ => rfl⟩
      have R2 : Hid (¬ (g k = true ∧ f k = tq) → ∀ t, t < k + 1 → ¬ (g t = true ∧ f t = tq)) := fun h t ht => by
        rcases Nat.lt_or_ge t k with h1 | h1
        · exact HN.out t h1
        · obtain rfl : t = k := by omega
          exact h
      clear HN
      generalize f k = u at *
      cases hgk : g k
      · rw [hgk] at HC
        have HN2 := Lib.hid (R2.out (by rw [hgk]; simp))
        clear R1 R2 hgk
        go_wp2_with fail
        refine HC.out.mono ?_
        rintro e w2 ⟨rfl, hb2⟩
        have R := Lib.hid (below_on hb hb2)
        clear hb hb2
        go_wp2_with fail
        go_roundw
        case rel => exact ⟨k + 1, by omega, by go_num, HN2, R.out⟩
        case measure => simp [intOf]; omega
      rw [hgk] at HC
      by_cases hu : u = tq
      · have HE := Lib.hid (R1.out hgk hu)
        subst hu
        clear R1 R2 hgk
        go_wp2_with fail
        refine HC.out.mono ?_
        rintro e w2 ⟨rfl, hb2⟩
        have R := Lib.hid (below_on hb hb2)
        clear hb hb2
        go_wp2_with fail
        go_ret
        rw [HE.out]
        exact ⟨rfl, R.out⟩
      · have HN2 := Lib.hid (R2.out (by rw [hgk]; simp [hu]))
        have hne : ((u : Int) == (tq : Int)) = false := by rw [beq_eq_false_iff_ne]; omega
        clear R1 R2 hgk hu
        go_wp2_with fail
        refine HC.out.mono ?_
        rintro e w2 ⟨rfl, hb2⟩
        have R := Lib.hid (below_on hb hb2)
        clear hb hb2
        go_wp2_with fail
        go_roundw
        case rel => exact ⟨k + 1, by omega, by go_num, HN2, R.out⟩
        case measure => simp [intOf]; omega
    · obtain rfl : k = 8 := by omega
      have HE := Lib.hid (HV2.out false ⟨fun h => (by cases h), fun ⟨t, ht, h⟩ => absurd h (HN.out t ht)⟩)
      have R := Lib.hid hb
      clear hb HN
      go_wp2_with fail
      go_ret
      rw [HE.out]
      exact ⟨rfl, R.out⟩
end Go.Proofs.Ytncahchhinfneaa

/-! Fig10 -/
namespace Go.Proofs.Ytncahchhinfneaa
open Go.RowKit

def nothingV : Value := .iface 168 (.agg #[])
def singleV : Value := .iface 169 (.agg #[])
def figureV (n : Int) : Value := .iface 171 (.agg #[.int .i64 n])
/-- The value of a piece: none where it is no shape or taken; else by its name. -/
def ivV : Option Int → Value
  | none => nothingV
  | some n => if n = 1 then singleV else figureV n
theorem same_nothing (p : Value) (W : World) : Calls Try.prog 259 #[.agg #[], p] W fun e w' => e = .returned (.bool false) ∧ Below W.heap.size W w' := by
  have b := below1 W (.cells #[] 168)
  go_enter Try.func259, Try.ntmps259
  go_wp2_with fail
  go_ret
  exact ⟨rfl, b⟩
theorem as_single_yes (v : Value) (w : World) : (Instr.typeAssert (.iface 169 v) 129 169 true).run Try.prog w = .ok (.tuple #[v, .bool true]) w := by kernel_rfl
theorem as_single_nothing (v : Value) (w : World) : (Instr.typeAssert (.iface 168 v) 129 169 true).run Try.prog w = .ok (.tuple #[.agg #[], .bool false]) w := by kernel_rfl
theorem as_single_figure (v : Value) (w : World) : (Instr.typeAssert (.iface 171 v) 129 169 true).run Try.prog w = .ok (.tuple #[.agg #[], .bool false]) w := by kernel_rfl
theorem as_figure_yes (v : Value) (w : World) : (Instr.typeAssert (.iface 171 v) 129 171 true).run Try.prog w = .ok (.tuple #[v, .bool true]) w := by kernel_rfl
theorem as_figure_nothing (v : Value) (w : World) : (Instr.typeAssert (.iface 168 v) 129 171 true).run Try.prog w = .ok (.tuple #[.agg #[.int .i64 0], .bool false]) w := by kernel_rfl
theorem as_figure_single (v : Value) (w : World) : (Instr.typeAssert (.iface 169 v) 129 171 true).run Try.prog w = .ok (.tuple #[.agg #[.int .i64 0], .bool false]) w := by kernel_rfl
theorem under_fig : Try.prog.underlying 171 = some (.struct (Try.prog.fieldsOf 171)) := by kernel_rfl
theorem held_fig : Try.prog.stoodInHeld 171 = false := by kernel_rfl
theorem guard_fig : Try.prog.eqGuardType Try.prog.depth 171 = false := by kernel_rfl
set_option maxRecDepth 100000 in
theorem eql_fig (w : World) (x y : Int) : (binOp .eql 171 (.agg #[.int .i64 x]) (.agg #[.int .i64 y])).run Try.prog w = .ok (.bool (x == y)) w := by
  rw [run_eql_struct, run_equalIn_struct _ _ _ _ _ under_fig held_fig]
  cases h : (x == y) <;> simp_all [go_sem, Program.fieldsOf, Try.underlying171, Try.underlying3]
theorem iv_cases (o : Option Int) : (o = none ∧ ivV o = nothingV) ∨ (o = some 1 ∧ ivV o = singleV) ∨ (∃ n, n ≠ 1 ∧ o = some n ∧ ivV o = figureV n) := by
  cases o with
  | none => exact .inl ⟨rfl, rfl⟩
  | some n =>
    by_cases h : n = 1
    · exact .inr (.inl ⟨by rw [h], by unfold ivV; rw [h]; rfl⟩)
    · exact .inr (.inr ⟨n, h, rfl, by unfold ivV; simp [h]⟩)
theorem same_single (o : Option Int) (W : World) : Calls Try.prog 260 #[.agg #[], ivV o] W fun e w' => e = .returned (.bool (decide (o = some 1))) ∧ Below W.heap.size W w' := by
  have b := below2 W (.cells #[] 169) (.cells #[] 169)
  rcases iv_cases o with ⟨rfl, e⟩ | ⟨rfl, e⟩ | ⟨n, hn, rfl, e⟩
  · rw [e]
    have hA := as_single_nothing (.agg #[])
    unfold nothingV
    clear e
    go_enter Try.func260, Try.ntmps260
    go_wp2_with fail
    go_ret
    exact ⟨rfl, b⟩
  · rw [e]
    have hA := as_single_yes (.agg #[])
    unfold singleV
    clear e
    go_enter Try.func260, Try.ntmps260
    go_wp2_with fail
    go_ret
    exact ⟨rfl, b⟩
  · rw [e]
    have hA := as_single_figure (.agg #[.int .i64 n])
    have hd : decide (some n = some (1 : Int)) = false := by simp [hn]
    rw [hd]
    unfold figureV
    clear e hn hd
    go_enter Try.func260, Try.ntmps260
    go_wp2_with fail
    go_ret
    exact ⟨rfl, b⟩
/-- Block g holds a struct of one int. -/
def OneC (w : World) (g : Nat) (x : Int) (t : TypeId) : Prop := w.heap[g]? = some (.cells #[.int .i64 x] t (0, 0))
theorem onec_new (w : World) (x : Int) (t : TypeId) : OneC (w.alloc (.cells #[.int .i64 x] t)) w.heap.size x t := heap_alloc_new w _
theorem OneC.lt {w : World} {g : Nat} {x : Int} {t : TypeId} (h : OneC w g x t) : g < w.heap.size := (Array.getElem?_eq_some_iff.1 h).1
theorem OneC.alloc {w : World} {g : Nat} {x : Int} {t : TypeId} (h : OneC w g x t) (o : Obj) : OneC (w.alloc o) g x t := (Below.heap_alloc w o g h.lt).trans h
theorem OneC.cell {w : World} {g : Nat} {x : Int} {t : TypeId} (h : OneC w g x t) : w.cell? ⟨g, 0, none⟩ = some (.int .i64 x) := cell_of_row w g 0 _ _ _ h
set_option maxRecDepth 100000 in
theorem same_figure (m : Int) (hm : m ≠ 1) (o : Option Int) (W : World) : Calls Try.prog 261 #[.agg #[.int .i64 m], ivV o] W fun e w' => e = .returned (.bool (decide (o = some m))) ∧ Below W.heap.size W w' := by
  have b := below1 W (.cells #[.int .i64 m] 171)
  rcases iv_cases o with ⟨rfl, e⟩ | ⟨rfl, e⟩ | ⟨n, hn, rfl, e⟩
  · rw [e]
    have hA := as_figure_nothing (.agg #[])
    unfold nothingV
    clear e hm
    go_enter Try.func261, Try.ntmps261
    go_wp2_with fail
    go_ret
    exact ⟨rfl, b⟩
  · rw [e]
    have hA := as_figure_single (.agg #[])
    have hd : decide (some (1 : Int) = some m) = false := by simp [Ne.symm hm]
    rw [hd]
    unfold singleV
    clear e hm hd
    go_enter Try.func261, Try.ntmps261
    go_wp2_with fail
    go_ret
    exact ⟨rfl, b⟩
  · rw [e]
    have hA := as_figure_yes (.agg #[.int .i64 n])
    have hE : ∀ w, _ := fun w => eql_fig w m n
    have hG := guard_fig
    have hd : decide (some n = some m) = (m == n) := by rw [Bool.eq_iff_iff, decide_eq_true_eq, Option.some.injEq, beq_iff_eq]; exact eq_comm
    rw [hd]
    have b2 := below2 W (.cells #[.int .i64 m] 171) (.cells #[.int .i64 n] 171)
    have x1 := ((onec_new W m 171).alloc (.cells #[.int .i64 n] 171)).cell
    have x2 := (onec_new (W.alloc (.cells #[.int .i64 m] 171)) n 171).cell
    rw [World.size_alloc] at x2
    unfold figureV
    clear e hm hd hn b
    go_enter Try.func261, Try.ntmps261
    go_wp2_with fail
    go_ret
    exact ⟨rfl, b2⟩
end Go.Proofs.Ytncahchhinfneaa

/-! Idx10 -/
namespace Go.Proofs.Ytncahchhinfneaa
open Go.RowKit Go.Sort

/-- The values of a slice, each one cell. -/
def ValsA (w : World) (A : Option Addr) (M : List Value) : Prop := ∀ k (h : k < M.length), ∃ g, A = some ⟨g, 0, none⟩ ∧ w.cell? ⟨g, k, none⟩ = some M[k]
theorem valsA_on {w w' : World} {A : Option Addr} {M : List Value} (h : ValsA w A M) (hb : Below w.heap.size w w') : ValsA w' A M := fun k hk => by
  obtain ⟨g, hA, h1⟩ := h k hk
  exact ⟨g, hA, cell_on hb rfl h1⟩
set_option maxRecDepth 100000 in
set_option maxHeartbeats 1000000 in
theorem index_gen (T : TypeId) (v recv : Value) (fn : Nat) (f : Option Int → Bool) (hm : ∀ w, (method (Try.prog.types.size + Made.depth) T v "loop.example/g03208/impl.isSame").run Try.prog w = .ok (fn, recv) w)
    (he : ∀ args w, (callFunc fn args).run Try.prog w = .ok (.enter fn args) w) (hC : ∀ o W, Calls Try.prog fn #[recv, ivV o] W fun e w' => e = .returned (.bool (f o)) ∧ Below W.heap.size W w')
    (A : Option Addr) (c : Nat) (L : List (Option Int)) (W : World) (hA : ValsA W A (L.map ivV)) (hL : L.length ≤ 1048576) :
    Calls Try.prog 180 #[.slice A L.length c, .func (.method "loop.example/g03208/impl.isSame") #[.iface T v] #[]] W fun e w' => e = .returned (.int .i64 (fstI (fun k => f (L.getD k none)) L.length)) ∧ Below W.heap.size W w' := by
  have HC := Lib.hid hC
  simp only [Made.depth, Try.types_size, Nat.reduceAdd] at hm
  have HE := Lib.hid (he)
  have HA := Lib.hid hA
  clear he hC hA
  go_enter Try.func180, Try.ntmps180
  go_wp2_with fail
  go_loopw [5, 8] (fun _ i wr => ∃ j : Nat, j ≤ L.length ∧ i = .int .i64 j ∧ Hid (∀ t, t < j → f (L.getD t none) = false) ∧ Below W.heap.size W wr) (fun _ i _ => L.length - (intOf i).toNat)
  case atStart => exact ⟨0, Nat.zero_le _, rfl, fun t ht => absurd ht (Nat.not_lt_zero t), Below.refl _ _⟩
  case round =>
    obtain ⟨k, hk, rfl, HN, hb⟩ := hrel
    by_cases hlt : k < L.length
    · obtain ⟨g, rfl, hc⟩ := valsA_on HA.out hb k (by simpa using hlt)
      obtain ⟨o, ho⟩ : ∃ o, o = L.getD k none := ⟨_, rfl⟩
      rw [List.getElem_map] at hc
      have ho' : L[k] = o := by rw [ho]; simp [hlt]
      rw [ho'] at hc
      have HK := Lib.hid (HC.out o)
      have HO := Lib.hid ho
      clear ho ho'
      generalize ivV o = ov at *
      have he := HE.out
      go_wp2_with fail
      refine (HK.out _).mono ?_
      rintro e w1 ⟨rfl, hb1⟩
      have hb2 := below_on hb hb1
      clear hb hb1 he hc
      cases hf : f o
      · have HN2 : Hid (∀ t, t < k + 1 → f (L.getD t none) = false) := fun t ht => by
          rcases Nat.lt_or_ge t k with h1 | h1
          · exact HN.out t h1
          · obtain rfl : t = k := by omega
            rw [← HO.out]; exact hf
        clear hf
        go_wp2_with fail
        go_roundw
        case rel => exact ⟨k + 1, by omega, by go_num, HN2, hb2⟩
        case measure => simp [intOf]; omega
      · have HR : Hid (fstI (fun k => f (L.getD k none)) L.length = (k : Int)) := by
          have := fstI_at (f := fun k => f (L.getD k none)) (k := k) (by show f (L.getD k none) = true; rw [← HO.out]; exact hf) HN.out (L.length - (k + 1))
          rw [show k + 1 + (L.length - (k + 1)) = L.length by omega] at this
          exact this
        clear hf
        go_wp2_with fail
        go_ret
        rw [HR.out]
        exact ⟨rfl, hb2⟩
    · obtain rfl : k = L.length := by omega
      have HR : Hid (fstI (fun k => f (L.getD k none)) L.length = -1) := fstI_none _ HN.out
      go_wp2_with fail
      go_ret
      rw [HR.out]
      exact ⟨rfl, hb⟩
theorem me_nothing (w : World) : (method (Try.prog.types.size + Made.depth) 168 (.agg #[]) "loop.example/g03208/impl.isSame").run Try.prog w = .ok (259, .agg #[]) w := by kernel_rfl
theorem me_single (w : World) : (method (Try.prog.types.size + Made.depth) 169 (.agg #[]) "loop.example/g03208/impl.isSame").run Try.prog w = .ok (260, .agg #[]) w := by kernel_rfl
theorem me_figure (n : Int) (w : World) : (method (Try.prog.types.size + Made.depth) 171 (.agg #[.int .i64 n]) "loop.example/g03208/impl.isSame").run Try.prog w = .ok (261, .agg #[.int .i64 n]) w := by kernel_rfl
theorem na_nothing (w : World) : (nilAhead (Try.prog.types.size + Made.depth) 168 (.agg #[]) "loop.example/g03208/impl.isSame").run Try.prog w = .ok (some false) w := by kernel_rfl
theorem na_single (w : World) : (nilAhead (Try.prog.types.size + Made.depth) 169 (.agg #[]) "loop.example/g03208/impl.isSame").run Try.prog w = .ok (some false) w := by kernel_rfl
theorem na_figure (n : Int) (w : World) : (nilAhead (Try.prog.types.size + Made.depth) 171 (.agg #[.int .i64 n]) "loop.example/g03208/impl.isSame").run Try.prog w = .ok (some false) w := by kernel_rfl
def hitO (p o : Option Int) : Bool := p.isSome && decide (o = p)
/-- What the walks ask of a piece's value: its method, and that it is no nil pointer. -/
structure Piece (T : TypeId) (v recv : Value) (fn : Nat) (p : Option Int) : Prop where
  iv : ivV p = .iface T v
  me : ∀ w, (method (Try.prog.types.size + Made.depth) T v "loop.example/g03208/impl.isSame").run Try.prog w = .ok (fn, recv) w
  na : ∀ w, (nilAhead (Try.prog.types.size + Made.depth) T v "loop.example/g03208/impl.isSame").run Try.prog w = .ok (some false) w
  en : ∀ args w, (callFunc fn args).run Try.prog w = .ok (.enter fn args) w
  con : ∀ o W, Calls Try.prog fn #[recv, ivV o] W fun e w' => e = .returned (.bool (hitO p o)) ∧ Below W.heap.size W w'
theorem piece_of (p : Option Int) : ∃ T v recv fn, Piece T v recv fn p := by
  rcases iv_cases p with ⟨rfl, e⟩ | ⟨rfl, e⟩ | ⟨n, hn, rfl, e⟩
  · exact ⟨_, _, _, _, e, me_nothing, na_nothing, enters_of Try.func259 (by kernel_rfl) rfl, fun o W => by simpa [hitO] using same_nothing (ivV o) W⟩
  · exact ⟨_, _, _, _, e, me_single, na_single, enters_of Try.func260 (by kernel_rfl) rfl, fun o W => by simpa [hitO] using same_single o W⟩
  · exact ⟨_, _, _, _, e, me_figure n, na_figure n, enters_of Try.func261 (by kernel_rfl) rfl, fun o W => by simpa [hitO] using same_figure n hn o W⟩
theorem index_iv (p : Option Int) (A : Option Addr) (c : Nat) (L : List (Option Int)) (W : World) (hA : ValsA W A (L.map ivV)) (hL : L.length ≤ 1048576) :
    Calls Try.prog 180 #[.slice A L.length c, .func (.method "loop.example/g03208/impl.isSame") #[ivV p] #[]] W fun e w' => e = .returned (.int .i64 (fstI (fun k => hitO p (L.getD k none)) L.length)) ∧ Below W.heap.size W w' := by
  obtain ⟨T, v, recv, fn, P⟩ := piece_of p
  rw [P.iv]
  exact index_gen T v recv fn (hitO p) P.me P.en P.con A c L W hA hL
end Go.Proofs.Ytncahchhinfneaa

/-! MaskI8 -/
namespace Go.Proofs.Ytncahchhinfneaa
open Go.RowKit

set_option maxRecDepth 100000 in
set_option maxHeartbeats 4000000 in
theorem maskI_any (a b : Nat) (A : Option Addr) (c : Nat) (L : List (Int × Int)) (W : World) (ha : 1 ≤ a ∧ a ≤ 6) (hb : 1 ≤ b ∧ b ≤ 6) (hab : a * b ≤ 36) (hA : PtsA W A L) (hL : L.length ≤ 36) (hbd : Bd 6 L) :
    Calls Try.prog 114 #[.int .i64 a, .int .i64 b, .slice A L.length c] W (PutP a b L W) := by
  have hle6 : ∀ k, k < L.length → (gt L k).1 ≤ 6 ∧ (gt L k).2 ≤ 6 := fun k hk => by have := hbd k hk; omega
  have HCO := Lib.hid (cornS hle6)
  have HLB := Lib.hid (lowS_bd (L := L) (B := 6) (by omega) (fun k hk => by have := hbd k hk; omega))
  have HBD := Lib.hid hbd
  have HPM : Hid (PutP a b L W = fun e w' => e = .returned (.tuple #[.int .i64 (putM a b L : Nat), .bool (putB a b L)]) ∧ Below W.heap.size W w') := by
    show _ = _
    funext e w'
    rfl
  have HY := Lib.hid (fun (h : fitB a b (cornL L) = true) => putM_yes h)
  have HNO := Lib.hid (fun (h : fitB a b (cornL L) = false) => putM_no h)
  have HBV : Hid (putB a b L = fitB a b (cornL L)) := rfl
  have HS : Hid (∀ k, lowS L (k + 1) = (minI (lowS L k).1 (gt L k).1, minI (lowS L k).2 (gt L k).2)) := fun _ => rfl
  have HCV := Lib.hid (fun F x y W => covers_any a b F x y W ha hb)
  have HIX := Lib.hid (fun F i j W hi hj => indexOf_any a b F i j W ha.2 hb.2 hi hj)
  have HMB := Lib.hid (fun F W => maskB_any a b F W hab)
  have hmin : ∀ (w : World) (x y : Int) (ts : Array TypeId) (t : TypeId), (Builtin.min_ ts t #[.int .i64 x, .int .i64 y]).run Try.prog w = .ok (.int .i64 (minI x y)) w := run_minI
  have HA := Lib.hid hA
  have HAB := Lib.hid hab
  have a0 := at_new W 6 6 30
  have b0 := below1 W (.cells #[.int .i64 6, .int .i64 6] 30)
  clear hA hbd hle6 hab
  go_enter Try.func114, Try.ntmps114
  go_wp2_with fail
  generalize W.alloc (.cells #[.int .i64 6, .int .i64 6] 30) = w1 at *
  go_loopw [10, 17] (fun _ i wr => ∃ k : Nat, k ≤ L.length ∧ i = .int .i64 k ∧ At wr W.heap.size (lowS L k).1 (lowS L k).2 30 ∧ Below W.heap.size W wr) (fun _ i _ => L.length - (intOf i).toNat)
  case atStart => exact ⟨0, Nat.zero_le _, rfl, a0, b0⟩
  case round =>
    clear a0 b0
    obtain ⟨wo, rfl⟩ : ∃ wo : World, wo = wr := ⟨_, rfl⟩
    obtain ⟨k, hk, rfl, a0, hb0⟩ := hrel
    by_cases hlt : k < L.length
    · obtain ⟨g4, rfl, -⟩ := HA.out k hlt
      obtain ⟨d1, d2⟩ := gt_cells (ptsA_on HA.out hb0) hlt
      have hs := HS.out k
      have HE : Hid (∀ wr, At wr W.heap.size (minI (lowS L k).1 (gt L k).1) (minI (lowS L k).2 (gt L k).2) 30 → At wr W.heap.size (lowS L (k + 1)).1 (lowS L (k + 1)).2 30) := fun wr h => by rw [hs]; exact h
      clear hs
      generalize (lowS L k).1 = u at *
      generalize (lowS L k).2 = v at *
      generalize (gt L k).1 = x at *
      generalize (gt L k).2 = y at *
      have n6 := at_new wo x y 30
      have a6 := a0.alloc (.cells #[.int .i64 x, .int .i64 y] 30)
      have c5 := n6.c0; have c6 := n6.c1; have c7 := a6.c0; have c8 := a6.c1
      have f1 := at_frozen a6 0; have f2 := at_frozen a6 1
      obtain ⟨u', hu⟩ : ∃ u', u' = minI u x := ⟨_, rfl⟩
      obtain ⟨v', hv⟩ : ∃ v', v' = minI v y := ⟨_, rfl⟩
      rw [← hu, ← hv] at HE
      have hmu : ∀ (w : World) (ts : Array TypeId) (t : TypeId), (Builtin.min_ ts t #[.int .i64 u, .int .i64 x]).run Try.prog w = .ok (.int .i64 u') w := fun w ts t => by rw [hu]; exact hmin w u x ts t
      have hmv : ∀ (w : World) (ts : Array TypeId) (t : TypeId), (Builtin.min_ ts t #[.int .i64 v, .int .i64 y]).run Try.prog w = .ok (.int .i64 v') w := fun w ts t => by rw [hv]; exact hmin w v y ts t
      have v5 := (at_store a6 u' 0).c1
      have s6 := at_store1 (at_store a6 u' 0) v'
      have b6 := hb0.alloc hb0.size (.cells #[.int .i64 x, .int .i64 y] 30)
      have b7 := (b6.setCell (p := ⟨W.heap.size, 0, none⟩) (Nat.le_refl _) (.int .i64 u')).setCell (p := ⟨W.heap.size, 1, none⟩) (Nat.le_refl _) (.int .i64 v')
      have R := Lib.hid (And.intro (HE.out _ s6) b7)
      clear n6 a6 a0 hb0 b6 b7 s6 hu hv HE
      clear hmin
      go_wp2_with fail
      go_roundw
      case rel => exact ⟨k + 1, by omega, by go_num, R.out.1, R.out.2⟩
      case measure => simp [intOf]; omega
    · obtain rfl : k = L.length := by omega
      have hlb := HLB.out L.length (Nat.le_refl _)
      have hco := HCO.out
      have HCL := Lib.hid hco
      have HLD : Hid (∀ k, k < L.length → (gt (cornL L) k).1 = (gt L k).1 - (lowS L L.length).1 ∧ (gt (cornL L) k).2 = (gt L k).2 - (lowS L L.length).2) := fun k hk => by
        rw [← HCL.out, gt_map hk]; exact ⟨rfl, rfl⟩
      have hlen : (cornL L).length = L.length := cornL_len L
      clear hco HCO HCL HLB HS
      generalize (lowS L L.length).1 = u at *
      generalize (lowS L L.length).2 = v at *
      generalize cornL L = C at *
      generalize putM a b L = pm at *
      generalize putB a b L = pb at *
      have t2 := brd_new wo 0 0 fun _ => false
      have hs0 := hb0.size
      go_wp2_with (first
        | refine wpList_allocB rfl rfl ?_
        | refine wpList_buildB rfl _ _ rfl _ _ rfl rfl ?_
        | refine wpList_storeB rfl _ _ rfl wo.heap.size a b _ _ (fun _ => false) _ rfl rfl t2 ?_)
      have t1 := brd_setRow t2 a b (fun _ => false)
      have a1 := At.step a0 (below_rowB (below1 wo (.cells (bdV 0 0 fun _ => false) 108)) (Nat.le_refl _) (bdV a b fun _ => false))
      have b1 := below_rowB (hb0.alloc hs0 (.cells (bdV 0 0 fun _ => false) 108)) hs0 (bdV a b fun _ => false)
      have hlt8 := a0.lt
      generalize hw3 : (wo.alloc (.cells (bdV 0 0 fun _ => false) 108)).setRow wo.heap.size (bdV a b fun _ => false) = w3 at *
      have H0 : Hid (Brd w3 wo.heap.size a b (idxIn a (C.take 0))) := by
        have : idxIn a (C.take 0) = fun _ => false := by funext j; rfl
        show Brd _ _ _ _ _
        rw [this]; exact t1
      clear t2 t1 hw3 hb0 a0 hmin
      go_loopw [13, 38] (fun _ i wr => ∃ k : Nat, k ≤ L.length ∧ i = .int .i64 k ∧ Brd wr wo.heap.size a b (idxIn a (C.take k)) ∧ At wr W.heap.size u v 30 ∧ Hid (∀ q, q < k → covB a b (gt C q).1 (gt C q).2 = true) ∧ Below W.heap.size W wr) (fun _ i _ => L.length - (intOf i).toNat)
      case atStart => exact ⟨0, Nat.zero_le _, rfl, H0.out, a1, fun q hq => by omega, b1⟩
      case round =>
        clear H0 a1 b1
        obtain ⟨wi, rfl⟩ : ∃ wi : World, wi = wr := ⟨_, rfl⟩
        obtain ⟨k, hk, rfl, hg, a1, HQ, hb⟩ := hrel
        by_cases hlt : k < L.length
        · obtain ⟨g4, rfl, -⟩ := HA.out k hlt
          obtain ⟨d1, d2⟩ := gt_cells (ptsA_on HA.out hb) hlt
          have hbdk := HBD.out k hlt
          have hld := HLD.out k hlt
          have HFN := Lib.hid (fun h => fit_not (a := a) (b := b) (C := C) (k := k) (by omega) h)
          generalize (gt L k).1 = x at *
          generalize (gt L k).2 = y at *
          obtain ⟨x', hx⟩ : ∃ x', x' = (gt C k).1 := ⟨_, rfl⟩
          obtain ⟨y', hy⟩ : ∃ y', y' = (gt C k).2 := ⟨_, rfl⟩
          rw [← hx, ← hy] at hld
          have HXY := Lib.hid (And.intro hx hy)
          have e1 : wrap64 (x - u) = x' := by rw [hld.1]; exact IntWalk.wrap64_in _ (by omega)
          have e2 : wrap64 (y - v) = y' := by rw [hld.2]; exact IntWalk.wrap64_in _ (by omega)
          have HMN := Lib.hid (fun w => minus_any x y u v w)
          rw [e1, e2] at HMN
          clear hx hy hld e1 e2 hbdk
          have n6 := at_new wi x y 30
          have a6 := a1.alloc (.cells #[.int .i64 x, .int .i64 y] 30)
          have g6 := hg.alloc (.cells #[.int .i64 x, .int .i64 y] 30)
          have b6 := hb.alloc hb.size (.cells #[.int .i64 x, .int .i64 y] 30)
          have c5 := n6.c0; have c6 := n6.c1; have c7 := a6.c0; have c8 := a6.c1
          have hwi := hb.size
          have hglt := hg.lt
          have h8lt := a1.lt
          clear hg a1 hb
          go_wp2_with fail
          refine (HMN.out _).mono ?_
          rintro e w5 ⟨rfl, hb5⟩
          replace n6 := n6.step hb5
          replace a6 := a6.step hb5
          replace g6 := g6.step hb5
          replace b6 := below_on b6 hb5
          have f1 := at_frozen n6 0; have f2 := at_frozen n6 1
          have d3 := n6.c0; have d4 := n6.c1
          have v5 := (at_store n6 x' 0).c1
          have s6 := at_store1 (at_store n6 x' 0) y'
          have a7 := at_set (at_set a6 (b := wi.heap.size) (by omega) 0 (.int .i64 x')) (b := wi.heap.size) (by omega) 1 (.int .i64 y')
          have g7 := (g6.other (k := wi.heap.size) (by omega) 0 (.int .i64 x')).other (k := wi.heap.size) (by omega) 1 (.int .i64 y')
          have b7 := (b6.setCell (p := ⟨wi.heap.size, 0, none⟩) hwi (.int .i64 x')).setCell (p := ⟨wi.heap.size, 1, none⟩) hwi (.int .i64 y')
          have c1 := s6.c0; have c2 := s6.c1
          have HC := Lib.hid (fun W => HCV.out (idxIn a (C.take k)) x' y' W)
          clear c5 c6 c7 c8 hb5 HMN n6 a6 g6 b6 d1 d2
          cases hcv : covB a b x' y'
          · rw [hcv] at HC
            have hf := HFN.out (by rw [← HXY.out.1, ← HXY.out.2]; exact hcv)
            have R : Hid (∀ w', Below W.heap.size W w' → PutP a b L W (.returned (.tuple #[.int .i64 (0 : Nat), .bool false])) w') := fun w' hb' => by
              rw [HPM.out, HBV.out, HNO.out hf, hf]
              exact ⟨rfl, hb'⟩
            clear hf hcv
            go_wp2_with (refine wpList_loadB rfl _ rfl _ _ _ _ rfl g7 ?_)
            refine (HC.out _).mono ?_
            rintro e w6 ⟨rfl, hb6⟩
            have R2 := Lib.hid (R.out _ (below_on b7 hb6))
            clear R b7 hb6 g7 a7 s6 c1 c2 v5 f1 f2 d3 d4
            go_wp2_with fail
            go_ret2
            exact R2.out
          · rw [hcv] at HC
            obtain ⟨i, j, q1, q2, hi, hj, hij, hK⟩ := covB_nat hcv
            subst q1; subst q2
            have HQ2 : Hid (∀ q, q < k + 1 → covB a b (gt C q).1 (gt C q).2 = true) := fun q hq => by
              by_cases e : q = k
              · subst e; rw [← HXY.out.1, ← HXY.out.2]; exact hcv
              · exact HQ.out q (by omega)
            have HI := Lib.hid (fun W => HIX.out (idxIn a (C.take k)) i j W hi hj)
            have hst := idxIn_step (a := a) (C := C) (k := k) (i := i) (j := j) (by omega) HXY.out.1.symm HXY.out.2.symm
            obtain ⟨q, hq⟩ : ∃ q, q = j * a + i := ⟨_, rfl⟩
            rw [← hq] at HI hst hij
            have hq36 : q < 36 := by have := HAB.out; omega
            clear hq hK hcv HFN HQ
            have HST := Lib.hid hst
            clear hst
            go_wp2_with (refine wpList_loadB rfl _ rfl _ _ _ _ rfl g7 ?_)
            refine (HC.out _).mono ?_
            rintro e w6 ⟨rfl, hb6⟩
            replace g7 := g7.step hb6
            replace s6 := s6.step hb6
            replace a7 := a7.step hb6
            replace b7 := below_on b7 hb6
            clear c1 c2 v5 f1 f2 d3 d4 hb6 HC
            have c1 := s6.c0; have c2 := s6.c1
            go_wp2_with (refine wpList_loadB rfl _ rfl _ _ _ _ rfl g7 ?_)
            refine (HI.out _).mono ?_
            rintro e w8 ⟨rfl, hb8⟩
            replace g7 := g7.step hb8
            replace a7 := a7.step hb8
            replace b7 := below_on b7 hb8
            clear c1 c2 hb8 HI s6
            have c1 := g7.at hq36
            have f1 := g7.frozen (2 + q)
            have g8 := g7.set hq36 true
            rw [HST.out] at g8
            have a8 := at_set a7 (b := wo.heap.size) (by omega) (2 + q) (.bool true)
            have b8 := b7.setCell (p := ⟨wo.heap.size, 2 + q, none⟩) hs0 (.bool true)
            have R := Lib.hid (And.intro g8 (And.intro a8 b8))
            clear g7 g8 a7 a8 b7 b8
            go_wp2_with fail
            go_roundw
            case rel => exact ⟨k + 1, by omega, by go_num, R.out.1, R.out.2.1, HQ2, R.out.2.2⟩
            case measure => simp [intOf]; omega
        · obtain rfl : k = L.length := by omega
          have hf := fit_all (a := a) (b := b) (C := C) (by rw [hlen]; exact HQ.out)
          have hmk := HY.out hf
          have htk : C.take L.length = C := by rw [← hlen, List.take_length]
          rw [htk] at hg
          have HM := Lib.hid (fun W => HMB.out (idxIn a C) W)
          rw [← hmk] at HM
          have R : Hid (∀ w', Below W.heap.size W w' → PutP a b L W (.returned (.tuple #[.int .i64 (pm : Nat), .bool true])) w') := fun w' hb' => by
            rw [HPM.out, HBV.out, hf]
            exact ⟨rfl, hb'⟩
          clear hf hmk htk HQ a1
          go_wp2_with (refine wpList_loadB rfl _ rfl _ _ _ _ rfl hg ?_)
          refine (HM.out _).mono ?_
          rintro e w6 ⟨rfl, hb6⟩
          have R2 := Lib.hid (R.out _ (below_on hb hb6))
          clear R hb hb6 hg
          go_wp2_with fail
          go_ret2
          exact R2.out
end Go.Proofs.Ytncahchhinfneaa

/-! MotI -/
namespace Go.Proofs.Ytncahchhinfneaa
open Go.RowKit

def motF (m : Nat) : FuncId :=
  match m with
  | 0 => 155
  | 1 => 156
  | 2 => 157
  | 3 => 158
  | 4 => 159
  | 5 => 160
  | 6 => 161
  | _ => 162
def motC (m : Nat) : Value := .func (.func (motF m)) #[] #[]
def motA : Array Value := #[motC 0, motC 1, motC 2, motC 3, motC 4, motC 5, motC 6, motC 7]

set_option maxRecDepth 100000 in
set_option maxHeartbeats 1000000 in
theorem motF_any (x y : Int) (m : Nat) (w : World) (hm : m < 8) (h : -1000 ≤ x ∧ x ≤ 1000 ∧ -1000 ≤ y ∧ y ≤ 1000) :
    Calls Try.prog (motF m) #[(.agg #[.int .i64 x, .int .i64 y])] w fun e w' => e = .returned (.agg #[.int .i64 (mot m (x, y)).1, .int .i64 (mot m (x, y)).2]) ∧ Below w.heap.size w w' := by
  have h1 : wrap64 (-x) = -x := IntWalk.wrap64_in _ (by omega)
  have h2 : wrap64 (-y) = -y := IntWalk.wrap64_in _ (by omega)
  match m, hm with
  | 0, _ =>
    go_enter Try.func155, Try.ntmps155
    go_wp2_with fail
    go_returns
    exact ⟨rfl, below2 _ _ _⟩
  | 1, _ =>
    go_enter Try.func156, Try.ntmps156
    go_wp2_with fail
    go_returns
    exact ⟨rfl, below2 _ _ _⟩
  | 2, _ =>
    go_enter Try.func157, Try.ntmps157
    go_wp2_with fail
    go_returns
    exact ⟨rfl, below2 _ _ _⟩
  | 3, _ =>
    go_enter Try.func158, Try.ntmps158
    go_wp2_with fail
    go_returns
    exact ⟨rfl, below2 _ _ _⟩
  | 4, _ =>
    go_enter Try.func159, Try.ntmps159
    go_wp2_with fail
    go_returns
    exact ⟨rfl, below2 _ _ _⟩
  | 5, _ =>
    go_enter Try.func160, Try.ntmps160
    go_wp2_with fail
    go_returns
    exact ⟨rfl, below2 _ _ _⟩
  | 6, _ =>
    go_enter Try.func161, Try.ntmps161
    go_wp2_with fail
    go_returns
    exact ⟨rfl, below2 _ _ _⟩
  | 7, _ =>
    go_enter Try.func162, Try.ntmps162
    go_wp2_with fail
    go_returns
    exact ⟨rfl, below2 _ _ _⟩
  | k + 8, h => omega
theorem below_rowM {B : Nat} {a w : World} (h : Below B a w) {g : Nat} (hg : B ≤ g) (cs : Array Value) : Below B a (w.setRow g cs) := by
  exact h.trans ⟨rfl, rfl, rfl, by simp, fun k hk => setRow_other w g k cs (by omega)⟩
theorem motions_any (w : World) : Calls Try.prog 92 #[] w fun e w' => e = .returned (.agg motA) ∧ Below w.heap.size w w' := by
  go_enter Try.func92, Try.ntmps92
  go_wp2_with (refine wpList_store_row rfl 94 _ _ rfl w.heap.size motA rfl rfl 94 _ (heap_alloc_new w _) (by kernel_rfl) rfl (by kernel_rfl) ?_)
  refine bodyPost_ret (v := .agg motA) (results_cell_row rfl _ _ w.heap.size 94 motA (0, 0) _ rfl (setRow_heap _ _ _ motA 94 _ (heap_alloc_new w _)) Try.underlying94 rfl (by kernel_rfl)) rfl ⟨rfl, ?_⟩
  exact below_rowM (below1 w _) (Nat.le_refl _) _
theorem isMotion_any (m : Int) (w : World) : Calls Try.prog 91 #[.int .i64 m] w fun e w' => e = .returned (.bool (inB m 0 7)) ∧ w' = w := by
  go_enter Try.func91, Try.ntmps91
  go_wp2_with fail
  refine (from_any _ _ _ _).mono ?_
  rintro e w1 ⟨rfl, rfl⟩
  go_wp2_with fail
  go_ret
  exact ⟨rfl, rfl⟩
theorem enter_mot (m : Nat) (hm : m < 8) (x : Value) (w : World) : Sem.run Try.prog (callFunc (motF m) #[x]) w = .ok (.enter (motF m) #[x]) w := by
  match m, hm with
  | 0, _ => simp [go_sem, motF]
  | 1, _ => simp [go_sem, motF]
  | 2, _ => simp [go_sem, motF]
  | 3, _ => simp [go_sem, motF]
  | 4, _ => simp [go_sem, motF]
  | 5, _ => simp [go_sem, motF]
  | 6, _ => simp [go_sem, motF]
  | 7, _ => simp [go_sem, motF]
  | k + 8, h => omega
theorem idx_mot (m : Nat) (hm : m < 8) (w : World) : (Instr.index 94 (.agg motA) (.int .i64 (m : Int))).run Try.prog w = .ok (motC m) w := by
  match m, hm with
  | 0, _ => simp [go_sem, Instr.index, motA]
  | 1, _ => simp [go_sem, Instr.index, motA]
  | 2, _ => simp [go_sem, Instr.index, motA]
  | 3, _ => simp [go_sem, Instr.index, motA]
  | 4, _ => simp [go_sem, Instr.index, motA]
  | 5, _ => simp [go_sem, Instr.index, motA]
  | 6, _ => simp [go_sem, Instr.index, motA]
  | 7, _ => simp [go_sem, Instr.index, motA]
  | k + 8, h => omega
end Go.Proofs.Ytncahchhinfneaa

/-! MvI8 -/
namespace Go.Proofs.Ytncahchhinfneaa
open Go.RowKit

theorem motF_enter (m : Nat) (hm : m < 8) (x : Value) (w : World) : Sem.run Try.prog (callFunc (motF m) #[x]) w = .ok (.enter (motF m) #[x]) w := enter_mot m hm x w
set_option maxRecDepth 100000 in
set_option maxHeartbeats 2000000 in
theorem impl_moved (w h M t : Int) (W : World) : Calls Try.prog 50 #[.int .i64 w, .int .i64 h, .int .i64 M, .int .i64 t] W (MovP w h M t W) := by
  have HS := Lib.hid (fun W => impl_shape w h M W)
  have HMP : Hid (MovP w h M t W = fun e w' => e = .returned (.tuple #[.int .i64 (movM w h M t : Nat), .bool (movK w h M t)]) ∧ Below W.heap.size W w') := by
    show _ = _
    funext e w'; rfl
  cases hB : shapeB w h M
  · rw [hB] at HS
    have R : Hid (∀ w', Below W.heap.size W w' → MovP w h M t W (.returned (.tuple #[.int .i64 (0 : Nat), .bool false])) w') := fun w' hb => by
      rw [HMP.out, (mov_noS (t := t) hB).1, (mov_noS (t := t) hB).2]
      exact ⟨rfl, hb⟩
    clear hB HMP
    go_enter Try.func50, Try.ntmps50
    go_wp2_with fail
    refine (HS.out _).mono ?_
    rintro e w1 ⟨rfl, rfl⟩
    go_wp2_with fail
    go_ret2
    exact R.out _ (Below.refl _ _)
  rw [hB] at HS
  cases ht : inB t 0 7
  · have R : Hid (∀ w', Below W.heap.size W w' → MovP w h M t W (.returned (.tuple #[.int .i64 (0 : Nat), .bool false])) w') := fun w' hb => by
      rw [HMP.out, (mov_noT (w := w) (h := h) (M := M) ht).1, (mov_noT (w := w) (h := h) (M := M) ht).2]
      exact ⟨rfl, hb⟩
    clear hB HMP
    go_enter Try.func50, Try.ntmps50
    go_wp2_with fail
    refine (HS.out _).mono ?_
    rintro e w1 ⟨rfl, rfl⟩
    go_wp2_with fail
    refine (isMotion_any _ _).mono ?_
    rintro e w1 ⟨rfl, rfl⟩
    rw [ht]
    go_wp2_with fail
    go_ret2
    exact R.out _ (Below.refl _ _)
  obtain ⟨a, b, m, rfl, rfl, rfl, ha1, ha2, hb1, hb2, hm, hab⟩ := mask_nat hB
  have htt := inB_spec.1 ht
  obtain ⟨t, rfl⟩ : ∃ k : Nat, t = k := ⟨t.toNat, by omega⟩
  have ht8 : t < 8 := by omega
  obtain ⟨i0, hi0, hz0, hz1, hz2⟩ := info_parts infoPt
  have HYE := Lib.hid (mov_yes hB ht8)
  have HBO := Lib.hid (fun W => boardOf_any a b m W hm hab)
  have HCE := Lib.hid (fun W => cellsB_any a b m W ha1 hab hm)
  unfold Lists at HCE
  have HAP := Lib.hid (fun (k : Nat) (h : k < (cellsC a m).length) (w : World) => motF_any (gt (cellsC a m) k).1 (gt (cellsC a m) k).2 t w ht8 (by have := cellsC_bd (by omega) hab hm h; omega))
  have HPU := Lib.hid (fun A c W hA => maskI_any a b A c ((cellsC a m).map (mot t)) W ⟨ha1, ha2⟩ ⟨hb1, hb2⟩ hab hA (by have := cellsC_len a m; simpa using this) (bd_cells ⟨ha1, ha2⟩ ⟨hb1, hb2⟩ hab hm ht8))
  unfold PutP at HPU
  rw [List.length_map, ← HYE.out.1, ← HYE.out.2] at HPU
  have hlen := cellsC_len a m
  have R : Hid (∀ w', Below W.heap.size W w' → MovP a b m t W (.returned (.tuple #[.int .i64 (movM a b m t : Nat), .bool (movK a b m t)])) w') := fun w' hb => ⟨rfl, hb⟩
  have HFN : ∀ x w, Sem.run Try.prog (callFunc (motF t) #[x]) w = .ok (.enter (motF t) #[x]) w := fun x w => motF_enter t ht8 x w
  have HIX : ∀ w, (Instr.index 94 (.agg motA) (.int .i64 (t : Int))).run Try.prog w = .ok (.func (.func (motF t)) #[] #[]) w := fun w => idx_mot t ht8 w
  clear HMP HYE
  generalize cellsC a m = L at *
  generalize MovP (a : Int) (b : Int) (m : Int) (t : Int) W = PP at *
  generalize movM (a : Int) (b : Int) (m : Int) (t : Int) = pm at *
  generalize movK (a : Int) (b : Int) (m : Int) (t : Int) = pb at *
  generalize motF t = F at *
  clear hB hm hab
  go_enter Try.func50, Try.ntmps50
  go_wp2_with fail
  refine (HS.out _).mono ?_
  rintro e w1 ⟨rfl, rfl⟩
  go_wp2_with fail
  refine (isMotion_any _ _).mono ?_
  rintro e w1 ⟨rfl, rfl⟩
  rw [ht]
  go_wp2_with fail
  refine (motions_any _).mono ?_
  rintro e w2 ⟨rfl, hb2'⟩
  go_wp2_with fail
  refine (HBO.out _).mono ?_
  rintro e w3 ⟨rfl, hb3⟩
  have b3 := below_on hb2' hb3
  clear hb2' hb3 HBO HS HIX
  go_wp2_with fail
  refine (HCE.out _).mono ?_
  rintro e w4 ⟨v4, rfl, own4, hb4⟩
  have bb := below_on b3 hb4
  obtain ⟨_, A4, c4, rfl, p4⟩ := own_pts own4
  have HA := Lib.hid p4
  have hsb := bb.size
  clear p4 own4 HCE hb4 b3
  go_wp2_with fail
  go_loopw [11, 13, 33] (fun s _ i wr => ∃ (k : Nat) (N : List (Int × Int)), k ≤ L.length ∧ i = .int .i64 k ∧ Hid (N = (L.take k).map (mot t)) ∧ wr.ownsRow w4.heap.size 30 2 s N.length (flat N) ∧ Below w4.heap.size w4 wr) (fun _ _ i _ => L.length - (intOf i).toNat)
  case atStart => exact ⟨0, [], Nat.zero_le _, rfl, rfl, World.ownsRow_nil _ _ _ _, Below.refl _ _⟩
  case round =>
    obtain ⟨wo, rfl⟩ : ∃ wo : World, wo = wr := ⟨_, rfl⟩
    obtain ⟨k, N, hk, rfl, HM, own, h4⟩ := hrel
    by_cases hlt : k < L.length
    · obtain ⟨g4, rfl, -⟩ := HA.out k hlt
      obtain ⟨d5, d6⟩ := gt_cells (ptsA_on HA.out h4) hlt
      have HM2 : Hid (N ++ [((mot t (gt L k)).1, (mot t (gt L k)).2)] = (L.take (k + 1)).map (mot t)) := by
        show _ = _
        rw [map_step hlt, HM.out]
      have hML : N.length ≤ 36 := by rw [HM.out, map_len hk]; omega
      have HP := Lib.hid (HAP.out k hlt)
      have HPE : Hid (((gt L k).1, (gt L k).2) = gt L k) := rfl
      rw [HPE.out] at HP
      clear HPE HM
      generalize mot t (gt L k) = q at *
      generalize q.1 = qx at *
      generalize q.2 = qy at *
      generalize (gt L k).1 = x at *
      generalize (gt L k).2 = y at *
      have n6 := at_new wo x y 30
      have c5 := n6.c0; have c6 := n6.c1
      have h6 := h4.alloc h4.size (.cells #[.int .i64 x, .int .i64 y] 30)
      have own6 := own.alloc (.cells #[.int .i64 x, .int .i64 y] 30)
      clear h4 own n6
      go_wp2_with fail
      refine (HP.out _).mono ?_
      rintro e w6 ⟨rfl, hb6⟩
      replace h6 := below_on h6 hb6
      replace own6 := own_below own6 hb6
      have hs6 := h6.size
      clear hb6 c5 c6 d5 d6 HP
      go_wp2_with (at_builtin; refine wpList_append_own _ rfl _ _ 23 rfl w4.heap.size 30 i0 (.agg #[.int .i64 0, .int .i64 0]) 2 16 Try.underlying23 hi0 hz0 hz1 hz2 rfl (by decide) _ _ _ rfl (own6.alloc _) ⟨w6.heap.size, 0, none⟩ 1 1 [.int .i64 qx, .int .i64 qy] rfl rfl ?d1 ?d2 ?d3 ?d4 ?d5 ?_)
      case d1 => exact World.news_of_block (cs := #[.int .i64 qx, .int .i64 qy]) (t := 30) (fr := (0, 0)) (heap_alloc_new w6 _)
      case d2 => simp [Value.oneCell']
      case d3 => unfold maxLen; omega
      case d4 => omega
      case d5 => simp; omega
      intro v' w7 own8 hgrow _
      have hrw := fun k hk => (own6.lt k hk).1
      have R9 : Hid (w7.ownsRow w4.heap.size 30 2 v' (N ++ [(qx, qy)]).length (flat (N ++ [(qx, qy)])) ∧ Below w4.heap.size w4 w7) :=
        ⟨by rw [flat_append, List.length_append]; exact own8, (h6.alloc hs6 _).grown hgrow (by simp; omega) hrw⟩
      clear own6 own8 hgrow h6 hrw
      go_wp2_with fail
      go_roundw
      case rel => exact ⟨k + 1, N ++ [(qx, qy)], by omega, by go_num, HM2, R9.out.1, R9.out.2⟩
      case measure => simp [intOf]; omega
    · have HQ : Hid (N = L.map (mot t)) := by
        have e : k = L.length := by omega
        show _ = _
        rw [HM.out, e, List.take_length]
      have hMl : N.length = L.length := by rw [HQ.out, List.length_map]
      obtain ⟨_, A1, c1, rfl, p1⟩ := own_pts own
      rw [HQ.out] at p1
      have HC := Lib.hid (HPU.out A1 c1 wo p1)
      rw [hMl]
      have hb9 := below_on bb h4
      clear HM own hMl p1 h4 bb
      go_wp2_with fail
      refine HC.out.mono ?_
      rintro e w8 ⟨rfl, hb8⟩
      have R2 := Lib.hid (R.out _ (below_on hb9 hb8))
      clear hb9 hb8 HQ
      go_wp2_with fail
      exact R2.out
set_option maxRecDepth 100000 in
theorem impl_corner (w h M : Int) (W : World) : Calls Try.prog 49 #[.int .i64 w, .int .i64 h, .int .i64 M] W fun e w' => e = .returned (.int .i64 (cornerV w h M)) ∧ Below W.heap.size W w' := by
  have HM := Lib.hid (fun W => impl_moved w h M 0 W)
  unfold MovP at HM
  cases hB : shapeB w h M
  · have HV := Lib.hid (corner_no hB)
    rw [HV.out]
    have h1 := mov_noS (t := 0) hB
    rw [h1.1, h1.2] at HM
    clear hB h1
    go_enter Try.func49, Try.ntmps49
    go_wp2_with fail
    refine (HM.out _).mono ?_
    rintro e w1 ⟨rfl, b1⟩
    go_wp2_with fail
    go_ret
    exact ⟨rfl, b1⟩
  · obtain ⟨a, b, m, rfl, rfl, rfl, ha1, ha2, hb1, hb2, hm, hab⟩ := mask_nat hB
    have HV := Lib.hid (corner_yes hB)
    rw [HV.out]
    have h1 := mov_yes (t := 0) hB (by omega)
    have h2 := fit_first (a := a) (b := b) (m := m) (by omega) hab hm
    rw [h2] at h1
    rw [mot_zero] at h1
    have h3 : movM a b m 0 = putM a b (cellsC a m) := h1.1
    have h4 : movK a b m 0 = true := h1.2
    rw [h3, h4] at HM
    generalize putM a b (cellsC a m) = pm at *
    clear hB hm hab h1 h2 h3 h4
    go_enter Try.func49, Try.ntmps49
    go_wp2_with fail
    refine (HM.out _).mono ?_
    rintro e w1 ⟨rfl, b1⟩
    go_wp2_with fail
    go_ret
    exact ⟨rfl, b1⟩
end Go.Proofs.Ytncahchhinfneaa

/-! Law8B -/
namespace Go.Proofs.Ytncahchhinfneaa
open Go.RowKit

theorem nameP_off {c : Int} {f : Nat → Nat} {g : Nat → Bool} (h : ∀ k, g k = false) : ∀ k, nameP c f g k = c
  | 0 => rfl
  | k + 1 => by rw [nameP, h k, if_neg (by simp), nameP_off h k]
theorem name_prog (w h M : Int) : nameV w h M = nameP (cornerV w h M) (fun t : Nat => movM w h M (t : Int)) (fun t : Nat => movK w h M (t : Int)) 8 := by
  cases hB : shapeB w h M
  · rw [name_no hB, corner_no hB, nameP_off (fun k => (mov_noS hB).2)]
  · obtain ⟨a, b, m, rfl, rfl, rfl, ha1, ha2, hb1, hb2, hm, hab⟩ := mask_nat hB
    rw [name_yes hB]
    have h1 := mov_yes (t := 0) hB (by omega)
    have h2 := fit_first (a := a) (b := b) (m := m) (by omega) hab hm
    rw [h2] at h1
    have h3 := (name_eq (f := fun t : Nat => movM a b m (t : Int)) (g := fun t : Nat => movK a b m (t : Int)) h1.2 7).1
    rw [h3]
    have h4 : cornerV a b m = ((movM a b m ((0 : Nat) : Int) : Nat) : Int) := by
      rw [corner_yes hB, h1.1, mot_zero]
    rw [h4]
set_option maxRecDepth 100000 in
set_option maxHeartbeats 1000000 in
theorem impl_name (w h M : Int) (W : World) : Calls Try.prog 48 #[.int .i64 w, .int .i64 h, .int .i64 M] W fun e w' => e = .returned (.int .i64 (nameV w h M)) ∧ Below W.heap.size W w' := by
  have HV := Lib.hid (name_prog w h M)
  rw [HV.out]
  have HC := Lib.hid (fun W => impl_corner w h M W)
  have HM := Lib.hid (fun (t : Nat) W => impl_moved w h M (t : Int) W)
  unfold MovP at HM
  obtain ⟨f, hf⟩ : ∃ f : Nat → Nat, f = fun t : Nat => movM w h M (t : Int) := ⟨_, rfl⟩
  obtain ⟨g, hg⟩ : ∃ g : Nat → Bool, g = fun t : Nat => movK w h M (t : Int) := ⟨_, rfl⟩
  rw [← hf, ← hg]
  have HFG : Hid (∀ t : Nat, movM w h M (t : Int) = f t ∧ movK w h M (t : Int) = g t) := fun t => by rw [hf, hg]; exact ⟨rfl, rfl⟩
  generalize cornerV w h M = c at *
  have HN : Hid (∀ k, nameP c f g (k + 1) = if g k = true then min (nameP c f g k) (f k : Int) else nameP c f g k) := fun _ => rfl
  have hmin : ∀ (w : World) (x y : Int) (ts : Array TypeId) (t : TypeId), (Builtin.min_ ts t #[.int .i64 x, .int .i64 y]).run Try.prog w = .ok (.int .i64 (minI x y)) w := run_minI
  have HI := Lib.hid minI_eq
  clear hf hg HV
  go_enter Try.func48, Try.ntmps48
  go_wp2_with fail
  refine (HC.out _).mono ?_
  rintro e w1 ⟨rfl, b1⟩
  go_wp2_with fail
  go_loopw [7, 8, 9, 10, 15] (fun s _ _ _ i wr => ∃ (k : Nat) (v : Int), k ≤ 8 ∧ i = .int .i64 k ∧ s = .int .i64 v ∧ Hid (v = nameP c f g k) ∧ Below W.heap.size W wr) (fun _ _ _ _ i _ => 8 - (intOf i).toNat)
  case atStart => exact ⟨0, c, by omega, rfl, rfl, rfl, b1⟩
  case round =>
    clear b1
    obtain ⟨wo, rfl⟩ : ∃ wo : World, wo = wr := ⟨_, rfl⟩
    obtain ⟨k, v, hk, rfl, rfl, HV, hb⟩ := hrel
    by_cases hlt : k < 8
    · have HCC := Lib.hid (HM.out k wo)
      rw [(HFG.out k).1, (HFG.out k).2] at HCC
      have hn := HN.out k
      rw [← HV.out] at hn
      clear HV
      generalize f k = u at *
      cases hgk : g k
      · rw [hgk] at hn HCC
        have HV2 : Hid (v = nameP c f g (k + 1)) := by
          show _ = _
          rw [hn]; simp
        clear hn hgk
        go_wp2_with fail
        refine HCC.out.mono ?_
        rintro e w2 ⟨rfl, hb2⟩
        have R := Lib.hid (below_on hb hb2)
        clear hb hb2
        go_wp2_with fail
        go_roundw
        case rel => exact ⟨k + 1, v, by omega, by go_num, rfl, HV2, R.out⟩
        case measure => simp [intOf]; omega
      · rw [hgk] at hn HCC
        have HV2 : Hid (minI v (u : Int) = nameP c f g (k + 1)) := by
          show _ = _
          rw [hn, HI.out]; simp
        clear hn hgk
        go_wp2_with fail
        refine HCC.out.mono ?_
        rintro e w2 ⟨rfl, hb2⟩
        have R := Lib.hid (below_on hb hb2)
        clear hb hb2
        go_wp2_with fail
        go_roundw
        case rel => exact ⟨k + 1, _, by omega, by go_num, rfl, HV2, R.out⟩
        case measure => simp [intOf]; omega
    · obtain rfl : k = 8 := by omega
      have R := Lib.hid hb
      clear hb
      go_wp2_with fail
      go_ret
      rw [← HV.out]
      exact ⟨rfl, R.out⟩
end Go.Proofs.Ytncahchhinfneaa

/-! SamI10 -/
namespace Go.Proofs.Ytncahchhinfneaa
open Go.RowKit Go.Sort

theorem kind_no {w h x : Int} (hB : shapeB w h x = false) : kindV w h x = none := by unfold kindV; rw [hB]; rfl
theorem kind_yes {w h x : Int} (hB : shapeB w h x = true) : kindV w h x = some (nameV w h x) := by unfold kindV; rw [hB]; rfl
theorem name_one {a b m : Nat} (hB : shapeB a b m = true) : nameV a b m = 1 ↔ pc 64 m = 1 := by
  constructor
  · intro h
    obtain ⟨a', b', m', e1, e2, e3, ha1, ha2, hb1, hb2, hm, hab⟩ := mask_nat hB
    obtain rfl := Int.ofNat.inj e1
    obtain rfl := Int.ofNat.inj e2
    have hpos : 0 < a * b := Nat.mul_pos (by omega) (by omega)
    have h1 : shapeB a b (1 : Nat) = true := shape_of_lt rfl ⟨ha1, ha2⟩ ⟨hb1, hb2⟩ 1 (Nat.lt_of_lt_of_le (by omega : 1 < 2 ^ 1) (Nat.pow_le_pow_right (by omega) hpos))
    have h2 : pc 64 1 = 1 := by decide
    rw [same_count hB h1 (by rw [h, single_name h1 h2]), h2]
  · exact single_name hB
set_option maxRecDepth 100000 in
theorem pieceOf_any (w h x : Int) (W : World) : Calls Try.prog 117 #[.int .i64 w, .int .i64 h, .int .i64 x] W fun e w' => e = .returned (ivV (kindV w h x)) ∧ Below W.heap.size W w' := by
  have HC := Lib.hid (fun W => impl_cells w h x W)
  have HN := Lib.hid (fun W => impl_name w h x W)
  cases hB : shapeB w h x
  · rw [cellsV_no hB] at HC
    rw [kind_no hB]
    unfold ivV nothingV
    clear hB HN
    go_enter Try.func117, Try.ntmps117
    go_wp2_with fail
    refine (HC.out _).mono ?_
    rintro e w1 ⟨rfl, rfl⟩
    go_wp2_with fail
    go_ret
    exact ⟨rfl, Below.refl _ _⟩
  · obtain ⟨a, b, m, rfl, rfl, rfl, -, -, -, -, -, -⟩ := mask_nat hB
    have H1 := name_one hB
    rw [cellsV_yes hB] at HC
    rw [kind_yes hB]
    by_cases hp : pc 64 m = 1
    · have hv : ivV (some (nameV a b m)) = singleV := by unfold ivV; rw [H1.2 hp]; rfl
      rw [hp] at HC
      rw [hv]
      unfold singleV
      clear hB HN H1 hp hv
      go_enter Try.func117, Try.ntmps117
      go_wp2_with fail
      refine (HC.out _).mono ?_
      rintro e w1 ⟨rfl, rfl⟩
      go_wp2_with fail
      go_ret
      exact ⟨rfl, Below.refl _ _⟩
    · have hv : ivV (some (nameV a b m)) = figureV (nameV a b m) := by
        show (if nameV a b m = 1 then singleV else figureV (nameV a b m)) = _
        rw [if_neg (fun h => hp (H1.1 h))]
      rw [hv]
      unfold figureV
      generalize pc 64 m = q at *
      generalize nameV a b m = nm at *
      have hq1 : ((q : Int) == -1) = false := by rw [beq_eq_false_iff_ne]; omega
      have hq2 : ((q : Int) == 1) = false := by rw [beq_eq_false_iff_ne]; omega
      clear hB H1 hp hv
      go_enter Try.func117, Try.ntmps117
      go_wp2_with fail
      refine (HC.out _).mono ?_
      rintro e w1 ⟨rfl, rfl⟩
      go_wp2_with fail
      refine (HN.out _).mono ?_
      rintro e w2 ⟨rfl, hb⟩
      go_wp2_with fail
      go_ret
      exact ⟨rfl, hb⟩
theorem hit_kind (w h x y : Int) : hitO (kindV w h x) (kindV w h y) = sameV w h x y := (kind_same w h x y).symm
set_option maxRecDepth 100000 in
set_option maxHeartbeats 2000000 in
theorem impl_same (w h x y : Int) (W : World) : Calls Try.prog 52 #[.int .i64 w, .int .i64 h, .int .i64 x, .int .i64 y] W fun e w' => e = .returned (.bool (sameV w h x y)) ∧ Below W.heap.size W w' := by
  have HX := Lib.hid (fun W => pieceOf_any w h x W)
  have HY := Lib.hid (fun W => pieceOf_any w h y W)
  rw [← hit_kind]
  obtain ⟨T, v, recv, fn, P⟩ := piece_of (kindV w h x)
  have HP := Lib.hid P.con
  have hm := P.me; have hn := P.na; have he := P.en
  simp only [Made.depth, Try.types_size, Nat.reduceAdd] at hm hn
  rw [P.iv] at HX
  clear P
  generalize kindV w h x = p at *
  generalize kindV w h y = o at *
  go_enter Try.func52, Try.ntmps52
  go_wp2_with fail
  refine wp_region_quiet_below (by kernel_rfl) (by kernel_rfl) ?_
  iterate 4 (first
    | go_big_quiet_step (exact Calls.regrown_of (HX.out _))
    | quiet_step (exact Calls.regrown_of (HX.out _)))
  iterate 4 (first
    | go_big_quiet_step (exact Calls.regrown_of (HY.out _))
    | quiet_step (exact Calls.regrown_of (HY.out _)))
  clear HX HY
  iterate 3 (first
    | go_big_quiet_step (fail)
    | quiet_step (fail))
  iterate 2 (first
    | go_big_quiet_step (exact Calls.regrown_of (HP.out _ _))
    | quiet_step (exact Calls.regrown_of (HP.out _ _)))
  refine wpQuiet_nil ?_
  rintro _ ⟨⟨dq, osq⟩, rfl⟩
  have hb := below_regrown W dq osq
  go_wp2_with fail
  go_ret
  exact ⟨rfl, hb⟩
end Go.Proofs.Ytncahchhinfneaa

/-! Law10A -/
namespace Go.Proofs.Ytncahchhinfneaa
open Go.RowKit

set_option maxRecDepth 100000 in
theorem ex_samePiece (w h x y : Int) (W : World) : Calls Try.prog 6 #[.int .i64 w, .int .i64 h, .int .i64 x, .int .i64 y] W fun e w' => e = .returned (.bool true) ∧ Below W.heap.size W w' := by
  have HS := Lib.hid (fun W => spec_same w h x y W)
  have HI := Lib.hid (fun W => impl_same w h x y W)
  generalize sameV w h x y = v at *
  go_enter Try.func6, Try.ntmps6
  go_wp2_with fail
  refine (HS.out _).mono ?_
  rintro e w1 ⟨rfl, b1⟩
  go_wp2_with fail
  refine (HI.out _).mono ?_
  rintro e w2 ⟨rfl, hb2⟩
  have b2 := below_on b1 hb2
  clear hb2 b1
  go_wp2_with fail
  go_ret
  exact ⟨rfl, b2⟩
end Go.Proofs.Ytncahchhinfneaa

/-! Base -/
namespace Go.Proofs.Ytncahchhinfneaa
open Go.ChangeShapes Go.WideShapes Go.ChangeAt Go.RowKit

/-- The arguments read behind the call as before, if below the old heap's size nothing has turned. -/
theorem args_stay {H : Type} {enc : TypeId × Value → H} {P : Program} (hl : laidOutB P = true) {W W' : World} (hb : Below W.heap.size W W') :
    ∀ (ts : List TypeId) (vs : List Value) (ds : List (DataW H)) (p : List MemPlace), (∀ t ∈ ts, P.readableRec t = true ∧ t < P.types.size) →
      DataW.TrodAll enc P W 0 (fun _ => true) true ts vs ds p → (∀ x ∈ p, x.block < W.heap.size) → DataW.TrodAll enc P W' 0 (fun b => decide (b < W.heap.size)) true ts vs ds p
  | [], vs, ds, p, _, h, _ => by
    obtain ⟨rfl, rfl, rfl⟩ := trodAll_nil h
    exact trodAll_mk0
  | t :: ts, vs, ds, p, ht, h, hp => by
    obtain ⟨v, vs1, d, ds1, a, b, rfl, rfl, rfl, h1, h2⟩ := trodAll_cons h
    exact trodAll_cons_mk (Below.trod hl (ht t (by simp)).1 (ht t (by simp)).2 h1 hb (fun x hx => hp x (by simp [hx])))
      (args_stay hl hb ts vs1 ds1 b (fun t h => ht t (by simp [h])) h2 (fun x hx => hp x (by simp [hx])))

/-- A law's 'post': one bool back, true; the arguments as they were; no variable is listed. -/
theorem law_post {H : Type} {enc : TypeId × Value → H} {P : Program} {f : Func} {s : ChangeSpec} {W W' : World} {args : Array Value} {ds gs : List (DataW H)} {before : List MemPlace} {tb : TypeId}
    (hl : laidOutB P = true) (ht : f.params.toList.all (fun t => P.readableRec t && decide (t < P.types.size)) = true) (hr : f.resultTypes = #[tb]) (ub : P.underlying tb = some .bool) (hv : s.vars = [])
    (hs : (s.fn H (ds ++ gs)).results = [.lit (.bool true)] ∧ (s.fn H (ds ++ gs)).args = ds ∧ (s.fn H (ds ++ gs)).vars = [])
    (hW : DataW.Whole enc P f.params.toList s.vars false W args.toList ds gs before) (hb : Below W.heap.size W W') :
    s.post enc P f false true false false W args (.bool true) W' := by
  have hW' := hW
  obtain ⟨p, q, hA, hV, hpq, _, _⟩ := hW
  rw [hv] at hV
  obtain ⟨rfl, rfl⟩ := trodVars_none hV
  have hlt : ∀ x ∈ p, x.block < W.heap.size := fun x hx => by simpa using hW'.lt x (by rw [hpq]; simp [hx])
  refine ⟨ds, [], before, [], p, [], hW', ?_, ?_, ?_, hb.frame _, fun h => by cases h⟩
  · rw [hs.1, hr]
    exact trodAll_mk1 (shut_bool ub _)
  · rw [hs.2.1]
    exact args_stay hl hb _ _ _ _ (fun t h => by simpa using List.all_eq_true.1 ht t h) hA hlt
  · rw [hs.2.2, hv]
    rfl
end Go.Proofs.Ytncahchhinfneaa

/-! RowsR -/
namespace Go.Proofs.Ytncahchhinfneaa
open Go.RowKit

/-- A row: its block, its capacity, its numbers. -/
structure Rw where
  g : Nat
  cap : Nat
  M : List Int
/-- The slice of a row. -/
def hdr (r : Rw) : Value := .slice (some ⟨r.g, 0, none⟩) r.M.length r.cap
theorem hdr_own (r : Rw) : (hdr r).ownBlock = some r.g := rfl
/-- v is a slice of the rows Rs, all owned from block B on, no two in one block. -/
structure RowsR (w : World) (B : Nat) (v : Value) (Rs : List Rw) : Prop where
  out : w.ownsRow B 43 1 v Rs.length (Rs.map hdr)
  row : ∀ r ∈ Rs, w.ownsRow B 3 1 (hdr r) r.M.length (ints r.M)
  far : ∀ r ∈ Rs, v.ownBlock ≠ some r.g
  nodup : (Rs.map Rw.g).Nodup
theorem rowsR_nil (w : World) (B : Nat) : RowsR w B (.slice none 0 0) [] :=
  ⟨World.ownsRow_nil _ _ _ _, fun r h => (by cases h), fun r h => (by cases h), by simp⟩
theorem RowsR.below {w w' : World} {B : Nat} {v : Value} {Rs : List Rw} (h : RowsR w B v Rs) (hb : Below w.heap.size w w') : RowsR w' B v Rs :=
  ⟨own_below h.out hb, fun r hr => own_below (h.row r hr) hb, h.far, h.nodup⟩
theorem RowsR.base {w : World} {B B' : Nat} {v : Value} {Rs : List Rw} (h : RowsR w B v Rs) (hb : B' ≤ B) : RowsR w B' v Rs :=
  ⟨own_base h.out hb, fun r hr => own_base (h.row r hr) hb, h.far, h.nodup⟩
theorem RowsR.lt {w : World} {B : Nat} {v : Value} {Rs : List Rw} (h : RowsR w B v Rs) {r : Rw} (hr : r ∈ Rs) : B ≤ r.g ∧ r.g < w.heap.size := (h.row r hr).lt r.g rfl
/-- The slice's own address, where it has rows. -/
theorem RowsR.form {w : World} {B : Nat} {v : Value} {Rs : List Rw} (h : RowsR w B v Rs) : ∃ A c, v = .slice A Rs.length c ∧ ∀ i (hi : i < Rs.length), ∃ g, A = some ⟨g, 0, none⟩ ∧ w.cell? ⟨g, i, none⟩ = some (hdr Rs[i]) := by
  rcases h.out.2 with ⟨rfl, h0⟩ | ⟨g, cap, cur, rfl, hg, hh, _⟩
  · exact ⟨none, 0, by rw [h0], fun k hk => by omega⟩
  · refine ⟨some ⟨g, 0, none⟩, cap, rfl, fun k hk => ⟨g, rfl, ?_⟩⟩
    rw [h.out.cellAt k (by omega)]
    simp [hk]
/-- Marks from s on. -/
def marksS (s : Int) (m : Nat) : List Int := (List.range m).map fun (j : Nat) => s + (j : Int)
theorem marksS_len (s : Int) (m : Nat) : (marksS s m).length = m := by simp [marksS]
theorem marksS_step {s : Int} {j : Nat} {xs : List Value} (hj : j < xs.length) : (ints (marksS s j) ++ xs.drop j).set j (.int .i64 (s + (j : Int))) = ints (marksS s (j + 1)) ++ xs.drop (j + 1) := by
  have h1 : (ints (marksS s j)).length = j := by rw [ints_len, marksS_len]
  have h2 : (xs.drop j).set 0 (.int .i64 (s + (j : Int))) = .int .i64 (s + (j : Int)) :: xs.drop (j + 1) := by
    rw [List.drop_eq_getElem_cons hj]; rfl
  rw [List.set_append_right _ _ (by omega), h1, Nat.sub_self, h2]
  simp [marksS, ints, List.range_succ]
theorem mark_w {s : Int} {k : Nat} (h0 : 0 ≤ s) (h1 : s ≤ 1000000000) (hk : k ≤ 1048576) : wrap64 (s + (k : Int) + 1) = s + ((k + 1 : Nat) : Int) ∧ IntKind.i64.wrap (s + (k : Int) + 1) = s + ((k + 1 : Nat) : Int) := by
  have e : s + (k : Int) + 1 = s + ((k + 1 : Nat) : Int) := by omega
  rw [e]
  exact ⟨IntWalk.wrap64_in _ (by omega), IntWalk.i64_in _ (by omega)⟩
set_option maxRecDepth 100000 in
set_option maxHeartbeats 800000 in
/-- A row is overwritten by its marks from s on. -/
theorem mark_row (B g cap : Nat) (n : Nat) (xs : List Value) (s : Int) (w : World) (hown : w.ownsRow B 3 1 (.slice (some ⟨g, 0, none⟩) n cap) n xs) (hn : n ≤ 1048576) (hs0 : 0 ≤ s) (hs1 : s ≤ 1000000000) :
    Calls Try.prog 58 #[.slice (some ⟨g, 0, none⟩) n cap, .int .i64 s] w fun e w' => e = .returned (.int .i64 (s + (n : Int))) ∧ w'.ownsRow B 3 1 (.slice (some ⟨g, 0, none⟩) n cap) n (ints (marksS s n)) ∧ w.grownBy w' (some g) := by
  have hl : xs.length = n := by have := hown.1; omega
  go_enter Try.func58, Try.ntmps58
  go_wp2_with fail
  go_loopw [1, 5] (fun m i wr => ∃ (k : Nat) (sv : Int), k ≤ n ∧ Hid (sv = s + (k : Int)) ∧ i = .int .i64 k ∧ m = .int .i64 sv ∧ wr.ownsRow B 3 1 (.slice (some ⟨g, 0, none⟩) n cap) n (ints (marksS s k) ++ xs.drop k) ∧ w.grownBy wr (some g)) (fun _ i _ => n - (intOf i).toNat)
  case atStart => exact ⟨0, s, Nat.zero_le _, by show s = s + ((0 : Nat) : Int); omega, rfl, rfl, by simpa [marksS, ints] using hown, World.grownBy.refl _ _⟩
  case round =>
    obtain ⟨k, sv, hk, HS, rfl, rfl, hown', hgr⟩ := hrel
    by_cases hlt : k < n
    · obtain ⟨u1, hc1⟩ := cell_some1 hown' k hlt
      have hf1 := hown'.frozenAt k
      have hs2 := (hown'.stored k (.int .i64 sv)).1
      have hst := marksS_step (s := s) (j := k) (xs := xs) (by omega)
      rw [← HS.out] at hst
      rw [hst] at hs2
      have hg2 := only_set hgr k (.int .i64 sv)
      have R := Lib.hid (And.intro hs2 hg2)
      obtain ⟨f1, f1'⟩ := mark_w (s := s) (k := k) hs0 hs1 (by omega)
      have HS1 : Hid (s + ((k + 1 : Nat) : Int) = sv + 1) := by show _ = _; rw [HS.out]; omega
      rw [← HS.out, HS1.out] at f1 f1'
      have HS2 : Hid (sv + 1 = s + ((k + 1 : Nat) : Int)) := HS1.out.symm
      clear hs2 hst hg2 hown' hgr hown HS1
      go_wp2_with fail
      clear f1 f1'
      go_roundw
      case rel => exact ⟨k + 1, sv + 1, by omega, HS2, by go_num, rfl, R.out.1, R.out.2⟩
      case measure => simp [intOf]; omega
    · obtain rfl : k = n := by omega
      rw [List.drop_of_length_le (by omega), List.append_nil] at hown'
      have R := Lib.hid hown'
      clear hown' hown
      go_wp2_with fail
      go_ret
      exact ⟨by rw [HS.out]; rfl, R.out, hgr⟩
set_option maxRecDepth 100000 in
set_option maxHeartbeats 800000 in
/-- The marks from s on are still there. -/
theorem held_row (B g cap : Nat) (n : Nat) (s : Int) (w : World) (hown : w.ownsRow B 3 1 (.slice (some ⟨g, 0, none⟩) n cap) n (ints (marksS s n))) (hn : n ≤ 1048576) (hs0 : 0 ≤ s) (hs1 : s ≤ 1000000000) :
    Calls Try.prog 59 #[.slice (some ⟨g, 0, none⟩) n cap, .int .i64 s] w fun e w' => e = .returned (.int .i64 (s + (n : Int))) ∧ w' = w := by
  have HC : Hid (∀ j, j < n → w.cell? ⟨g, j, none⟩ = some (.int .i64 (s + (j : Int)))) := fun j hj => (hown.cellAt j (by omega)).trans (by simp [marksS, ints, hj])
  clear hown
  go_enter Try.func59, Try.ntmps59
  go_wp2_with fail
  go_loopw [1, 5] (fun m i wr => ∃ (k : Nat) (sv : Int), k ≤ n ∧ Hid (sv = s + (k : Int)) ∧ i = .int .i64 k ∧ m = .int .i64 sv ∧ wr = w) (fun _ i _ => n - (intOf i).toNat)
  case atStart => exact ⟨0, s, Nat.zero_le _, by show s = s + ((0 : Nat) : Int); omega, rfl, rfl, rfl⟩
  case round =>
    obtain ⟨k, sv, hk, HS, rfl, rfl, rfl⟩ := hrel
    by_cases hlt : k < n
    · have hc1 := HC.out k hlt
      rw [← HS.out] at hc1
      obtain ⟨f1, f1'⟩ := mark_w (s := s) (k := k) hs0 hs1 (by omega)
      have HS1 : Hid (s + ((k + 1 : Nat) : Int) = sv + 1) := by show _ = _; rw [HS.out]; omega
      rw [← HS.out, HS1.out] at f1 f1'
      have HS2 : Hid (sv + 1 = s + ((k + 1 : Nat) : Int)) := HS1.out.symm
      clear HS1
      go_wp2_with fail
      clear f1 f1'
      go_roundw
      case rel => exact ⟨k + 1, sv + 1, by omega, HS2, by go_num, rfl, by first | trivial | rfl⟩
      case measure => simp [intOf]; omega
    · obtain rfl : k = n := by omega
      go_wp2_with fail
      go_ret
      exact ⟨by rw [HS.out]; rfl, rfl⟩
def mkR (q j : Nat) (r : Rw) : Rw := { r with M := marksS (1 + (q : Int) * (j : Int)) q }
/-- The first k rows are overwritten by marks. -/
def mixR (q : Nat) (Rs : List Rw) (k : Nat) : List Rw := Rs.mapIdx fun j r => bif decide (j < k) then mkR q j r else r
theorem mix_len (q : Nat) (Rs : List Rw) (k : Nat) : (mixR q Rs k).length = Rs.length := by simp [mixR]
theorem mix_get {q : Nat} {Rs : List Rw} {k j : Nat} (hj : j < (mixR q Rs k).length) : (mixR q Rs k)[j] = bif decide (j < k) then mkR q j (Rs[j]'(by rwa [mix_len] at hj)) else (Rs[j]'(by rwa [mix_len] at hj)) := by
  simp [mixR]
theorem mix_zero (q : Nat) (Rs : List Rw) : mixR q Rs 0 = Rs := by
  refine List.ext_getElem (mix_len _ _ _) fun j h1 h2 => ?_
  rw [mix_get]; rfl
theorem mix_g (q : Nat) (Rs : List Rw) (k : Nat) : (mixR q Rs k).map Rw.g = Rs.map Rw.g := by
  refine List.ext_getElem (by simp [mix_len]) fun j h1 h2 => ?_
  rw [List.getElem_map, List.getElem_map, mix_get]
  cases decide (j < k) <;> rfl
theorem mix_hdr {q : Nat} {Rs : List Rw} (hq : ∀ r ∈ Rs, r.M.length = q) (k : Nat) : (mixR q Rs k).map hdr = Rs.map hdr := by
  refine List.ext_getElem (by simp [mix_len]) fun j h1 h2 => ?_
  rw [List.getElem_map, List.getElem_map, mix_get]
  have := hq _ (List.getElem_mem (l := Rs) (n := j) (by simpa using h2))
  cases decide (j < k)
  · rfl
  · simp only [cond_true, hdr, mkR, marksS_len]
    rw [this]
theorem g_inj {Rs : List Rw} (h : (Rs.map Rw.g).Nodup) {i j : Nat} (hi : i < Rs.length) (hj : j < Rs.length) (e : (Rs[i]).g = (Rs[j]).g) : i = j := by
  have h1 : i < (Rs.map Rw.g).length := by simpa using hi
  have h2 : j < (Rs.map Rw.g).length := by simpa using hj
  exact (List.getElem_inj (h₀ := h1) (h₁ := h2) h).1 (by simpa using e)
theorem mix_step {w w' : World} {B : Nat} {v : Value} {Rs : List Rw} {q k : Nat} (hq : ∀ r ∈ Rs, r.M.length = q) (hk : k < Rs.length) (h : RowsR w B v (mixR q Rs k))
    (ho : w'.ownsRow B 3 1 (.slice (some ⟨(Rs[k]).g, 0, none⟩) q (Rs[k]).cap) q (ints (marksS (1 + (q : Int) * (k : Int)) q))) (hg : w.grownBy w' (some (Rs[k]).g)) : RowsR w' B v (mixR q Rs (k + 1)) := by
  have hlen := mix_len q Rs k
  have hkm : (mixR q Rs k)[k]'(by omega) = Rs[k] := by rw [mix_get]; simp
  have hfar : v.ownBlock ≠ some (Rs[k]).g := by
    have := h.far _ (List.getElem_mem (l := mixR q Rs k) (n := k) (by omega))
    rwa [hkm] at this
  have hnd : (Rs.map Rw.g).Nodup := by have := h.nodup; rwa [mix_g] at this
  refine ⟨?_, ?_, ?_, by rw [mix_g]; exact hnd⟩
  · have o := h.out.kept hg (by
      cases hv : v.ownBlock with
      | none => exact .inl rfl
      | some b => exact .inr (fun e => hfar (by rw [hv, ← e])))
    rw [mix_hdr hq, mix_len] at o
    rw [mix_hdr hq, mix_len]
    exact o
  · intro r hr
    obtain ⟨j, hj, rfl⟩ := List.getElem_of_mem hr
    have hj' : j < Rs.length := by rwa [mix_len] at hj
    by_cases e : j = k
    · subst e
      rw [mix_get, decide_eq_true (Nat.lt_succ_self j), cond_true]
      show w'.ownsRow B 3 1 (.slice (some ⟨(Rs[j]).g, 0, none⟩) (marksS _ q).length (Rs[j]).cap) (marksS _ q).length _
      rw [marksS_len]
      exact ho
    · have hd : decide (j < k + 1) = decide (j < k) := by
        rw [decide_eq_decide]; omega
      have hs : (mixR q Rs (k + 1))[j] = (mixR q Rs k)[j]'(by omega) := by rw [mix_get, mix_get, hd]
      rw [hs]
      have o := h.row _ (List.getElem_mem (l := mixR q Rs k) (n := j) (by omega))
      refine o.kept hg (.inr fun e2 => e (g_inj hnd hj' hk ?_))
      have e3 : ((mixR q Rs k)[j]'(by omega)).g = (Rs[j]).g := by rw [mix_get]; cases decide (j < k) <;> rfl
      rw [hdr_own, e3] at e2
      exact Option.some.inj e2
  · intro r hr
    obtain ⟨j, hj, rfl⟩ := List.getElem_of_mem hr
    have := h.far _ (List.getElem_mem (l := mixR q Rs k) (n := j) (by rw [mix_len] at hj ⊢; exact hj))
    have e3 : ((mixR q Rs k)[j]'(by rw [mix_len] at hj ⊢; exact hj)).g = ((mixR q Rs (k + 1))[j]).g := by
      rw [mix_get, mix_get]; cases decide (j < k) <;> cases decide (j < k + 1) <;> rfl
    rwa [e3] at this
theorem mix_all (q : Nat) (Rs : List Rw) {r : Rw} (h : r ∈ mixR q Rs Rs.length) : ∃ j, ∃ hj : j < Rs.length, r = mkR q j Rs[j] := by
  obtain ⟨j, hj, rfl⟩ := List.getElem_of_mem h
  have hj' : j < Rs.length := by rwa [mix_len] at hj
  exact ⟨j, hj', by rw [mix_get, decide_eq_true hj']; rfl⟩
theorem row_w {q k n : Nat} (hq : q ≤ 1000) (hk : k ≤ n) (hn : n ≤ 1000) : 0 ≤ 1 + (q : Int) * (k : Int) ∧ 1 + (q : Int) * (k : Int) ≤ 1000000000 := by
  have h : q * k ≤ 1000 * 1000 := Nat.mul_le_mul hq (Nat.le_trans hk hn)
  have e : (q : Int) * (k : Int) = ((q * k : Nat) : Int) := by simp
  rw [e]; omega
theorem row_nx (q k : Nat) : 1 + (q : Int) * (k : Int) + (q : Int) = 1 + (q : Int) * ((k + 1 : Nat) : Int) := by
  rw [Int.natCast_add, Int.mul_add]; simp; omega
theorem k_w {k n : Nat} (hk : k ≤ n) (hn : n ≤ 1000) : wrap64 ((k : Int) + 1) = (k : Int) + 1 ∧ IntKind.i64.wrap ((k : Int) + 1) = (k : Int) + 1 := ⟨IntWalk.wrap64_in _ (by omega), IntWalk.i64_in _ (by omega)⟩
/-- Nothing of what lay has changed but the rows. -/
structure ButRows (Rs : List Rw) (w w' : World) : Prop where
  os : w'.os = w.os
  tape : w'.tape = w.tape
  output : w'.output = w.output
  size : w.heap.size ≤ w'.heap.size
  block : ∀ j, j < w.heap.size → (∀ r ∈ Rs, r.g ≠ j) → w'.heap[j]? = w.heap[j]?
theorem ButRows.refl (Rs : List Rw) (w : World) : ButRows Rs w w := ⟨rfl, rfl, rfl, Nat.le_refl _, fun _ _ _ => rfl⟩
theorem ButRows.step {Rs : List Rw} {w a b : World} {g : Nat} (h : ButRows Rs w a) (hg : a.grownBy b (some g)) (hn : ∀ j, (∀ r ∈ Rs, r.g ≠ j) → g ≠ j) : ButRows Rs w b :=
  ⟨hg.os.trans h.os, hg.tape.trans h.tape, hg.output.trans h.output, Nat.le_trans h.size hg.size, fun j hj hr => (hg.block j (Nat.lt_of_lt_of_le hj h.size) (fun e => hn j hr (Option.some.inj e).symm)).trans (h.block j hj hr)⟩
theorem ButRows.below {Rs : List Rw} {w a b : World} {B : Nat} (h : ButRows Rs a b) (hb : Below B w a) (hB : B ≤ a.heap.size) (hr : ∀ r ∈ Rs, B ≤ r.g) : Below B w b :=
  ⟨h.os.trans hb.os, h.tape.trans hb.tape, h.output.trans hb.output, Nat.le_trans hb.size h.size, fun j hj => (h.block j (Nat.lt_of_lt_of_le hj hB) (fun r hrr e => by have := hr r hrr; omega)).trans (hb.block j hj)⟩
/-- Another slice of the call's own, whose block is no row's. -/
theorem ButRows.own {Rs : List Rw} {w w' : World} {B size n : Nat} {e : TypeId} {v : Value} {xs : List Value} (h : ButRows Rs w w') (ho : w.ownsRow B e size v n xs) (hf : ∀ r ∈ Rs, v.ownBlock ≠ some r.g) : w'.ownsRow B e size v n xs := by
  refine ⟨ho.1, ?_⟩
  rcases ho.2 with hn | ⟨g, cap, cur, rfl, hb, hgg, rest⟩
  · exact .inl hn
  · refine .inr ⟨g, cap, cur, rfl, hb, ?_, rest⟩
    exact (h.block g (Array.getElem?_eq_some_iff.1 hgg).1 (fun r hr e => hf r hr (by rw [e]; rfl))).trans hgg
end Go.Proofs.Ytncahchhinfneaa

/-! MarkS10 -/
namespace Go.Proofs.Ytncahchhinfneaa
open Go.RowKit

theorem markS_ints (B : Nat) (v : Value) (n : Nat) (xs : List Value) (s : Int) (w : World) (hown : w.ownsRow B 3 1 v n xs) (hn : n ≤ 1048576) (hs0 : 0 ≤ s) (hs1 : s ≤ 1000000000) :
    Calls Try.prog 58 #[v, .int .i64 s] w fun e w' => e = .returned (.int .i64 (s + (n : Int))) ∧ w'.ownsRow B 3 1 v n (ints (marksS s n)) ∧ w.grownBy w' v.ownBlock := by
  rcases hown.2 with ⟨rfl, rfl⟩ | ⟨g, cap, cur, rfl, _⟩
  · have e : s + ((0 : Nat) : Int) = s := by omega
    rw [e]
    go_enter Try.func58, Try.ntmps58
    go_wp2_with fail
    refine wp_loop_rounds 1 ?_
    rw [rounds_succ]
    go_wp2_with fail
    go_ret
    exact ⟨rfl, World.ownsRow_nil _ _ _ _, World.grownBy.refl _ _⟩
  · exact mark_row B g cap n xs s w hown hn hs0 hs1
theorem heldS_ints (B : Nat) (v : Value) (n : Nat) (s : Int) (w : World) (hown : w.ownsRow B 3 1 v n (ints (marksS s n))) (hn : n ≤ 1048576) (hs0 : 0 ≤ s) (hs1 : s ≤ 1000000000) :
    Calls Try.prog 59 #[v, .int .i64 s] w fun e w' => e = .returned (.int .i64 (s + (n : Int))) ∧ w' = w := by
  rcases hown.2 with ⟨rfl, rfl⟩ | ⟨g, cap, cur, rfl, _⟩
  · have e : s + ((0 : Nat) : Int) = s := by omega
    rw [e]
    go_enter Try.func59, Try.ntmps59
    go_wp2_with fail
    refine wp_loop_rounds 1 ?_
    rw [rounds_succ]
    go_wp2_with fail
    go_ret
    exact ⟨rfl, rfl⟩
  · exact held_row B g cap n s w hown hn hs0 hs1
open Go.ChangeShapes
section
variable {H : Type} {enc : TypeId × Value → H} {P : Program} {w : World} {base : Nat} {spare : Nat → Bool} {held : Bool}
theorem trodAll_five {t0 t1 t2 t3 t4 : TypeId} {args : Array Value} {ds : List (DataW H)} {ps : List MemPlace} (h : DataW.TrodAll enc P w base spare held [t0, t1, t2, t3, t4] args.toList ds ps) :
    ∃ v0 v1 v2 v3 v4 d0 d1 d2 d3 d4 p0 p1 p2 p3 p4, args = #[v0, v1, v2, v3, v4] ∧ ds = [d0, d1, d2, d3, d4] ∧ ps = p0 ++ p1 ++ p2 ++ p3 ++ p4 ∧ DataW.Trod enc P w base spare held t0 v0 d0 p0 ∧ DataW.Trod enc P w base spare held t1 v1 d1 p1 ∧ DataW.Trod enc P w base spare held t2 v2 d2 p2 ∧ DataW.Trod enc P w base spare held t3 v3 d3 p3 ∧ DataW.Trod enc P w base spare held t4 v4 d4 p4 := by
  obtain ⟨v0, vs0, d0, ds0, p0, q0, hargs, rfl, rfl, h0, r0⟩ := trodAll_cons h
  obtain ⟨v1, vs1, d1, ds1, p1, q1, rfl, rfl, rfl, h1, r1⟩ := trodAll_cons r0
  obtain ⟨v2, vs2, d2, ds2, p2, q2, rfl, rfl, rfl, h2, r2⟩ := trodAll_cons r1
  obtain ⟨v3, vs3, d3, ds3, p3, q3, rfl, rfl, rfl, h3, r3⟩ := trodAll_cons r2
  obtain ⟨v4, vs4, d4, ds4, p4, q4, rfl, rfl, rfl, h4, r4⟩ := trodAll_cons r3
  obtain ⟨rfl, rfl, rfl⟩ := trodAll_nil r4
  exact ⟨v0, v1, v2, v3, v4, d0, d1, d2, d3, d4, p0, p1, p2, p3, p4, by cases args; simp_all, rfl, by simp, h0, h1, h2, h3, h4⟩
theorem trodAll_six {t0 t1 t2 t3 t4 t5 : TypeId} {args : Array Value} {ds : List (DataW H)} {ps : List MemPlace} (h : DataW.TrodAll enc P w base spare held [t0, t1, t2, t3, t4, t5] args.toList ds ps) :
    ∃ v0 v1 v2 v3 v4 v5 d0 d1 d2 d3 d4 d5 p0 p1 p2 p3 p4 p5, args = #[v0, v1, v2, v3, v4, v5] ∧ ds = [d0, d1, d2, d3, d4, d5] ∧ ps = p0 ++ p1 ++ p2 ++ p3 ++ p4 ++ p5 ∧ DataW.Trod enc P w base spare held t0 v0 d0 p0 ∧ DataW.Trod enc P w base spare held t1 v1 d1 p1 ∧ DataW.Trod enc P w base spare held t2 v2 d2 p2 ∧ DataW.Trod enc P w base spare held t3 v3 d3 p3 ∧ DataW.Trod enc P w base spare held t4 v4 d4 p4 ∧ DataW.Trod enc P w base spare held t5 v5 d5 p5 := by
  obtain ⟨v0, vs0, d0, ds0, p0, q0, hargs, rfl, rfl, h0, r0⟩ := trodAll_cons h
  obtain ⟨v1, vs1, d1, ds1, p1, q1, rfl, rfl, rfl, h1, r1⟩ := trodAll_cons r0
  obtain ⟨v2, vs2, d2, ds2, p2, q2, rfl, rfl, rfl, h2, r2⟩ := trodAll_cons r1
  obtain ⟨v3, vs3, d3, ds3, p3, q3, rfl, rfl, rfl, h3, r3⟩ := trodAll_cons r2
  obtain ⟨v4, vs4, d4, ds4, p4, q4, rfl, rfl, rfl, h4, r4⟩ := trodAll_cons r3
  obtain ⟨v5, vs5, d5, ds5, p5, q5, rfl, rfl, rfl, h5, r5⟩ := trodAll_cons r4
  obtain ⟨rfl, rfl, rfl⟩ := trodAll_nil r5
  exact ⟨v0, v1, v2, v3, v4, v5, d0, d1, d2, d3, d4, d5, p0, p1, p2, p3, p4, p5, by cases args; simp_all, rfl, by simp, h0, h1, h2, h3, h4, h5⟩
end
end Go.Proofs.Ytncahchhinfneaa

/-! FirstQ10 -/
namespace Go.Proofs.Ytncahchhinfneaa
open Go.RowKit

def ResQ (P : List Int × Bool → Prop) (W : World) (e : Ending) (w' : World) : Prop := ∃ V v, e = .returned (.tuple #[v, .bool V.2]) ∧ P V ∧ w'.ownsRow W.heap.size 3 1 v V.1.length (ints V.1) ∧ Below W.heap.size W w'
end Go.Proofs.Ytncahchhinfneaa

/-! MatI10 -/
namespace Go.Proofs.Ytncahchhinfneaa
open Go.RowKit Go.Sort

theorem ivs_len (L : List (Option Int)) : (L.map ivV).length = L.length := List.length_map _
theorem own_vals {w : World} {B : Nat} {e : TypeId} {v : Value} {n : Nat} {xs : List Value} (h : w.ownsRow B e 1 v n xs) : n = xs.length ∧ ∃ A c, v = .slice A n c ∧ ValsA w A xs := by
  have hl : xs.length = n := by have := h.1; omega
  refine ⟨hl.symm, ?_⟩
  rcases h.2 with ⟨rfl, h0⟩ | ⟨g, cap, cur, rfl, hg, hh, _⟩
  · exact ⟨none, 0, by rw [h0], fun k hk => by omega⟩
  · refine ⟨some ⟨g, 0, none⟩, cap, rfl, fun k hk => ⟨g, rfl, ?_⟩⟩
    rw [h.cellAt k (by omega)]
    simp [hk]
theorem iv_form (o : Option Int) : ∃ T v, ivV o = .iface T v := by
  obtain ⟨T, v, _, _, P⟩ := piece_of o
  exact ⟨T, v, P.iv⟩
theorem infoPc : (Try.prog.info? 129).map (fun i => (i.zero, i.size, i.bytes)) = some (some .nilIface, 1, 16) := by kernel_rfl
/-- The kinds of masks. -/
def kindsV (w h : Int) (M : List Int) : List (Option Int) := M.map (kindV w h)
set_option maxRecDepth 100000 in
set_option maxHeartbeats 2000000 in
theorem piecesFrom_any (w h : Int) (A : Option Addr) (c : Nat) (M : List Int) (W : World) (hA : IntsA W A M) (hL : M.length ≤ 1048576) :
    Calls Try.prog 123 #[.int .i64 w, .int .i64 h, .slice A M.length c] W fun e w' => ∃ v, e = .returned v ∧ (M.length = 0 → v = .slice none 0 0) ∧ w'.ownsRow W.heap.size 129 1 v M.length ((kindsV w h M).map ivV) ∧ Below W.heap.size W w' := by
  obtain ⟨i0, hi0, hz0, hz1, hz2⟩ := info_parts infoPc
  have HA := Lib.hid hA
  have HP := Lib.hid (fun x W => pieceOf_any w h x W)
  have HT : Hid (∀ k (hk : k < M.length), (kindsV w h (M.take (k + 1))).map ivV = (kindsV w h (M.take k)).map ivV ++ [ivV (kindV w h M[k])]) := fun k hk => by
    unfold kindsV
    rw [take_snoc hk, List.map_append, List.map_append]; rfl
  clear hA
  go_enter Try.func123, Try.ntmps123
  go_wp2_with fail
  go_loopw [7, 9, 12] (fun s _ i wr => ∃ k : Nat, k ≤ M.length ∧ i = .int .i64 k ∧ Hid (k = 0 → s = .slice none 0 0) ∧ wr.ownsRow W.heap.size 129 1 s k ((kindsV w h (M.take k)).map ivV) ∧ Below W.heap.size W wr) (fun _ _ i _ => M.length - (intOf i).toNat)
  case atStart => exact ⟨0, Nat.zero_le _, rfl, fun _ => rfl, World.ownsRow_nil _ _ _ _, Below.refl _ _⟩
  case round =>
    obtain ⟨wo, rfl⟩ : ∃ wo : World, wo = wr := ⟨_, rfl⟩
    obtain ⟨k, hk, rfl, HZ, own, hb⟩ := hrel
    by_cases hlt : k < M.length
    · obtain ⟨g, rfl, hc⟩ := intsA_on HA.out hb k hlt
      have ht := HT.out k hlt
      generalize M[k] = x at *
      have HX := Lib.hid (HP.out x)
      generalize (kindsV w h (M.take k)).map ivV = ys at *
      obtain ⟨T, v, hTv⟩ := iv_form (kindV w h x)
      rw [hTv] at ht HX
      clear hTv
      go_wp2_with fail
      refine (HX.out _).mono ?_
      rintro e w7 ⟨rfl, hb7⟩
      have hb8 := below_on hb hb7
      replace own := own_below own hb7
      have hs7 := hb8.size
      clear hb hb7
      go_wp2_with (at_builtin; refine wpList_append_own _ rfl _ _ 134 rfl W.heap.size 129 i0 .nilIface 1 16 Try.underlying134 hi0 hz0 hz1 hz2 rfl (by decide) _ _ _ rfl (own.alloc _) ⟨w7.heap.size, 0, none⟩ 1 1 [.iface T v] rfl rfl ?d1 ?d2 ?d3 ?d4 ?d5 ?_)
      case d1 => exact World.news_of_block (cs := #[.iface T v]) (t := 129) (fr := (0, 0)) (heap_alloc_new w7 _)
      case d2 => simp [Value.oneCell']
      case d3 => unfold maxLen; omega
      case d4 => omega
      case d5 => simp; omega
      intro v9 w9 own9 hg9 hf9
      have hrow := fun k hk => (own.lt k hk).1
      have b9 : Below W.heap.size W w9 := (hb8.alloc hs7 _).grown hg9 (by simp; omega) hrow
      rw [← ht] at own9
      have R := Lib.hid (And.intro own9 b9)
      clear own9 b9 hg9 hf9 hrow own hb8 hs7
      go_wp2_with fail
      go_roundw
      case rel => exact ⟨k + 1, by omega, by go_num, fun h => by omega, R.out⟩
      case measure => simp [intOf]; omega
    · obtain rfl : k = M.length := by omega
      rw [List.take_length] at own
      have R := Lib.hid (And.intro own hb)
      clear own hb
      go_wp2_with fail
      go_ret
      exact ⟨_, rfl, HZ.out, R.out⟩
end Go.Proofs.Ytncahchhinfneaa

/-! Match10 -/
namespace Go.Proofs.Ytncahchhinfneaa
open Go.RowKit Go.Sort

theorem valsA_news {w : World} {g : Nat} {M : List Value} (h : ValsA w (some ⟨g, 0, none⟩) M) : ∀ j u, M[j]? = some u → w.cell? ((⟨g, 0, none⟩ : Addr).add j) = some u := fun j u hu => by
  obtain ⟨hj, e⟩ := List.getElem?_eq_some_iff.1 hu
  obtain ⟨g', hA, hc⟩ := h j hj
  simp only [Option.some.injEq, Addr.mk.injEq, and_true] at hA
  subst hA
  rw [← e]
  by_cases h0 : j = 0
  · subst h0; simpa [Addr.add] using hc
  · simpa [Addr.add, h0] using hc
theorem iv_one (L : List (Option Int)) : ∀ u ∈ L.map ivV, u.oneCell' = true := fun u hu => by
  obtain ⟨o, _, rfl⟩ := List.mem_map.1 hu
  obtain ⟨T, v, e⟩ := iv_form o
  rw [e]; rfl
set_option maxRecDepth 100000 in
set_option maxHeartbeats 1000000 in
theorem cloneP_any (A : Option Addr) (c : Nat) (L : List (Option Int)) (w : World) (hA : ValsA w A (L.map ivV)) (h0 : L = [] → A = none ∧ c = 0) (h2 : L.length ≤ 1048576) :
    Calls Try.prog 179 #[.slice A L.length c] w fun e w' => ∃ v, e = .returned v ∧ w'.ownsRow w.heap.size 129 1 v L.length (L.map ivV) ∧ Below w.heap.size w w' := by
  have hn := Lib.run_eql_slice_nil (P := Try.prog)
  rcases Nat.eq_zero_or_pos L.length with hz | h1
  · have hE : L = [] := List.length_eq_zero_iff.1 hz
    obtain ⟨rfl, rfl⟩ := h0 hE
    subst hE
    clear h0 hA hz h2
    go_enter Try.func179, Try.ntmps179
    go_wp2_with fail
    go_ret
    exact ⟨_, rfl, World.ownsRow_nil _ _ _ _, Below.refl _ _⟩
  obtain ⟨i0, hi0, hz0, hz1, hz2⟩ := info_parts infoPc
  obtain ⟨g, rfl, -⟩ := hA 0 (by simpa using h1)
  have own0 := World.ownsRow_lit (base := w.heap.size) (e := 129) (size := 1) w #[] 0 (Nat.le_refl _) (by unfold maxLen; omega) (by rfl)
  have hb0 := below1 w (.cells #[] 129)
  have HN := Lib.hid (valsA_news (valsA_on hA hb0))
  have HO := Lib.hid (iv_one L)
  have hlen : (L.map ivV).length = L.length * 1 := by rw [List.length_map, Nat.mul_one]
  clear hA h0
  generalize L.map ivV = M at *
  go_enter Try.func179, Try.ntmps179
  go_wp2_with (at_builtin; refine wpList_append_own _ rfl _ _ 134 rfl w.heap.size 129 i0 .nilIface 1 16 Try.underlying134 hi0 hz0 hz1 hz2 rfl (by decide) _ _ _ rfl own0 ⟨g, 0, none⟩ L.length c M rfl hlen HN.out HO.out ?d3 ?d4 (by simp) ?_)
  case d3 => unfold maxLen; omega
  case d4 => omega
  intro v' w6 own6 hgrow _
  have R : Hid (w6.ownsRow w.heap.size 129 1 v' L.length M ∧ Below w.heap.size w w6) :=
    ⟨by simpa using own6, hb0.grown hgrow (by simp) (fun k hk => (own0.lt k hk).1)⟩
  clear own0 own6 hgrow hb0 hlen
  go_wp2_with fail
  go_ret
  exact ⟨_, rfl, R.out.1, R.out.2⟩
/-- What MatchPieces answers. -/
structure MatP (K L : List (Option Int)) (V : List Int × Bool) : Prop where
  eq : V = match matchV K L with
    | some t => (castL t, true)
    | none => ([], false)
  le : V.1.length ≤ K.length
theorem MatP.uniq {K L : List (Option Int)} {V V' : List Int × Bool} (h : MatP K L V) (h' : MatP K L V') : V = V' := by rw [h.eq, h'.eq]
theorem matP_no {K L : List (Option Int)} (h : matchV K L = none) : MatP K L ([], false) := ⟨by rw [h], by simp⟩
theorem matP_yes {K L : List (Option Int)} {t : List Nat} (h : matchV K L = some t) : MatP K L (castL t, true) := ⟨by rw [h], by
  unfold matchV at h
  split at h
  · rw [castL_len, (matchK_len _ _ _ h).1]; exact Nat.le_refl _
  · cases h⟩
theorem set_iv (L : List (Option Int)) (k : Nat) : (L.map ivV).set k nothingV = (L.set k none).map ivV := by rw [List.map_set]; rfl
set_option maxRecDepth 100000 in
set_option maxHeartbeats 2000000 in
theorem match_any (A B : Option Addr) (ca cb : Nat) (K L : List (Option Int)) (W : World) (hA : ValsA W A (K.map ivV)) (hB : ValsA W B (L.map ivV)) (h0 : L = [] → B = none ∧ cb = 0) (hK : K.length ≤ 1048576) (hL : L.length ≤ 1048576) :
    Calls Try.prog 122 #[.slice A K.length ca, .slice B L.length cb] W (ResQ (MatP K L) W) := by
  by_cases hl : K.length = L.length
  case neg =>
    have R : Hid (ResQ (MatP K L) W (.returned (.tuple #[.slice none 0 0, .bool false])) W) := ⟨([], false), _, rfl, matP_no (by unfold matchV; rw [if_neg hl]), World.ownsRow_nil _ _ _ _, Below.refl _ _⟩
    have hne : ((K.length : Int) != (L.length : Int)) = true := by rw [bne_iff_ne]; omega
    clear hA hB h0
    go_enter Try.func122, Try.ntmps122
    go_wp2_with fail
    go_ret2
    exact R.out
  obtain ⟨i0, hi0, hz0, hz1, hz2⟩ := info_parts infoI
  have HA := Lib.hid hA
  have HCL := Lib.hid (cloneP_any B cb L W hB h0 hL)
  have RN : Hid (matchK K L = none → ∀ w', Below W.heap.size W w' → ResQ (MatP K L) W (.returned (.tuple #[.slice none 0 0, .bool false])) w') := fun h w' hb => ⟨([], false), _, rfl, matP_no (by unfold matchV; rw [if_pos hl]; exact h), World.ownsRow_nil _ _ _ _, hb⟩
  have RY : Hid (∀ t, matchK K L = some t → ∀ v w', w'.ownsRow W.heap.size 3 1 v (castL t).length (ints (castL t)) → Below W.heap.size W w' → ResQ (MatP K L) W (.returned (.tuple #[v, .bool true])) w') := fun t h v w' own hb => ⟨(castL t, true), v, rfl, matP_yes (by unfold matchV; rw [if_pos hl]; exact h), own, hb⟩
  have HIX := Lib.hid (fun p A c (L' : List (Option Int)) W hA hL => index_iv p A c L' W hA hL)
  have hne : ((K.length : Int) != (L.length : Int)) = false := by rw [hl]; simp
  have HLK := Lib.hid hl
  clear hA hB h0 hl
  go_enter Try.func122, Try.ntmps122
  go_wp2_with fail
  refine HCL.out.mono ?_
  rintro e w1 ⟨v1, rfl, own1, hb1⟩
  obtain ⟨-, A6, c6, rfl, -⟩ := own_vals own1
  clear HCL
  go_wp2_with fail
  go_loopw [7, 9, 10, 20] (fun s _ _ i wr => ∃ (k : Nat) (t : List Nat) (L' : List (Option Int)), k ≤ K.length ∧ i = .int .i64 k ∧ t.length = k ∧ L'.length = L.length ∧ Hid (matchK K L = (matchK (K.drop k) L').map (t ++ ·)) ∧ wr.ownsRow W.heap.size 129 1 (.slice A6 L.length c6) L.length (L'.map ivV) ∧ wr.ownsRow W.heap.size 3 1 s (castL t).length (ints (castL t)) ∧ Hid ((Value.slice A6 L.length c6).ownBlock = none ∨ (Value.slice A6 L.length c6).ownBlock ≠ s.ownBlock) ∧ Below W.heap.size W wr) (fun _ _ _ i _ => K.length - (intOf i).toNat)
  case atStart => exact ⟨0, [], L, Nat.zero_le _, rfl, rfl, rfl, by show _ = _; rw [List.drop_zero]; cases matchK K L <;> simp, own1, World.ownsRow_nil _ _ _ _, by show _ ∨ _; cases A6 <;> simp [Value.ownBlock], hb1⟩
  case round =>
    clear own1 hb1
    obtain ⟨wo, rfl⟩ : ∃ wo : World, wo = wr := ⟨_, rfl⟩
    obtain ⟨k, t, L', hk, rfl, ht, hL', HM, own6, own, HAP, hb⟩ := hrel
    by_cases hlt : k < K.length
    · obtain ⟨g, rfl, hc⟩ := valsA_on HA.out hb k (by simpa using hlt)
      rw [List.getElem_map] at hc
      have hd : K.drop k = K[k] :: K.drop (k + 1) := List.drop_eq_getElem_cons hlt
      rw [hd] at HM
      clear hd
      generalize K[k] = p at *
      obtain ⟨T, v, recv, fn, P⟩ := piece_of p
      have hna := P.na
      simp only [Made.depth, Try.types_size, Nat.reduceAdd] at hna
      obtain ⟨-, A6', c6', hv6, p6⟩ := own_vals own6
      simp only [Value.slice.injEq, true_and] at hv6
      obtain ⟨rfl, rfl⟩ := hv6
      have HX := Lib.hid (HIX.out p A6 c6 L' wo p6 (by omega))
      rw [hL'] at HX
      rw [P.iv] at hc HX
      have hS : selK p L' = fstI (fun k => hitO p (L'.getD k none)) L'.length := rfl
      rw [hL'] at hS
      rw [← hS] at HX
      clear P hS
      have hbd := fstI_bd (hitK p L') L'.length
      rw [show fstI (hitK p L') L'.length = selK p L' from rfl, hL'] at hbd
      obtain ⟨z, hz⟩ : ∃ z, z = selK p L' := ⟨_, rfl⟩
      rw [← hz] at HX hbd
      have HZ := Lib.hid hz
      clear hz p6
      by_cases hzn : z < 0
      · have R := Lib.hid (RN.out (by rw [HM.out, matchK_no (by rw [← HZ.out]; exact hzn)]; rfl))
        clear own6 own HAP HM hbd
        go_wp2_with fail
        refine HX.out.mono ?_
        rintro e w2 ⟨rfl, hb2⟩
        have RR := Lib.hid (R.out _ (below_on hb hb2))
        clear hb hb2
        go_wp2_with fail
        go_ret2
        exact RR.out
      · obtain ⟨j, rfl⟩ : ∃ j : Nat, z = j := ⟨z.toNat, by omega⟩
        have hj : j < L.length := by omega
        have HM2 : Hid (matchK K L = (matchK (K.drop (k + 1)) (L'.set j none)).map ((t ++ [j]) ++ ·)) := by
          show _ = _
          rw [HM.out, matchK_yes HZ.out.symm, Option.map_map]
          congr 1
          funext s
          simp
        obtain ⟨g6, rfl⟩ : ∃ g6, A6 = some ⟨g6, 0, none⟩ := by
          rcases own6.2 with ⟨h1, _⟩ | ⟨g6, cap, cur, hv, _⟩
          · simp only [Value.slice.injEq] at h1
            omega
          · simp only [Value.slice.injEq] at hv
            exact ⟨g6, hv.1⟩
        have HT2 : Hid (castL (t ++ [j]) = castL t ++ [(j : Int)]) := by show _ = _; simp [castL]
        clear HM HZ hbd
        go_wp2_with fail
        refine HX.out.mono ?_
        rintro e w2 ⟨rfl, hb2⟩
        have hb3 := below_on hb hb2
        replace own := own_below own hb2
        replace own6 := own_below own6 hb2
        have hs3 := hb3.size
        have htl : (castL t).length ≤ 1048576 := by rw [castL_len]; omega
        clear hb hb2 hc hna HX
        go_wp2_with (at_builtin; refine wpList_append_own_at _ rfl _ _ 43 rfl W.heap.size 3 i0 (.int .i64 0) 1 8 Try.underlying43 hi0 hz0 hz1 hz2 rfl (by decide) _ _ _ rfl (own.alloc _) ⟨w2.heap.size, 0, none⟩ 1 1 [.int .i64 (j : Int)] rfl rfl ?d1 ?d2 ?d3 ?d4 ?d5 ?_)
        case d1 => exact World.news_of_block (cs := #[.int .i64 (j : Int)]) (t := 3) (fr := (0, 0)) (heap_alloc_new w2 _)
        case d2 => simp [Value.oneCell']
        case d3 => unfold maxLen; omega
        case d4 => omega
        case d5 => simp; omega
        intro v7 w7 own7 hgrow _ hat
        have hrw := fun k hk => (own.lt k hk).1
        have h6 := (own6.alloc (.cells #[.int .i64 (j : Int)] 3)).kept hgrow HAP.out
        have hg6 := (own6.lt g6 rfl)
        have hap7 : v7.ownBlock = none ∨ v7.ownBlock ≠ some g6 := by
          rcases hat with h' | h'
          · rcases HAP.out with h | h
            · cases h
            · exact .inr fun e => h (by rw [← h', e]; rfl)
          · refine .inr fun e => ?_
            rw [h', Option.some.injEq] at e
            have := hg6.2
            omega
        have b7 : Below W.heap.size W w7 := (hb3.alloc hs3 _).grown hgrow (by simp; omega) hrw
        have f6 := h6.frozenAt j
        have s6 := (h6.stored j nothingV).1
        rw [set_iv] at s6
        have gs : w7.grownBy (w7.setCell ⟨g6, j, none⟩ nothingV) (some g6) := only_set (World.grownBy.refl _ _) j nothingV
        have o7 := own7.kept gs hap7
        have b8 : Below W.heap.size W (w7.setCell ⟨g6, j, none⟩ nothingV) := b7.setCell (p := ⟨g6, j, none⟩) hg6.1 _
        have hap8 : (Value.slice (some ⟨g6, 0, none⟩) L.length c6).ownBlock = none ∨ (Value.slice (some ⟨g6, 0, none⟩) L.length c6).ownBlock ≠ v7.ownBlock := .inr fun e => hap7.elim (fun h => by rw [h] at e; cases e) (fun h => h e.symm)
        have hl8 : (L'.set j none).length = L.length := by rw [List.length_set]; exact hL'
        have ho7 : (w7.setCell ⟨g6, j, none⟩ nothingV).ownsRow W.heap.size 3 1 v7 (castL (t ++ [j])).length (ints (castL (t ++ [j]))) := by
          rw [HT2.out, List.length_append]
          simpa [ints] using o7
        have R := Lib.hid (And.intro s6 (And.intro ho7 (And.intro hap8 b8)))
        obtain ⟨u6, hc6⟩ := cell_some1 h6 j hj
        unfold nothingV at R
        clear own own6 own7 hgrow hat hrw h6 hg6 hap7 b7 s6 gs o7 b8 hap8 ho7 hb3 HAP hs3 HT2
        go_wp2_with fail
        go_roundw
        case rel => exact ⟨k + 1, t ++ [j], L'.set j none, by omega, by go_num, by simp [ht], hl8, HM2, R.out⟩
        case measure => simp [intOf]; omega
    · obtain rfl : k = K.length := by omega
      have HR := HM.out
      rw [List.drop_length, matchK] at HR
      have R := Lib.hid (RY.out t (by rw [HR]; simp) _ _ own hb)
      clear own own6 hb HR HM HAP
      go_wp2_with fail
      go_ret2
      exact R.out
end Go.Proofs.Ytncahchhinfneaa

/-! MPI10 -/
namespace Go.Proofs.Ytncahchhinfneaa
open Go.RowKit Go.Sort

theorem kinds_len (w h : Int) (M : List Int) : (kindsV w h M).length = M.length := List.length_map _
set_option maxRecDepth 100000 in
set_option maxHeartbeats 1000000 in
theorem impl_match (w h : Int) (AX : Option Addr) (cX : Nat) (X : List Int) (AY : Option Addr) (cY : Nat) (Y : List Int) (W : World) (hX : IntsA W AX X) (hY : IntsA W AY Y) (lX : X.length ≤ 1048576) (lY : Y.length ≤ 1048576) :
    Calls Try.prog 56 #[.int .i64 w, .int .i64 h, .slice AX X.length cX, .slice AY Y.length cY] W (ResQ (MatP (kindsV w h X) (kindsV w h Y)) W) := by
  have H1 := Lib.hid (piecesFrom_any w h AX cX X W hX lX)
  have H2 := Lib.hid (fun W hY => piecesFrom_any w h AY cY Y W hY lY)
  have HY := Lib.hid hY
  have HM := Lib.hid (fun A B ca cb W hA hB h0 => match_any A B ca cb (kindsV w h X) (kindsV w h Y) W hA hB h0 (by rw [kinds_len]; exact lX) (by rw [kinds_len]; exact lY))
  have HYZ : Hid (kindsV w h Y = [] → Y.length = 0) := fun e => by rw [← kinds_len w h Y, e]; rfl
  rw [kinds_len, kinds_len] at HM
  clear hX hY
  generalize kindsV w h X = K at *
  generalize kindsV w h Y = L at *
  go_enter Try.func56, Try.ntmps56
  go_wp2_with fail
  refine H1.out.mono ?_
  rintro e w1 ⟨v1, rfl, -, own1, hb1⟩
  have hb1' := hb1
  have H2' := Lib.hid (H2.out w1 (intsA_on HY.out hb1))
  clear hb1
  go_wp2_with fail
  refine H2'.out.mono ?_
  rintro e w2 ⟨v2, rfl, hz, own2, hb2⟩
  have b2 := below_on hb1' hb2
  replace own1 := own_below own1 hb2
  obtain ⟨-, A1, c1, rfl, p1⟩ := own_vals own1
  obtain ⟨-, A2, c2, rfl, p2⟩ := own_vals own2
  have H3 := Lib.hid (HM.out A1 A2 c1 c2 w2 p1 p2 (fun e => by
    have := hz (HYZ.out e)
    simp only [Value.slice.injEq] at this
    exact ⟨this.1, this.2.2⟩))
  have B2 := Lib.hid b2
  clear hz own1 own2 p1 p2 b2 hb2 hb1' H2' H1 H2 HM
  go_wp2_with fail
  refine H3.out.mono ?_
  rintro e w3 ⟨V, v3, rfl, hV, own3, hb3⟩
  have R : Hid (ResQ (MatP K L) W (.returned (.tuple #[v3, .bool V.2])) w3) := ⟨V, v3, rfl, hV, own_base own3 B2.out.size, below_on B2.out hb3⟩
  clear hV own3 hb3
  go_wp2_with fail
  go_ret2
  exact R.out
end Go.Proofs.Ytncahchhinfneaa

/-! MatS10 -/
namespace Go.Proofs.Ytncahchhinfneaa
open Go.RowKit Go.Sort

/-- The kinds of the pieces that are not used yet. -/
def markU (U : List Bool) (L : List (Option Int)) : List (Option Int) := List.zipWith (fun u o => if u = true then none else o) U L
theorem markU_len {U : List Bool} {L : List (Option Int)} (h : U.length = L.length) : (markU U L).length = L.length := by simp [markU, h]
theorem markU_get {U : List Bool} {L : List (Option Int)} (h : U.length = L.length) {j : Nat} (hj : j < L.length) : (markU U L).getD j none = if U.getD j false = true then none else L.getD j none := by
  unfold markU
  rw [List.getD_eq_getElem?_getD, List.getElem?_zipWith, List.getElem?_eq_getElem (show j < U.length by omega), List.getElem?_eq_getElem hj]
  simp [hj, h]
theorem markU_set {U : List Bool} {L : List (Option Int)} (h : U.length = L.length) (j : Nat) : markU (U.set j true) L = (markU U L).set j none := by
  apply List.ext_getElem?
  intro i
  unfold markU
  rw [List.getElem?_zipWith, List.getElem?_set, List.getElem?_set, List.getElem?_zipWith]
  by_cases hij : j = i
  · subst hij
    rcases Nat.lt_or_ge j L.length with hj | hj
    · rw [if_pos rfl, if_pos rfl, List.length_zipWith, if_pos (by omega), if_pos (by omega), List.getElem?_eq_getElem hj]
      simp
    · rw [if_pos rfl, if_pos rfl, List.length_zipWith, if_neg (by omega), if_neg (by omega)]
  · rw [if_neg hij, if_neg hij]
theorem markU_start (L : List (Option Int)) : markU (List.replicate L.length false) L = L := by
  apply List.ext_getElem?
  intro i
  unfold markU
  rw [List.getElem?_zipWith]
  rcases Nat.lt_or_ge i L.length with hj | hj
  · rw [List.getElem?_eq_getElem (by simpa using hj), List.getElem?_eq_getElem hj]; simp
  · rw [List.getElem?_eq_none (by simpa using hj), List.getElem?_eq_none hj]
def bools (U : List Bool) : List Value := U.map Value.bool
theorem bools_len (U : List Bool) : (bools U).length = U.length := List.length_map _
theorem bools_set (U : List Bool) (j : Nat) (b : Bool) : (bools U).set j (.bool b) = bools (U.set j b) := by simp [bools, List.map_set]
theorem infoB0 : (Try.prog.info? 4).map (fun i => (i.zero, i.size, i.bytes)) = some (some (.bool false), 1, 1) := by kernel_rfl
theorem made_bools (n : Nat) : (madeCells #[.bool false] n).toList = bools (List.replicate n false) := by
  unfold bools
  rw [List.map_replicate]
  apply List.ext_getElem?
  intro i
  rcases Nat.lt_or_ge i n with hi | hi
  · rw [List.getElem?_replicate, if_pos hi]
    simp [madeCells, hi, Nat.mod_one]
  · rw [List.getElem?_eq_none (by rw [Array.length_toList, size_madeCells]; simpa using hi), List.getElem?_eq_none (by simpa using hi)]
set_option maxRecDepth 100000 in
set_option maxHeartbeats 4000000 in
theorem spec_match (w h : Int) (AX : Option Addr) (cX : Nat) (X : List Int) (AY : Option Addr) (cY : Nat) (Y : List Int) (W : World) (hX : IntsA W AX X) (hY : IntsA W AY Y) (_lX : X.length ≤ 1048576) (lY : Y.length ≤ 1048576) :
    Calls Try.prog 54 #[.int .i64 w, .int .i64 h, .slice AX X.length cX, .slice AY Y.length cY] W (ResQ (MatP (kindsV w h X) (kindsV w h Y)) W) := by
  obtain ⟨K, hK⟩ : ∃ K, K = kindsV w h X := ⟨_, rfl⟩
  obtain ⟨L, hL⟩ : ∃ L, L = kindsV w h Y := ⟨_, rfl⟩
  have hKl : K.length = X.length := by rw [hK, kinds_len]
  have hLl : L.length = Y.length := by rw [hL, kinds_len]
  rw [← hK, ← hL]
  by_cases hl : X.length = Y.length
  case neg =>
    have R : Hid (ResQ (MatP K L) W (.returned (.tuple #[.slice none 0 0, .bool false])) W) := ⟨([], false), _, rfl, matP_no (by unfold matchV; rw [if_neg (by omega)]), World.ownsRow_nil _ _ _ _, Below.refl _ _⟩
    have hne : ((X.length : Int) != (Y.length : Int)) = true := by rw [bne_iff_ne]; omega
    clear hX hY hK hL hKl hLl hl
    go_enter Try.func54, Try.ntmps54
    go_wp2_with fail
    go_ret2
    exact R.out
  have hlKL : K.length = L.length := by omega
  have RN : Hid (matchK K L = none → ∀ w', Below W.heap.size W w' → ResQ (MatP K L) W (.returned (.tuple #[.slice none 0 0, .bool false])) w') := fun h w' hb => ⟨([], false), _, rfl, matP_no (by unfold matchV; rw [if_pos hlKL]; exact h), World.ownsRow_nil _ _ _ _, hb⟩
  have RY : Hid (∀ t, matchK K L = some t → ∀ v w', w'.ownsRow W.heap.size 3 1 v (castL t).length (ints (castL t)) → Below W.heap.size W w' → ResQ (MatP K L) W (.returned (.tuple #[v, .bool true])) w') := fun t h v w' own hb => ⟨(castL t, true), v, rfl, matP_yes (by unfold matchV; rw [if_pos hlKL]; exact h), own, hb⟩
  obtain ⟨n, hn⟩ : ∃ n, n = Y.length := ⟨_, rfl⟩
  have hne : ((n : Int) != (n : Int)) = false := by simp
  obtain ⟨i1, hi1, hy0, hy1, hy2⟩ := info_parts infoB0
  have hmk : ∀ w, (Instr.makeSlice 132 (.int .i64 (n : Int)) (.int .i64 (n : Int))).run Try.prog w = .ok (.slice (some ⟨w.heap.size, 0, none⟩) n n) (w.alloc (.cells (madeCells #[.bool false] n) 4)) := fun w => by
    have h := run_make (P := Try.prog) w 132 4 i1 _ Try.underlying132 hi1 hy0 .i64 .i64 (n : Int) (n : Int) (by omega) (Int.le_refl _) (by rw [hy2]; omega) (by omega)
    rw [hy1] at h
    simpa [Value.cells, Nat.mul_one] using h
  have hown := World.ownsRow_lit (base := W.heap.size) (e := 4) (size := 1) W (madeCells #[.bool false] n) n (Nat.le_refl _) (by unfold maxLen; omega) ((size_madeCells _ _).trans (Nat.mul_one _).symm)
  rw [made_bools] at hown
  have hb0 := below1 W (.cells (madeCells #[.bool false] n) 4)
  have HX := Lib.hid hX
  have HY := Lib.hid hY
  have HSM := Lib.hid (fun x y W => spec_same w h x y W)
  have HKX : Hid (∀ k (hk : k < X.length), K.drop k = kindV w h X[k] :: K.drop (k + 1)) := fun k hk => by
    rw [List.drop_eq_getElem_cons (show k < K.length by omega)]
    congr 1
    have : K[k]'(by omega) = kindV w h X[k] := by simp only [hK, kindsV, List.getElem_map]
    exact this
  have HLY : Hid (∀ j (hj : j < Y.length), L.getD j none = kindV w h Y[j]) := fun j hj => by
    rw [hL]; unfold kindsV; simp [hj]
  have HLN : Hid (L.length = n) := by show _ = _; omega
  have hXn : X.length = n := by omega
  have hYn : Y.length = n := by omega
  have HXN := Lib.hid hXn
  have HYN := Lib.hid hYn
  have ln : n ≤ 1048576 := by omega
  rw [hXn, hYn]
  have HKL := Lib.hid (show K.length = n by omega)
  clear hX hY hl hlKL hKl hLl hK hL hn hXn hYn _lX lY
  go_enter Try.func54, Try.ntmps54
  go_wp2_with fail
  have own0 := World.ownsRow_lit (base := W.heap.size) (e := 3) (size := 1) (W.alloc (.cells (madeCells #[.bool false] n) 4)) #[] 0 (by simp) (by decide) rfl
  have hU1 := hown.alloc (.cells #[] 3)
  have hb1 := hb0.alloc (by simp) (.cells #[] 3)
  rw [World.size_alloc] at own0
  obtain ⟨i0, hi0, hz0, hz1, hz2⟩ := info_parts infoI
  have HAP0 : Hid ((Value.slice (some ⟨W.heap.size, 0, none⟩) n n).ownBlock = none ∨ (Value.slice (some ⟨W.heap.size, 0, none⟩) n n).ownBlock ≠ (Value.slice (some ⟨W.heap.size + 1, 0, none⟩) 0 0).ownBlock) := by
    show _ ∨ _
    simp [Value.ownBlock]
  generalize (W.alloc (.cells (madeCells #[.bool false] n) 4)).alloc (.cells #[] 3) = w1 at *
  clear hown hb0 hmk hi1 hy0 hy1 hy2 hne
  go_loopw [11, 13, 14, 15, 16, 28] (fun s _ _ _ _ i wr => ∃ (k : Nat) (t : List Nat) (U : List Bool), k ≤ n ∧ i = .int .i64 k ∧ t.length = k ∧ U.length = n ∧ Hid (matchK K L = (matchK (K.drop k) (markU U L)).map (t ++ ·)) ∧ wr.ownsRow W.heap.size 4 1 (.slice (some ⟨W.heap.size, 0, none⟩) n n) n (bools U) ∧ wr.ownsRow W.heap.size 3 1 s (castL t).length (ints (castL t)) ∧ Hid ((Value.slice (some ⟨W.heap.size, 0, none⟩) n n).ownBlock = none ∨ (Value.slice (some ⟨W.heap.size, 0, none⟩) n n).ownBlock ≠ s.ownBlock) ∧ Below W.heap.size W wr) (fun _ _ _ _ _ i _ => n - (intOf i).toNat)
  case atStart => exact ⟨0, [], List.replicate n false, Nat.zero_le _, rfl, rfl, by simp, by show _ = _; rw [List.drop_zero, ← HLN.out, markU_start]; cases matchK K L <;> simp, hU1, own0, HAP0, hb1⟩
  case round =>
    clear hU1 own0 hb1 HAP0
    obtain ⟨wo, rfl⟩ : ∃ wo : World, wo = wr := ⟨_, rfl⟩
    obtain ⟨k, t, U, hk, rfl, ht, hUl, HM, ownU, own, HAP, hb⟩ := hrel
    by_cases hlt : k < n
    · obtain ⟨gx, rfl, hc⟩ := intsA_on HX.out hb k (by rw [HXN.out]; exact hlt)
      obtain ⟨x, hx⟩ : ∃ x, x = X[k]'(by rw [HXN.out]; exact hlt) := ⟨_, rfl⟩
      have HD := Lib.hid (HKX.out k (by rw [HXN.out]; exact hlt))
      rw [← hx] at hc HD
      have HSX := Lib.hid (HSM.out x)
      obtain ⟨L', hL'⟩ : ∃ L', L' = markU U L := ⟨_, rfl⟩
      obtain ⟨f, hf⟩ : ∃ f : Nat → Bool, f = hitK (kindV w h x) L' := ⟨_, rfl⟩
      have HF : Hid (∀ j (hj : j < n), f j = (!(U.getD j false) && sameV w h x (Y[j]'(by rw [HYN.out]; exact hj)))) := fun j hj => by
        have hj2 : j < L.length := by rw [HLN.out]; exact hj
        rw [hf]
        unfold hitK
        rw [hL', markU_get (by rw [hUl, HLN.out]) hj2, HLY.out j (by rw [HYN.out]; exact hj), kind_same]
        cases U.getD j false <;> simp
        cases (kindV w h x) <;> simp
      have HU : Hid (∀ j, j < n → wo.cell? ⟨W.heap.size, j, none⟩ = some (.bool (U.getD j false))) := fun j hj => by
        rw [ownU.cellAt j (by omega)]
        unfold bools
        simp [show j < U.length by omega]
      have HBW := Lib.hid hb
      clear hx
      go_wp2_with fail
      go_loopw [14, 15, 16, 34] (fun at_ _ _ i wr => ∃ (j : Nat) (z : Int), j ≤ n ∧ i = .int .i64 j ∧ at_ = .int .i64 z ∧ Hid (z = fstI f j) ∧ Below wo.heap.size wo wr) (fun _ _ _ i _ => n - (intOf i).toNat)
      case atStart => exact ⟨0, -1, Nat.zero_le _, rfl, rfl, rfl, Below.refl _ _⟩
      case round =>
        obtain ⟨wi, rfl⟩ : ∃ wi : World, wi = wr := ⟨_, rfl⟩
        obtain ⟨j, z, hj, rfl, rfl, HZ, hbi⟩ := hrel
        by_cases hjt : j < n
        · obtain ⟨gy, rfl, hcy⟩ := intsA_on HY.out (below_on HBW.out hbi) j (by rw [HYN.out]; exact hjt)
          obtain ⟨y, hy⟩ : ∃ y, y = Y[j]'(by rw [HYN.out]; exact hjt) := ⟨_, rfl⟩
          have hfj := HF.out j hjt
          have hcu := cell_on hbi rfl (HU.out j hjt)
          have HC := Lib.hid (HSX.out y wi)
          rw [← hy] at hcy hfj
          have HN : Hid (fstI f (j + 1) = if fstI f j < 0 ∧ f j = true then (j : Int) else fstI f j) := rfl
          generalize U.getD j false = u at *
          generalize sameV w h x y = sv at *
          clear hy hc
          by_cases hz : z < 0
          · cases u
            · cases sv
              · have HZ2 : Hid (z = fstI f (j + 1)) := by
                  show _ = _
                  rw [HN.out, hfj, if_neg (by simp)]; exact HZ.out
                clear hfj HN HZ
                go_wp2_with fail
                refine HC.out.mono ?_
                rintro e w2 ⟨rfl, hb2⟩
                have R := Lib.hid (below_on hbi hb2)
                clear hbi hb2
                go_wp2_with fail
                go_roundw
                case rel => exact ⟨j + 1, z, by omega, by go_num, rfl, HZ2, R.out⟩
                case measure => simp [intOf]; omega
              · have HZ2 : Hid ((j : Int) = fstI f (j + 1)) := by
                  show _ = _
                  rw [HN.out, hfj, if_pos ⟨by rw [← HZ.out]; exact hz, rfl⟩]
                clear hfj HN HZ
                go_wp2_with fail
                refine HC.out.mono ?_
                rintro e w2 ⟨rfl, hb2⟩
                have R := Lib.hid (below_on hbi hb2)
                clear hbi hb2
                go_wp2_with fail
                go_roundw
                case rel => exact ⟨j + 1, _, by omega, by go_num, rfl, HZ2, R.out⟩
                case measure => simp [intOf]; omega
            · have HZ2 : Hid (z = fstI f (j + 1)) := by
                show _ = _
                rw [HN.out, hfj, if_neg (by simp)]; exact HZ.out
              have R := Lib.hid hbi
              clear hfj HN HZ hbi
              go_wp2_with fail
              go_roundw
              case rel => exact ⟨j + 1, z, by omega, by go_num, rfl, HZ2, R.out⟩
              case measure => simp [intOf]; omega
          · have HZ2 : Hid (z = fstI f (j + 1)) := by
              show _ = _
              rw [HN.out, if_neg (by rintro ⟨h1, _⟩; exact hz (by rw [HZ.out]; exact h1))]; exact HZ.out
            have R := Lib.hid hbi
            clear hfj HN HZ hbi
            go_wp2_with fail
            go_roundw
            case rel => exact ⟨j + 1, z, by omega, by go_num, rfl, HZ2, R.out⟩
            case measure => simp [intOf]; omega
        · obtain rfl : n = j := by omega
          have HS : Hid (z = selK (kindV w h x) L') := by
            show _ = _
            rw [HZ.out, hf]
            unfold selK
            rw [hL', markU_len (by rw [hUl, HLN.out]), HLN.out]
          have hbd := fstI_bd f n
          rw [← HZ.out] at hbd
          have hbw := below_on HBW.out hbi
          rw [HD.out, ← hL'] at HM
          have hUset : ∀ q : Nat, markU (U.set q true) L = L'.set q none := fun q => by rw [hL']; exact markU_set (by rw [hUl, HLN.out]) q
          have HUS := Lib.hid hUset
          clear hf hL' hUset HZ HU HF HSX hc
          by_cases hz : z < 0
          · have R := Lib.hid (RN.out (by rw [HM.out, matchK_no (by rw [← HS.out]; exact hz)]; rfl) _ hbw)
            clear own ownU HAP HM hbd hbw hbi hb
            go_wp2_with fail
            go_ret2
            exact R.out
          · obtain ⟨q, rfl⟩ : ∃ q : Nat, z = q := ⟨z.toNat, by omega⟩
            have hq : q < n := by omega
            have HM2 : Hid (matchK K L = (matchK (K.drop (k + 1)) (markU (U.set q true) L)).map ((t ++ [q]) ++ ·)) := by
              show _ = _
              rw [HM.out, matchK_yes HS.out.symm, Option.map_map, HUS.out]
              congr 1
              funext s
              simp
            have HT2 : Hid (castL (t ++ [q]) = castL t ++ [(q : Int)]) := by show _ = _; simp [castL]
            replace own := own_below own hbi
            replace ownU := own_below ownU hbi
            obtain ⟨u6, hc6⟩ := cell_some1 ownU q hq
            have f6 := ownU.frozenAt q
            have s6 := (ownU.stored q (.bool true)).1
            rw [bools_set] at s6
            have gs : wi.grownBy (wi.setCell ⟨W.heap.size, q, none⟩ (.bool true)) (some W.heap.size) := only_set (World.grownBy.refl _ _) q (.bool true)
            have hap7 := HAP.out
            have o7 := own.kept gs (by
              rcases hap7 with h | h
              · cases h
              · exact .inr fun e => h e.symm)
            have b8 : Below W.heap.size W (wi.setCell ⟨W.heap.size, q, none⟩ (.bool true)) := hbw.setCell (p := ⟨W.heap.size, q, none⟩) (Nat.le_refl _) _
            have hs8 := b8.size
            have hul : (U.set q true).length = n := by rw [List.length_set]; exact hUl
            have htl : (castL t).length ≤ 1048576 := by rw [castL_len]; omega
            clear own ownU HM HS hbd hbw hbi hb gs HAP
            go_wp2_with (at_builtin; refine wpList_append_own_at _ rfl _ _ 43 rfl W.heap.size 3 i0 (.int .i64 0) 1 8 Try.underlying43 hi0 hz0 hz1 hz2 rfl (by decide) _ _ _ rfl (o7.alloc _) ⟨wi.heap.size, 0, none⟩ 1 1 [.int .i64 (q : Int)] rfl rfl ?d1 ?d2 ?d3 ?d4 ?d5 ?_)
            case d2 => simp [Value.oneCell']
            case d3 => unfold maxLen; omega
            case d4 => omega
            case d5 => simp at hs8; omega
            intro v7 w7 own7 hgrow _ hat
            have hrw := fun k hk => (o7.lt k hk).1
            have h6 := (s6.alloc (.cells #[.int .i64 (q : Int)] 3)).kept hgrow hap7
            have hg6 := s6.lt W.heap.size rfl
            have hap8 : (Value.slice (some ⟨W.heap.size, 0, none⟩) n n).ownBlock = none ∨ (Value.slice (some ⟨W.heap.size, 0, none⟩) n n).ownBlock ≠ v7.ownBlock := by
              refine .inr fun e => ?_
              rcases hat with h' | h'
              · rcases hap7 with h | h
                · cases h
                · exact h (by rw [e, h'])
              · rw [h'] at e
                simp [Value.ownBlock] at e
                have := hg6.2
                simp at this
                omega
            have b9 : Below W.heap.size W w7 := (b8.alloc hs8 _).grown hgrow (by simp at hs8 ⊢; omega) hrw
            have ho7 : w7.ownsRow W.heap.size 3 1 v7 (castL (t ++ [q])).length (ints (castL (t ++ [q]))) := by
              rw [HT2.out, List.length_append]
              simpa [ints] using own7
            have R := Lib.hid (And.intro h6 (And.intro ho7 (And.intro hap8 b9)))
            clear o7 s6 b8 hgrow hat hrw h6 hg6 hap8 b9 ho7 own7 hap7 hs8 HT2 hc6 f6
            go_wp2_with fail
            go_roundw
            case rel => exact ⟨k + 1, t ++ [q], U.set q true, by omega, by go_num, by simp [ht], hul, HM2, R.out⟩
            case measure => simp [intOf]; omega
    · obtain rfl : k = n := by omega
      have HR := HM.out
      rw [List.drop_of_length_le (by rw [HKL.out]; exact Nat.le_refl _), matchK] at HR
      have R := Lib.hid (RY.out t (by rw [HR]; simp) _ _ own hb)
      clear own ownU hb HR HM HAP
      go_wp2_with fail
      go_ret2
      exact R.out
end Go.Proofs.Ytncahchhinfneaa

/-! ArgSS -/
namespace Go.Proofs.Ytncahchhinfneaa
open Go.RowKit

/-- The cells of a slice of ints that came in, wherever it lies. -/
def ArgI (w : World) (A : Option Addr) (M : List Int) : Prop := ∀ k (h : k < M.length), ∃ a : Addr, A = some a ∧ a.block < w.heap.size ∧ w.cell? (a.add k) = some (.int .i64 M[k])
theorem ArgI.step {w w' : World} {A : Option Addr} {M : List Int} (h : ArgI w A M) (hb : Below w.heap.size w w') : ArgI w' A M := fun k hk => by
  obtain ⟨a, hA, hl, h1⟩ := h k hk
  exact ⟨a, hA, Nat.lt_of_lt_of_le hl hb.size, cell_on hb rfl h1⟩
/-- A slice of such slices. -/
def ArgSS (w : World) (A : Option Addr) (Ms : List (List Int)) : Prop := ∀ k (h : k < Ms.length), ∃ (a : Addr) (Ak : Option Addr) (ck : Nat), A = some a ∧ a.block < w.heap.size ∧ w.cell? (a.add k) = some (.slice Ak (Ms[k]).length ck) ∧ (Ms[k]).length ≤ maxLen ∧ ArgI w Ak Ms[k]
theorem ArgSS.step {w w' : World} {A : Option Addr} {Ms : List (List Int)} (h : ArgSS w A Ms) (hb : Below w.heap.size w w') : ArgSS w' A Ms := fun k hk => by
  obtain ⟨a, Ak, ck, hA, hl, h1, h2, h3⟩ := h k hk
  exact ⟨a, Ak, ck, hA, Nat.lt_of_lt_of_le hl hb.size, cell_on hb rfl h1, h2, h3.step hb⟩
theorem view_intss {H : Type} {enc : TypeId × Value → H} {P : Program} {W : World} {t e q : TypeId} {fuel : Nat} {A : Option Addr} {n c : Nat} {x : DataW H × List MemPlace}
    (ht : P.underlying t = some (.slice e)) (he : P.underlying e = some (.slice q)) (hq : P.underlying q = some (.int .i64)) (ce : P.cellsOf e = 1) (cq : P.cellsOf q = 1)
    (h : DataW.trod enc P W 0 (fun _ => true) true fuel t [.slice A n c] = some x) : ∃ Ms : List (List Int), n = Ms.length ∧ ArgSS W A Ms ∧ Ms.length ≤ maxLen ∧ ∀ M ∈ Ms, ∀ z ∈ M, (Lit.int .i64 z).wf = true := by
  rcases Go.Deep.open_int_rows ht he hq ce cq h with ⟨h1, _⟩ | ⟨a, len, cap, A', L, C, Z, h1, _, hlc, hcm, _, hcell⟩
  · simp only [List.cons.injEq, Value.slice.injEq, and_true] at h1
    obtain ⟨rfl, rfl, rfl⟩ := h1
    exact ⟨[], rfl, fun k hk => absurd hk (by simp), by simp, fun M hM => by cases hM⟩
  · simp only [List.cons.injEq, Value.slice.injEq, and_true] at h1
    obtain ⟨rfl, rfl, rfl⟩ := h1
    refine ⟨(List.range n).map fun r => (Z r).take (L r), by simp, fun k hk => ?_, by simp; omega, ?_⟩
    · have hk' : k < n := by simpa using hk
      obtain ⟨g1, g2, g3, g4, g5, g6, g7⟩ := hcell k (by omega)
      have hb := World.block_lt_of_cell? W _ g1
      have hbl : (a.add k).block = a.block := by unfold Addr.add; split <;> rfl
      rw [hbl] at hb
      have hl : ((Z k).take (L k)).length = L k := by rw [List.length_take]; omega
      have hget : ((List.range n).map fun r => (Z r).take (L r))[k] = (Z k).take (L k) := by simp
      rw [hget]
      refine ⟨a, A' k, C k, rfl, hb, by rw [hl]; exact g1, by rw [hl]; omega, fun j hj => ?_⟩
      rw [hl] at hj
      cases hA : A' k with
      | none => have := g6 hA; omega
      | some a' =>
        have q1 := (g7 a' hA).2 j (by omega)
        have hb2 := World.block_lt_of_cell? W _ q1
        have hbl2 : (a'.add j).block = a'.block := by unfold Addr.add; split <;> rfl
        rw [hbl2] at hb2
        refine ⟨a', rfl, hb2, ?_⟩
        rw [q1]
        simp [show j < (Z k).length by omega]
    · intro M hM z hz
      obtain ⟨r, hr, rfl⟩ := List.mem_map.1 hM
      obtain ⟨g1, g2, g3, g4, g5, g6, g7⟩ := hcell r (by have := List.mem_range.1 hr; omega)
      exact g5 z (List.mem_of_mem_take hz)
theorem infoN : (Try.prog.info? 3).map (fun i => (i.zero, i.size, i.bytes)) = some (some (.int .i64 0), 1, 8) := by kernel_rfl
theorem infoRow : (Try.prog.info? 43).map (fun i => (i.zero, i.size, i.bytes)) = some (some (.slice none 0 0), 1, 24) := by kernel_rfl
theorem ints_set {M : List Int} {zs : List Value} (hz : zs.length = M.length) (k : Nat) (hk : k < M.length) : (ints (M.take k) ++ zs.drop k).set k (.int .i64 M[k]) = ints (M.take (k + 1)) ++ zs.drop (k + 1) := by
  have h1 : (ints (M.take k)).length = k := by rw [ints_len, List.length_take]; omega
  have h2 : (zs.drop k).set 0 (.int .i64 M[k]) = .int .i64 M[k] :: zs.drop (k + 1) := by
    rw [List.drop_eq_getElem_cons (by omega)]; rfl
  rw [List.set_append_right _ _ (by omega), h1, Nat.sub_self, h2, List.take_succ_eq_append_getElem hk, ints_snoc, List.append_assoc]
  rfl
set_option maxRecDepth 100000 in
set_option maxHeartbeats 1600000 in
theorem toI_any (A : Option Addr) (c : Nat) (M : List Int) (w : World) (hA : ArgI w A M) (hL : M.length ≤ 1048576) :
    Calls Try.prog 55 #[.slice A M.length c] w fun e w' => e = .returned (.slice (some ⟨w.heap.size, 0, none⟩) M.length M.length) ∧ w'.ownsRow w.heap.size 3 1 (.slice (some ⟨w.heap.size, 0, none⟩) M.length M.length) M.length (ints M) ∧ Below w.heap.size w w' := by
  obtain ⟨i0, hi0, hz0, hz1, hz2⟩ := info_parts infoN
  have hmk : ∀ w, (Instr.makeSlice 43 (.int .i64 (M.length : Int)) (.int .i64 (M.length : Int))).run Try.prog w = .ok (.slice (some ⟨w.heap.size, 0, none⟩) M.length M.length) (w.alloc (.cells (madeCells #[.int .i64 0] M.length) 3)) := fun w => by
    have h := run_make (P := Try.prog) w 43 3 i0 _ Try.underlying43 hi0 hz0 .i64 .i64 (M.length : Int) (M.length : Int) (by omega) (Int.le_refl _) (by rw [hz2]; omega) (by omega)
    rw [hz1] at h
    simpa [Value.cells, Nat.mul_one] using h
  have hown := World.ownsRow_lit (base := w.heap.size) (e := 3) (size := 1) w (madeCells #[.int .i64 0] M.length) M.length (Nat.le_refl _) (by unfold maxLen; omega) ((size_madeCells _ _).trans (Nat.mul_one _).symm)
  have hzl : (madeCells #[.int .i64 0] M.length).toList.length = M.length := by rw [Array.length_toList, size_madeCells]
  have hb0 := below1 w (.cells (madeCells #[.int .i64 0] M.length) 3)
  have HA := Lib.hid hA; clear hA
  go_enter Try.func55, Try.ntmps55
  go_wp2_with fail
  generalize (madeCells #[.int .i64 0] M.length).toList = zs at *
  generalize w.alloc (.cells (madeCells #[.int .i64 0] M.length) 3) = w1 at *
  clear hmk
  go_loopw [4] (fun i wr => ∃ k : Nat, k ≤ M.length ∧ i = .int .i64 k ∧ wr.ownsRow w.heap.size 3 1 (.slice (some ⟨w.heap.size, 0, none⟩) M.length M.length) M.length (ints (M.take k) ++ zs.drop k) ∧ Below w.heap.size w wr) (fun i _ => M.length - (intOf i).toNat)
  case atStart => exact ⟨0, Nat.zero_le _, rfl, by simpa [ints] using hown, hb0⟩
  case round =>
    obtain ⟨wo, rfl⟩ : ∃ wo : World, wo = wr := ⟨_, rfl⟩
    clear hown
    obtain ⟨k, hk, rfl, hown, hb⟩ := hrel
    by_cases hlt : k < M.length
    · obtain ⟨a, rfl, hl, h1⟩ := HA.out k hlt
      have c1 := cell_on hb rfl h1
      have hs := ints_set hzl k hlt
      obtain ⟨x, hx⟩ : ∃ x, x = M[k] := ⟨_, rfl⟩
      rw [← hx] at c1 hs
      have HS := Lib.hid hs
      clear hs h1 hx
      obtain ⟨u1, d1⟩ := cell_some1 hown k hlt
      have f1 := hown.frozenAt k
      have own3 := (hown.stored k (.int .i64 x)).1
      rw [HS.out] at own3
      have b4 := hb.setCell (p := ⟨w.heap.size, k, none⟩) (Nat.le_refl _) (.int .i64 x)
      have R := Lib.hid (And.intro own3 b4)
      clear own3 b4
      go_wp2_with fail
      go_roundw
      case rel => exact ⟨k + 1, by omega, by go_num, R.out.1, R.out.2⟩
      case measure => simp [intOf]; omega
    · obtain rfl : k = M.length := by omega
      rw [List.drop_of_length_le (by omega), List.take_of_length_le (Nat.le_refl _), List.append_nil] at hown
      have R := Lib.hid hown
      clear hown
      go_wp2_with fail
      go_ret
      exact ⟨rfl, R.out, hb⟩
theorem hdrs_set {Qs : List Rw} {r : Rw} {zs : List Value} {n k : Nat} (hz : zs.length = n) (hq : Qs.length = k) (hk : k < n) : (Qs.map hdr ++ zs.drop k).set k (hdr r) = (Qs ++ [r]).map hdr ++ zs.drop (k + 1) := by
  have h1 : (Qs.map hdr).length = k := by rw [List.length_map, hq]
  have h2 : (zs.drop k).set 0 (hdr r) = hdr r :: zs.drop (k + 1) := by
    rw [List.drop_eq_getElem_cons (by omega)]; rfl
  rw [List.set_append_right _ _ (by omega), h1, Nat.sub_self, h2, List.map_append, List.append_assoc]
  rfl
/-- Rows that are owned, no two in one block. -/
structure Owned (w : World) (B : Nat) (Rs : List Rw) : Prop where
  row : ∀ r ∈ Rs, w.ownsRow B 3 1 (hdr r) r.M.length (ints r.M)
  nodup : (Rs.map Rw.g).Nodup
theorem Owned.below {w w' : World} {B : Nat} {Rs : List Rw} (h : Owned w B Rs) (hb : Below w.heap.size w w') : Owned w' B Rs := ⟨fun r hr => own_below (h.row r hr) hb, h.nodup⟩
theorem Owned.lt {w : World} {B : Nat} {Rs : List Rw} (h : Owned w B Rs) {r : Rw} (hr : r ∈ Rs) : B ≤ r.g ∧ r.g < w.heap.size := (h.row r hr).lt r.g rfl
theorem Owned.set {w : World} {B : Nat} {Rs : List Rw} (h : Owned w B Rs) (g j : Nat) (u : Value) (hg : g < B) : Owned (w.setCell ⟨g, j, none⟩ u) B Rs :=
  ⟨fun r hr => (h.row r hr).kept (only_set (World.grownBy.refl w (some g)) j u) (.inr (fun e => by
    have e2 : r.g = g := Option.some.inj (by rw [← e, hdr_own])
    have := (h.lt hr).1; omega)), h.nodup⟩
theorem Owned.snoc {w w' : World} {B : Nat} {Rs : List Rw} {r : Rw} (h : Owned w B Rs) (hb : Below w.heap.size w w') (hr : w'.ownsRow B 3 1 (hdr r) r.M.length (ints r.M)) (hlo : w.heap.size ≤ r.g) : Owned w' B (Rs ++ [r]) := by
  refine ⟨fun x hx => ?_, ?_⟩
  · rcases List.mem_append.1 hx with hx | hx
    · exact own_below (h.row x hx) hb
    · rw [List.mem_singleton.1 hx]; exact hr
  · rw [List.map_append]
    refine List.nodup_append.2 ⟨h.nodup, by simp, ?_⟩
    intro a ha b hb' e
    obtain ⟨x, hx, rfl⟩ := List.mem_map.1 ha
    simp only [List.map_cons, List.map_nil, List.mem_singleton] at hb'
    have := (h.lt hx).2
    omega
theorem k_w' {k n : Nat} (hk : k ≤ n) (hn : n ≤ 1048576) : wrap64 ((k : Int) + 1) = (k : Int) + 1 ∧ IntKind.i64.wrap ((k : Int) + 1) = (k : Int) + 1 := ⟨IntWalk.wrap64_in _ (by omega), IntWalk.i64_in _ (by omega)⟩
end Go.Proofs.Ytncahchhinfneaa

/-! ArgI9 -/
namespace Go.Proofs.Ytncahchhinfneaa
open Go.RowKit

theorem view_ints {H : Type} {enc : TypeId × Value → H} {P : Program} {W : World} {t e : TypeId} {fuel : Nat} {A : Option Addr} {n c : Nat} {x : DataW H × List MemPlace}
    (ht : P.underlying t = some (.slice e)) (he : P.underlying e = some (.int .i64)) (ce : P.cellsOf e = 1)
    (h : DataW.trod enc P W 0 (fun _ => true) true fuel t [.slice A n c] = some x) : ∃ M : List Int, n = M.length ∧ ArgI W A M ∧ M.length ≤ maxLen := by
  rcases Go.ChangeShapes.open_ints ht he ce h with ⟨h1, _⟩ | ⟨a, len, cap, zs, h1, _, hlc, hcm, hz, _, hcell, _⟩
  · simp only [List.cons.injEq, Value.slice.injEq, and_true] at h1
    obtain ⟨rfl, rfl, rfl⟩ := h1
    exact ⟨[], rfl, fun k hk => absurd hk (by simp), by simp⟩
  · simp only [List.cons.injEq, Value.slice.injEq, and_true] at h1
    obtain ⟨rfl, rfl, rfl⟩ := h1
    simp only [if_true] at hz
    have hl : (zs.take n).length = n := by rw [List.length_take]; omega
    refine ⟨zs.take n, hl.symm, fun k hk => ?_, by omega⟩
    have g1 := hcell k (by omega)
    have hb := World.block_lt_of_cell? W _ g1
    have hbl : (a.add k).block = a.block := by unfold Addr.add; split <;> rfl
    rw [hbl] at hb
    refine ⟨a, rfl, hb, ?_⟩
    rw [g1]
    have hk' : k < zs.length := by omega
    simp [hk']

end Go.Proofs.Ytncahchhinfneaa

/-! Law10B -/
namespace Go.Proofs.Ytncahchhinfneaa
open Go.RowKit

set_option maxRecDepth 100000 in
set_option maxHeartbeats 4000000 in
theorem ex_match (w h : Int) (AX : Option Addr) (cX : Nat) (X : List Int) (AY : Option Addr) (cY : Nat) (Y : List Int) (W : World) (hX : ArgI W AX X) (_lX : X.length ≤ maxLen) (hY : ArgI W AY Y) (_lY : Y.length ≤ maxLen) :
    Calls Try.prog 7 #[.int .i64 w, .int .i64 h, .slice AX X.length cX, .slice AY Y.length cY] W fun e w' => e = .returned (.bool true) ∧ Below W.heap.size W w' := by
  by_cases hsX : X.length ≤ 1048576
  case neg =>
    have hq : ((1048576 : Int) < (X.length : Int)) := by omega
    clear hX hY hsX
    unfold maxLen at *
    go_enter Try.func7, Try.ntmps7
    go_wp2_with fail
    go_ret
    exact ⟨rfl, Below.refl _ _⟩
  by_cases hsY : Y.length ≤ 1048576
  case neg =>
    have hq : ((1048576 : Int) < (Y.length : Int)) := by omega
    have hpX : ¬ ((1048576 : Int) < (X.length : Int)) := by omega
    clear hX hY hsX hsY
    unfold maxLen at *
    go_enter Try.func7, Try.ntmps7
    go_wp2_with fail
    go_ret
    exact ⟨rfl, Below.refl _ _⟩
  have HS := Lib.hid (fun AX cX AY cY W hX hY => spec_match w h AX cX X AY cY Y W hX hY hsX hsY)
  have HI := Lib.hid (fun AX cX AY cY W hX hY => impl_match w h AX cX X AY cY Y W hX hY hsX hsY)
  have HTX := Lib.hid (fun W h => toI_any AX cX X W h hsX)
  have HAX := Lib.hid hX
  have hnX : ¬ ((1048576 : Int) < (X.length : Int)) := by omega
  have HZX := Lib.hid hsX
  have HTY := Lib.hid (fun W h => toI_any AY cY Y W h hsY)
  have HAY := Lib.hid hY
  have hnY : ¬ ((1048576 : Int) < (Y.length : Int)) := by omega
  have HZY := Lib.hid hsY
  clear hX _lX hsX hY _lY hsY
  go_enter Try.func7, Try.ntmps7
  go_wp2_with fail
  refine (HTX.out _ HAX.out).mono ?_
  rintro e w1 ⟨rfl, osX, hb1⟩
  have b1 := hb1
  clear hb1
  go_wp2_with fail
  refine (HTY.out _ (HAY.out.step b1)).mono ?_
  rintro e w2 ⟨rfl, osY, hb2⟩
  have ap_osX_osY := own_apart_g osX (Nat.le_refl _) osY
  have ap_osY_osX := own_apart_g' osX (Nat.le_refl _) osY
  have b2 := below_on b1 hb2
  replace osX := own_below osX hb2
  replace osY := own_base osY b1.size
  clear hb2 b1
  go_wp2_with fail
  have psX := intsA_of osX
  have psY := intsA_of osY
  clear osX ap_osX_osY ap_osY_osX
  clear osY
  refine (HS.out _ _ _ _ _ psX psY).mono ?_
  rintro e w3 ⟨⟨L, y⟩, v2, rfl, hL, own2, hb3⟩
  simp only at own2
  have HL := Lib.hid hL
  have HMM : Hid (L.length ≤ 1048576) := by
    show _ ≤ _
    have := hL.le
    rw [kinds_len] at this
    have := HZX.out
    simp only at *
    omega
  clear hL
  have b3 := below_on b2 hb3
  replace own2 := own_base own2 b2.size
  clear hb3 b2
  clear psX psY
  go_wp2_with fail
  refine (HTX.out _ (HAX.out.step b3)).mono ?_
  rintro e w4 ⟨rfl, oxX, hb4⟩
  have ap_own2_oxX := own_apart_g own2 (Nat.le_refl _) oxX
  have ap_oxX_own2 := own_apart_g' own2 (Nat.le_refl _) oxX
  have b4 := below_on b3 hb4
  replace own2 := own_below own2 hb4
  replace oxX := own_base oxX b3.size
  clear hb4 b3
  go_wp2_with fail
  refine (HTY.out _ (HAY.out.step b4)).mono ?_
  rintro e w5 ⟨rfl, oxY, hb5⟩
  have ap_own2_oxY := own_apart_g own2 (Nat.le_refl _) oxY
  have ap_oxY_own2 := own_apart_g' own2 (Nat.le_refl _) oxY
  have ap_oxX_oxY := own_apart_g oxX (Nat.le_refl _) oxY
  have ap_oxY_oxX := own_apart_g' oxX (Nat.le_refl _) oxY
  have b5 := below_on b4 hb5
  replace own2 := own_below own2 hb5
  replace oxX := own_below oxX hb5
  replace oxY := own_base oxY b4.size
  clear hb5 b4
  go_wp2_with fail
  have psX := intsA_of oxX
  have psY := intsA_of oxY
  refine (HI.out _ _ _ _ _ psX psY).mono ?_
  rintro e w6 ⟨⟨L', y'⟩, v4, rfl, hL', own4, hb6⟩
  simp only at own4
  have hq := HL.out.uniq hL'
  simp only [Prod.mk.injEq] at hq
  obtain ⟨rfl, rfl⟩ := hq
  clear hL'
  have ap_own2_own4 := own_apart_g own2 (Nat.le_refl _) own4
  have ap_own4_own2 := own_apart_g' own2 (Nat.le_refl _) own4
  have ap_oxX_own4 := own_apart_g oxX (Nat.le_refl _) own4
  have ap_own4_oxX := own_apart_g' oxX (Nat.le_refl _) own4
  have ap_oxY_own4 := own_apart_g oxY (Nat.le_refl _) own4
  have ap_own4_oxY := own_apart_g' oxY (Nat.le_refl _) own4
  have b6 := below_on b5 hb6
  replace own2 := own_below own2 hb6
  replace oxX := own_below oxX hb6
  replace oxY := own_below oxY hb6
  replace own4 := own_base own4 b5.size
  clear hb6 b5
  clear psX psY
  obtain ⟨_, A4, c4, rfl, -⟩ := own_ints own4
  obtain ⟨_, A2, c2, rfl, -⟩ := own_ints own2
  go_wp2_with fail
  refine (eq_ints _ _ _ _ L _ (intsA_of own4) (intsA_of own2) HMM.out).mono ?_
  rintro e w7 ⟨rfl, hb7⟩
  have b7 := below_on b6 hb7
  replace own2 := own_below own2 hb7
  replace oxX := own_below oxX hb7
  replace oxY := own_below oxY hb7
  replace own4 := own_below own4 hb7
  clear hb7 b6
  go_wp2_with fail
  refine (HTX.out _ (HAX.out.step b7)).mono ?_
  rintro e w8 ⟨rfl, oy, hb8⟩
  have ap_own2_oy := own_apart_g own2 (Nat.le_refl _) oy
  have ap_oy_own2 := own_apart_g' own2 (Nat.le_refl _) oy
  have ap_oxX_oy := own_apart_g oxX (Nat.le_refl _) oy
  have ap_oy_oxX := own_apart_g' oxX (Nat.le_refl _) oy
  have ap_oxY_oy := own_apart_g oxY (Nat.le_refl _) oy
  have ap_oy_oxY := own_apart_g' oxY (Nat.le_refl _) oy
  have ap_own4_oy := own_apart_g own4 (Nat.le_refl _) oy
  have ap_oy_own4 := own_apart_g' own4 (Nat.le_refl _) oy
  have b8 := below_on b7 hb8
  replace own2 := own_below own2 hb8
  replace oxX := own_below oxX hb8
  replace oxY := own_below oxY hb8
  replace own4 := own_below own4 hb8
  replace oy := own_base oy b7.size
  clear hb8 b7
  go_wp2_with fail
  refine (eq_ints _ _ _ _ X _ (intsA_of oxX) (intsA_of oy) HZX.out).mono ?_
  rintro e w9 ⟨rfl, hb9⟩
  have b9 := below_on b8 hb9
  replace own2 := own_below own2 hb9
  replace oxX := own_below oxX hb9
  replace oxY := own_below oxY hb9
  replace own4 := own_below own4 hb9
  replace oy := own_below oy hb9
  clear hb9 b8
  clear oy ap_own2_oy ap_own4_oy ap_oxX_oy ap_oxY_oy ap_oy_own2 ap_oy_own4 ap_oy_oxX ap_oy_oxY
  go_wp2_with fail
  refine (HTY.out _ (HAY.out.step b9)).mono ?_
  rintro e w10 ⟨rfl, oy, hb10⟩
  have ap_own2_oy := own_apart_g own2 (Nat.le_refl _) oy
  have ap_oy_own2 := own_apart_g' own2 (Nat.le_refl _) oy
  have ap_oxX_oy := own_apart_g oxX (Nat.le_refl _) oy
  have ap_oy_oxX := own_apart_g' oxX (Nat.le_refl _) oy
  have ap_oxY_oy := own_apart_g oxY (Nat.le_refl _) oy
  have ap_oy_oxY := own_apart_g' oxY (Nat.le_refl _) oy
  have ap_own4_oy := own_apart_g own4 (Nat.le_refl _) oy
  have ap_oy_own4 := own_apart_g' own4 (Nat.le_refl _) oy
  have b10 := below_on b9 hb10
  replace own2 := own_below own2 hb10
  replace oxX := own_below oxX hb10
  replace oxY := own_below oxY hb10
  replace own4 := own_below own4 hb10
  replace oy := own_base oy b9.size
  clear hb10 b9
  go_wp2_with fail
  refine (eq_ints _ _ _ _ Y _ (intsA_of oxY) (intsA_of oy) HZY.out).mono ?_
  rintro e w11 ⟨rfl, hb11⟩
  have b11 := below_on b10 hb11
  replace own2 := own_below own2 hb11
  replace oxX := own_below oxX hb11
  replace oxY := own_below oxY hb11
  replace own4 := own_below own4 hb11
  replace oy := own_below oy hb11
  clear hb11 b10
  clear oy ap_own2_oy ap_own4_oy ap_oxX_oy ap_oxY_oy ap_oy_own2 ap_oy_own4 ap_oy_oxX ap_oy_oxY
  go_wp2_with fail
  refine (markS_ints _ _ _ _ (1) _ oxX HZX.out (by omega) (by have := HZX.out; have := HZX.out; have := HZY.out; omega)).mono ?_
  rintro e w12 ⟨rfl, own_m, hg12⟩
  have b12 := b11.grown hg12 b11.size (fun k hk => (oxX.lt k hk).1)
  replace own2 := own2.kept hg12 ap_own2_oxX
  replace oxY := oxY.kept hg12 ap_oxY_oxX
  replace own4 := own4.kept hg12 ap_own4_oxX
  clear hg12 b11
  clear own_m
  clear oxX ap_own2_oxX ap_own4_oxX ap_oxX_own2 ap_oxX_own4 ap_oxX_oxY ap_oxY_oxX
  go_wp2_with fail
  refine (markS_ints _ _ _ _ (1 + (X.length : Int)) _ oxY HZY.out (by omega) (by have := HZY.out; have := HZX.out; have := HZY.out; omega)).mono ?_
  rintro e w13 ⟨rfl, own_m, hg13⟩
  have b13 := b12.grown hg13 b12.size (fun k hk => (oxY.lt k hk).1)
  replace own2 := own2.kept hg13 ap_own2_oxY
  replace own4 := own4.kept hg13 ap_own4_oxY
  clear hg13 b12
  clear own_m
  clear oxY ap_own2_oxY ap_own4_oxY ap_oxY_own2 ap_oxY_own4
  go_wp2_with fail
  refine (eq_ints _ _ _ _ L _ (intsA_of own4) (intsA_of own2) HMM.out).mono ?_
  rintro e w14 ⟨rfl, hb14⟩
  have b14 := below_on b13 hb14
  replace own2 := own_below own2 hb14
  replace own4 := own_below own4 hb14
  clear hb14 b13
  go_wp2_with fail
  refine (mark_ints _ _ _ _ _ own4 HMM.out).mono ?_
  rintro e w15 ⟨rfl, own_m, hg15⟩
  have b15 := b14.grown hg15 b14.size (fun k hk => (own4.lt k hk).1)
  replace own2 := own2.kept hg15 ap_own2_own4
  clear hg15 b14
  clear own4 ap_own2_own4 ap_own4_own2
  go_wp2_with fail
  refine (held_ints _ _ _ _ own_m HMM.out).mono ?_
  rintro e w16 ⟨rfl, rfl⟩
  go_wp2_with fail
  refine (HTX.out _ (HAX.out.step b15)).mono ?_
  rintro e w17 ⟨rfl, ozX, hb17⟩
  have ap_own2_ozX := own_apart_g own2 (Nat.le_refl _) ozX
  have ap_ozX_own2 := own_apart_g' own2 (Nat.le_refl _) ozX
  have ap_own_m_ozX := own_apart_g own_m (Nat.le_refl _) ozX
  have ap_ozX_own_m := own_apart_g' own_m (Nat.le_refl _) ozX
  have b17 := below_on b15 hb17
  replace own2 := own_below own2 hb17
  replace own_m := own_below own_m hb17
  replace ozX := own_base ozX b15.size
  clear hb17 b15
  go_wp2_with fail
  refine (HTY.out _ (HAY.out.step b17)).mono ?_
  rintro e w18 ⟨rfl, ozY, hb18⟩
  have ap_own2_ozY := own_apart_g own2 (Nat.le_refl _) ozY
  have ap_ozY_own2 := own_apart_g' own2 (Nat.le_refl _) ozY
  have ap_own_m_ozY := own_apart_g own_m (Nat.le_refl _) ozY
  have ap_ozY_own_m := own_apart_g' own_m (Nat.le_refl _) ozY
  have ap_ozX_ozY := own_apart_g ozX (Nat.le_refl _) ozY
  have ap_ozY_ozX := own_apart_g' ozX (Nat.le_refl _) ozY
  have b18 := below_on b17 hb18
  replace own2 := own_below own2 hb18
  replace own_m := own_below own_m hb18
  replace ozX := own_below ozX hb18
  replace ozY := own_base ozY b17.size
  clear hb18 b17
  go_wp2_with fail
  have psX := intsA_of ozX
  have psY := intsA_of ozY
  clear ozX ap_own2_ozX ap_own_m_ozX ap_ozX_own2 ap_ozX_own_m ap_ozX_ozY ap_ozY_ozX
  clear ozY ap_own2_ozY ap_own_m_ozY ap_ozY_own2 ap_ozY_own_m
  refine (HI.out _ _ _ _ _ psX psY).mono ?_
  rintro e w19 ⟨⟨L', y'⟩, v13, rfl, hL', own13, hb19⟩
  simp only at own13
  have hq := HL.out.uniq hL'
  simp only [Prod.mk.injEq] at hq
  obtain ⟨rfl, rfl⟩ := hq
  clear hL'
  have ap_own2_own13 := own_apart_g own2 (Nat.le_refl _) own13
  have ap_own13_own2 := own_apart_g' own2 (Nat.le_refl _) own13
  have ap_own_m_own13 := own_apart_g own_m (Nat.le_refl _) own13
  have ap_own13_own_m := own_apart_g' own_m (Nat.le_refl _) own13
  have b19 := below_on b18 hb19
  replace own2 := own_below own2 hb19
  replace own_m := own_below own_m hb19
  replace own13 := own_base own13 b18.size
  clear hb19 b18
  clear psX psY
  obtain ⟨_, A13, c13, rfl, -⟩ := own_ints own13
  go_wp2_with fail
  refine (eq_ints _ _ _ _ L _ (intsA_of own13) (intsA_of own2) HMM.out).mono ?_
  rintro e w20 ⟨rfl, hb20⟩
  have b20 := below_on b19 hb20
  replace own2 := own_below own2 hb20
  replace own_m := own_below own_m hb20
  replace own13 := own_below own13 hb20
  clear hb20 b19
  go_wp2_with fail
  refine (held_ints _ _ _ _ own_m HMM.out).mono ?_
  rintro e w21 ⟨rfl, rfl⟩
  go_wp2_with fail
  go_ret
  exact ⟨rfl, b20⟩
end Go.Proofs.Ytncahchhinfneaa

/-! Pcs9 -/
namespace Go.Proofs.Ytncahchhinfneaa
open Go.RowKit

def PV (w h M : Int) (cut L : List Int) : Prop := (CutP w h M cut ∧ L = pieV w h M cut) ∨ (¬ CutP w h M cut ∧ L = [])
theorem PV.uniq {w h M : Int} {cut L L' : List Int} (h1 : PV w h M cut L) (h2 : PV w h M cut L') : L = L' := by
  rcases h1 with ⟨a, rfl⟩ | ⟨a, rfl⟩ <;> rcases h2 with ⟨b, rfl⟩ | ⟨b, rfl⟩
  · rfl
  · exact absurd a b
  · exact absurd b a
  · rfl
/-- What is known where a cut is one. -/
structure CutAt (w h M : Int) (cut : List Int) (a b m n : Nat) (C : List Nat) : Prop where
  ew : w = a
  eh : h = b
  em : M = m
  ec : cut = castL C
  en : n = a * b
  a6 : 1 ≤ a ∧ a ≤ 6
  b6 : 1 ≤ b ∧ b ≤ 6
  lt : m < 2 ^ n
  n36 : n ≤ 36
  ix : idxV w h M = idxL m n
  len : (idxL m n).length = C.length
  l1 : 1 ≤ C.length
  l9 : C.length ≤ 9
  num : numF 0 C = true
  pc : pc 64 m = C.length
  shape : shapeB a b m = true
theorem cutAt_of {w h M : Int} {cut : List Int} (hc : CutP w h M cut) : ∃ a b m n C, CutAt w h M cut a b m n C := by
  obtain ⟨h1, h2, h3, h4⟩ := hc
  obtain ⟨a, b, m, n, rfl, rfl, rfl, hab, ha1, ha2, hb1, hb2, hm, hn36, hix, hpc, hl1, hl9, hS⟩ := okC_nat h1
  obtain ⟨C, rfl, hC, hCl⟩ := numV_some h3
  rw [castL_len, hix] at h2
  exact ⟨a, b, m, n, C, rfl, rfl, rfl, rfl, hab, ⟨ha1, ha2⟩, ⟨hb1, hb2⟩, hm, hn36, hix, h2.symm, by omega, by omega, hC, by omega, hS⟩
theorem CutAt.pie {w h M : Int} {cut : List Int} {a b m n : Nat} {C : List Nat} (k : CutAt w h M cut a b m n C) : pieV w h M cut = castL (uniF [] (idxL m n) C) := by
  rw [k.ec, pieV_cast, k.ix]
theorem CutAt.le {w h M : Int} {cut : List Int} {a b m n : Nat} {C : List Nat} (k : CutAt w h M cut a b m n C) : (uniF [] (idxL m n) C).length ≤ 9 := by
  have := uni_ge k.len k.num
  have := k.l9
  omega
theorem CutAt.plt {w h M : Int} {cut : List Int} {a b m n : Nat} {C : List Nat} (k : CutAt w h M cut a b m n C) : ∀ p ∈ uniF [] (idxL m n) C, p < 2 ^ n := uni_lt k.len k.num
/-- The pieces as whole numbers, each a shape of the table. -/
def PVN (w h M : Int) (cut : List Int) (P : List Nat) : Prop := PV w h M cut (castL P) ∧ P.length ≤ 9 ∧ ∀ p ∈ P, shapeB w h (p : Nat) = true
theorem pvn_of {w h M : Int} {cut L : List Int} (hL : PV w h M cut L) : ∃ P, L = castL P ∧ PVN w h M cut P := by
  rcases hL with ⟨hc, rfl⟩ | ⟨hc, rfl⟩
  · obtain ⟨a, b, m, n, C, k⟩ := cutAt_of hc
    refine ⟨_, k.pie, .inl ⟨hc, k.pie.symm⟩, k.le, fun p hp => ?_⟩
    rw [k.ew, k.eh]
    exact shape_of_lt k.en k.a6 k.b6 p (k.plt p hp)
  · exact ⟨[], rfl, .inr ⟨hc, rfl⟩, by simp, fun p hp => by cases hp⟩
def PieQ (w h M : Int) (cut : List Int) (W : World) (e : Ending) (w' : World) : Prop := ∃ P, PVN w h M cut P ∧ ListsI W (castL P) e w'

set_option maxRecDepth 100000 in
set_option maxHeartbeats 2000000 in
theorem impl_pieces (w h M : Int) (A : Option Addr) (c : Nat) (cut : List Int) (W : World) (hA : IntsA W A cut) (hL : cut.length ≤ 1048576) :
    Calls Try.prog 127 #[.int .i64 w, .int .i64 h, .int .i64 M, .slice A cut.length c] W (PieQ w h M cut W) := by
  have HC := Lib.hid (impl_cutOk w h M A c cut W hA hL)
  have R0 : Hid (∀ w1, Below W.heap.size W w1 → ¬ CutP w h M cut → PieQ w h M cut W (.returned (.slice none 0 0)) w1) := fun w1 hb hn => ⟨[], ⟨.inr ⟨hn, rfl⟩, by simp, fun p hp => by cases hp⟩, _, rfl, World.ownsRow_nil _ _ _ _, hb⟩
  by_cases hc : CutP w h M cut
  · have HTO := Lib.hid (fun W => cellsTo_any w h M W)
    obtain ⟨a, b, m, n, C, k⟩ := cutAt_of hc
    have R1 : Hid (∀ e w1 w2, Below W.heap.size W w1 → ListsI w1 (castL (uniF [] (idxL m n) C)) e w2 → PieQ w h M cut W e w2) := fun e w1 w2 hb hl => ⟨uniF [] (idxL m n) C, by
      obtain ⟨P, hP, hPV⟩ := pvn_of (.inl ⟨hc, rfl⟩ : PV w h M cut (pieV w h M cut))
      rw [k.pie] at hP
      rw [castL_inj hP]; exact hPV, by
      obtain ⟨v, rfl, own, hb2⟩ := hl
      exact ⟨v, rfl, own_base own hb.size, below_on hb hb2⟩⟩
    have HU := Lib.hid (fun A1 c1 W h1 h2 => unite_any A1 A c1 c (idxL m n) C W h1 h2 k.len k.l9 (idx36 k.n36) k.num)
    have hcc : cutCells w h M = castL ((idxL m n).map (2 ^ ·)) := by unfold cutCells; rw [hc.1, k.ix]; rfl
    rw [hcc] at HTO
    have hkk : (castL ((idxL m n).map (2 ^ ·))).length = cut.length := by rw [castL_len, List.length_map, k.len, k.ec, castL_len]
    have HCQ := Lib.hid hc
    obtain ⟨kw, kh, km, kc⟩ := And.intro k.ew (And.intro k.eh (And.intro k.em k.ec))
    have hlen : cut.length = C.length := by rw [kc, castL_len]
    rw [← hlen, ← kc] at HU
    subst kw; subst kh; subst km
    have HA := Lib.hid hA
    clear hA hc k kc hlen hcc R0
    go_enter Try.func127, Try.ntmps127
    go_wp2_with fail
    refine HC.out.mono ?_
    rintro e w1 ⟨v, rfl, hv, hb⟩
    obtain rfl := hv.2 HCQ.out
    clear hv
    go_wp2_with fail
    refine (HTO.out _).mono ?_
    rintro e w2 ⟨v, rfl, own, hb2⟩
    rw [hkk] at own
    obtain ⟨A1, c1, rfl⟩ : ∃ A1 c1, v = .slice A1 cut.length c1 := by
      obtain ⟨A1, c1, e⟩ := own_castL own
      exact ⟨A1, c1, e⟩
    have hb3 := below_on hb hb2
    have H1 := Lib.hid (HU.out A1 c1 w2 (intsA_of own) (intsA_on HA.out hb3))
    have HB := Lib.hid hb3
    clear hb hb2 hb3 own
    go_wp2_with fail
    refine H1.out.mono ?_
    intro e w3 hl
    have RR := Lib.hid (R1.out _ _ _ HB.out hl)
    obtain ⟨v, rfl, -, -⟩ := hl
    go_wp2_with fail
    go_ret
    exact RR.out
  · have HCQ := Lib.hid hc
    clear hA hc
    go_enter Try.func127, Try.ntmps127
    go_wp2_with fail
    refine HC.out.mono ?_
    rintro e w1 ⟨v, rfl, hv, hb⟩
    obtain rfl : v = false := by
      cases v
      · rfl
      · exact absurd (hv.1 rfl) HCQ.out
    have RR := Lib.hid (R0.out _ hb HCQ.out)
    clear hv hb
    go_wp2_with fail
    go_ret
    exact RR.out
end Go.Proofs.Ytncahchhinfneaa

/-! PcsL10 -/
namespace Go.Proofs.Ytncahchhinfneaa
open Go.RowKit

theorem spec_l09 {w h M : Int} {cut : List Int} (hc : CutP w h M cut) : (pieV w h M cut).length ≤ 9 ∧ ∀ W A c, IntsA W A cut → Calls Try.prog 125 #[.int .i64 w, .int .i64 M, .slice A cut.length c] W (ListsI W (pieV w h M cut)) := by
  obtain ⟨a, b, m, n, C, k⟩ := cutAt_of hc
  rw [k.pie]
  refine ⟨by rw [castL_len]; exact k.le, fun W A c hA => ?_⟩
  have hlen : cut.length = C.length := by rw [k.ec, castL_len]
  rw [k.ew, k.em, hlen]
  rw [k.ec] at hA
  exact specPieces_any a m n A c C W k.a6 k.lt k.n36 hA k.len k.l9 k.num
theorem impl_l09 {w h M : Int} {cut : List Int} (hc : CutP w h M cut) (hL : cut.length ≤ 1048576) : ∀ W A c, IntsA W A cut → Calls Try.prog 127 #[.int .i64 w, .int .i64 h, .int .i64 M, .slice A cut.length c] W (ListsI W (pieV w h M cut)) := fun W A c hA => by
  refine (impl_pieces w h M A c cut W hA hL).mono ?_
  rintro e w1 ⟨P, hP, hl⟩
  have := hP.1.uniq (.inl ⟨hc, rfl⟩ : PV w h M cut (pieV w h M cut))
  rw [this] at hl
  exact hl
theorem pie_nat {w h M : Int} {cut : List Int} (hc : CutP w h M cut) : ∃ P : List Nat, pieV w h M cut = castL P ∧ P.length ≤ 9 ∧ (∀ p ∈ P, p < 2 ^ 36) ∧ ∀ p ∈ P, shapeB w h (p : Nat) = true := by
  obtain ⟨a, b, m, n, C, k⟩ := cutAt_of hc
  refine ⟨_, k.pie, k.le, fun p hp => Nat.lt_of_lt_of_le (k.plt p hp) (Nat.pow_le_pow_right (by omega) k.n36), fun p hp => ?_⟩
  rw [k.ew, k.eh]
  exact shape_of_lt k.en k.a6 k.b6 p (k.plt p hp)
end Go.Proofs.Ytncahchhinfneaa

/-! Dis10 -/
namespace Go.Proofs.Ytncahchhinfneaa
open Go.RowKit Go.Sort

def DisP (w h a b : Int) (X Y : List Int) : Prop := CutP w h a X ∧ CutP w h b Y ∧ (matchV (kindsV w h (pieV w h a X)) (kindsV w h (pieV w h b Y))).isSome = true
theorem MatP.ok {K L : List (Option Int)} {V : List Int × Bool} (h : MatP K L V) : V.2 = true ↔ (matchV K L).isSome = true := by
  rw [h.eq]
  cases matchV K L <;> simp
set_option maxRecDepth 100000 in
set_option maxHeartbeats 2000000 in
theorem spec_dis (w h a b : Int) (AX : Option Addr) (cX : Nat) (X : List Int) (AY : Option Addr) (cY : Nat) (Y : List Int) (W : World) (hX : IntsA W AX X) (hY : IntsA W AY Y) (lX : X.length ≤ 1048576) (lY : Y.length ≤ 1048576) :
    Calls Try.prog 60 #[.int .i64 w, .int .i64 h, .int .i64 a, .int .i64 b, .slice AX X.length cX, .slice AY Y.length cY] W fun e w' => ∃ v : Bool, e = .returned (.bool v) ∧ (v = true ↔ DisP w h a b X Y) ∧ Below W.heap.size W w' := by
  have H1 := Lib.hid (spec_cutOk w h a AX cX X W hX lX)
  have H2 := Lib.hid (fun W hY => spec_cutOk w h b AY cY Y W hY lY)
  have HX := Lib.hid hX
  have HY := Lib.hid hY
  by_cases hcX : CutP w h a X
  case neg =>
    have R : Hid (¬ DisP w h a b X Y) := fun d => hcX d.1
    have HC := Lib.hid hcX
    clear hX hY hcX
    go_enter Try.func60, Try.ntmps60
    go_wp2_with fail
    refine H1.out.mono ?_
    rintro e w1 ⟨v, rfl, hv, hb⟩
    obtain rfl : v = false := by
      cases v
      · rfl
      · exact absurd (hv.1 rfl) HC.out
    clear hv
    go_wp2_with fail
    go_ret
    exact ⟨false, rfl, ⟨fun h => (by cases h), fun d => absurd d R.out⟩, hb⟩
  by_cases hcY : CutP w h b Y
  case neg =>
    have R : Hid (¬ DisP w h a b X Y) := fun d => hcY d.2.1
    have HCX := Lib.hid hcX
    have HC := Lib.hid hcY
    clear hX hY hcX hcY
    go_enter Try.func60, Try.ntmps60
    go_wp2_with fail
    refine H1.out.mono ?_
    rintro e w1 ⟨v, rfl, hv, hb⟩
    obtain rfl := hv.2 HCX.out
    have H2' := Lib.hid (H2.out w1 (intsA_on HY.out hb))
    have HB := Lib.hid hb
    clear hv hb
    go_wp2_with fail
    refine H2'.out.mono ?_
    rintro e w2 ⟨v, rfl, hv, hb2⟩
    obtain rfl : v = false := by
      cases v
      · rfl
      · exact absurd (hv.1 rfl) HC.out
    have R2 := Lib.hid (below_on HB.out hb2)
    clear hv hb2
    go_wp2_with fail
    go_ret
    exact ⟨false, rfl, ⟨fun h => (by cases h), fun d => absurd d R.out⟩, R2.out⟩
  obtain ⟨lp1, hp1⟩ := spec_l09 hcX
  obtain ⟨lp2, hp2⟩ := spec_l09 hcY
  have P1 := Lib.hid hp1
  have P2 := Lib.hid hp2
  have R : Hid (∀ V, MatP (kindsV w h (pieV w h a X)) (kindsV w h (pieV w h b Y)) V → (V.2 = true ↔ DisP w h a b X Y)) := fun V hV => by
    rw [hV.ok]
    exact ⟨fun h => ⟨hcX, hcY, h⟩, fun d => d.2.2⟩
  have HCX := Lib.hid hcX
  have HCY := Lib.hid hcY
  clear hX hY hcX hcY hp1 hp2
  generalize pieV w h a X = PX at *
  generalize pieV w h b Y = PY at *
  have HM := Lib.hid (fun AX cX AY cY W hX hY => spec_match w h AX cX PX AY cY PY W hX hY (by omega) (by omega))
  go_enter Try.func60, Try.ntmps60
  go_wp2_with fail
  refine H1.out.mono ?_
  rintro e w1 ⟨v, rfl, hv, hb⟩
  obtain rfl := hv.2 HCX.out
  have H2' := Lib.hid (H2.out w1 (intsA_on HY.out hb))
  have HB := Lib.hid hb
  clear hv hb
  go_wp2_with fail
  refine H2'.out.mono ?_
  rintro e w2 ⟨v, rfl, hv, hb2⟩
  obtain rfl := hv.2 HCY.out
  have HB2 := Lib.hid (below_on HB.out hb2)
  have P1' := Lib.hid (P1.out w2 AX cX (intsA_on HX.out HB2.out))
  clear hv hb2 HB
  go_wp2_with fail
  refine P1'.out.mono ?_
  rintro e w3 ⟨v3, rfl, own3, hb3⟩
  have HB3 := Lib.hid (below_on HB2.out hb3)
  have P2' := Lib.hid (P2.out w3 AY cY (intsA_on HY.out HB3.out))
  clear hb3 HB2 P1'
  go_wp2_with fail
  refine P2'.out.mono ?_
  rintro e w4 ⟨v4, rfl, own4, hb4⟩
  have HB4 := Lib.hid (below_on HB3.out hb4)
  replace own3 := own_below own3 hb4
  obtain ⟨_, A3, c3, rfl, p3⟩ := own_ints own3
  obtain ⟨_, A4, c4, rfl, p4⟩ := own_ints own4
  have HM' := Lib.hid (HM.out A3 c3 A4 c4 w4 p3 p4)
  clear hb4 HB3 P2' own3 own4 p3 p4
  go_wp2_with fail
  refine HM'.out.mono ?_
  rintro e w5 ⟨V, v5, rfl, hV, -, hb5⟩
  have R5 := Lib.hid (And.intro (R.out V hV) (below_on HB4.out hb5))
  obtain ⟨V1, V2⟩ := V
  simp only at R5
  clear hb5 hV
  go_wp2_with fail
  go_ret
  exact ⟨V2, rfl, R5.out⟩
set_option maxRecDepth 100000 in
set_option maxHeartbeats 2000000 in
theorem impl_dis (w h a b : Int) (AX : Option Addr) (cX : Nat) (X : List Int) (AY : Option Addr) (cY : Nat) (Y : List Int) (W : World) (hX : IntsA W AX X) (hY : IntsA W AY Y) (lX : X.length ≤ 1048576) (lY : Y.length ≤ 1048576) :
    Calls Try.prog 61 #[.int .i64 w, .int .i64 h, .int .i64 a, .int .i64 b, .slice AX X.length cX, .slice AY Y.length cY] W fun e w' => ∃ v : Bool, e = .returned (.bool v) ∧ (v = true ↔ DisP w h a b X Y) ∧ Below W.heap.size W w' := by
  have H1 := Lib.hid (impl_cutOk w h a AX cX X W hX lX)
  have H2 := Lib.hid (fun W hY => impl_cutOk w h b AY cY Y W hY lY)
  have HX := Lib.hid hX
  have HY := Lib.hid hY
  by_cases hcX : CutP w h a X
  case neg =>
    have R : Hid (¬ DisP w h a b X Y) := fun d => hcX d.1
    have HC := Lib.hid hcX
    clear hX hY hcX
    go_enter Try.func61, Try.ntmps61
    go_wp2_with fail
    refine H1.out.mono ?_
    rintro e w1 ⟨v, rfl, hv, hb⟩
    obtain rfl : v = false := by
      cases v
      · rfl
      · exact absurd (hv.1 rfl) HC.out
    clear hv
    go_wp2_with fail
    go_ret
    exact ⟨false, rfl, ⟨fun h => (by cases h), fun d => absurd d R.out⟩, hb⟩
  by_cases hcY : CutP w h b Y
  case neg =>
    have R : Hid (¬ DisP w h a b X Y) := fun d => hcY d.2.1
    have HCX := Lib.hid hcX
    have HC := Lib.hid hcY
    clear hX hY hcX hcY
    go_enter Try.func61, Try.ntmps61
    go_wp2_with fail
    refine H1.out.mono ?_
    rintro e w1 ⟨v, rfl, hv, hb⟩
    obtain rfl := hv.2 HCX.out
    have H2' := Lib.hid (H2.out w1 (intsA_on HY.out hb))
    have HB := Lib.hid hb
    clear hv hb
    go_wp2_with fail
    refine H2'.out.mono ?_
    rintro e w2 ⟨v, rfl, hv, hb2⟩
    obtain rfl : v = false := by
      cases v
      · rfl
      · exact absurd (hv.1 rfl) HC.out
    have R2 := Lib.hid (below_on HB.out hb2)
    clear hv hb2
    go_wp2_with fail
    go_ret
    exact ⟨false, rfl, ⟨fun h => (by cases h), fun d => absurd d R.out⟩, R2.out⟩
  have lp1 := (spec_l09 hcX).1
  have lp2 := (spec_l09 hcY).1
  have P1 := Lib.hid (impl_l09 hcX lX)
  have P2 := Lib.hid (impl_l09 hcY lY)
  have R : Hid (∀ V, MatP (kindsV w h (pieV w h a X)) (kindsV w h (pieV w h b Y)) V → (V.2 = true ↔ DisP w h a b X Y)) := fun V hV => by
    rw [hV.ok]
    exact ⟨fun h => ⟨hcX, hcY, h⟩, fun d => d.2.2⟩
  have HCX := Lib.hid hcX
  have HCY := Lib.hid hcY
  clear hX hY hcX hcY
  generalize pieV w h a X = PX at *
  generalize pieV w h b Y = PY at *
  have HM := Lib.hid (fun AX cX AY cY W hX hY => impl_match w h AX cX PX AY cY PY W hX hY (by omega) (by omega))
  go_enter Try.func61, Try.ntmps61
  go_wp2_with fail
  refine H1.out.mono ?_
  rintro e w1 ⟨v, rfl, hv, hb⟩
  obtain rfl := hv.2 HCX.out
  have H2' := Lib.hid (H2.out w1 (intsA_on HY.out hb))
  have HB := Lib.hid hb
  clear hv hb
  go_wp2_with fail
  refine H2'.out.mono ?_
  rintro e w2 ⟨v, rfl, hv, hb2⟩
  obtain rfl := hv.2 HCY.out
  have HB2 := Lib.hid (below_on HB.out hb2)
  have P1' := Lib.hid (P1.out w2 AX cX (intsA_on HX.out HB2.out))
  clear hv hb2 HB
  go_wp2_with fail
  refine P1'.out.mono ?_
  rintro e w3 ⟨v3, rfl, own3, hb3⟩
  have HB3 := Lib.hid (below_on HB2.out hb3)
  have P2' := Lib.hid (P2.out w3 AY cY (intsA_on HY.out HB3.out))
  clear hb3 HB2 P1'
  go_wp2_with fail
  refine P2'.out.mono ?_
  rintro e w4 ⟨v4, rfl, own4, hb4⟩
  have HB4 := Lib.hid (below_on HB3.out hb4)
  replace own3 := own_below own3 hb4
  obtain ⟨_, A3, c3, rfl, p3⟩ := own_ints own3
  obtain ⟨_, A4, c4, rfl, p4⟩ := own_ints own4
  have HM' := Lib.hid (HM.out A3 c3 A4 c4 w4 p3 p4)
  clear hb4 HB3 P2' own3 own4 p3 p4
  go_wp2_with fail
  refine HM'.out.mono ?_
  rintro e w5 ⟨V, v5, rfl, hV, -, hb5⟩
  have R5 := Lib.hid (And.intro (R.out V hV) (below_on HB4.out hb5))
  obtain ⟨V1, V2⟩ := V
  simp only at R5
  clear hb5 hV
  go_wp2_with fail
  go_ret
  exact ⟨V2, rfl, R5.out⟩
end Go.Proofs.Ytncahchhinfneaa

/-! Law10C -/
namespace Go.Proofs.Ytncahchhinfneaa
open Go.RowKit

set_option maxRecDepth 100000 in
set_option maxHeartbeats 4000000 in
theorem ex_dis (w h a b : Int) (AX : Option Addr) (cX : Nat) (X : List Int) (AY : Option Addr) (cY : Nat) (Y : List Int) (W : World) (hX : ArgI W AX X) (_lX : X.length ≤ maxLen) (hY : ArgI W AY Y) (_lY : Y.length ≤ maxLen) :
    Calls Try.prog 8 #[.int .i64 w, .int .i64 h, .int .i64 a, .int .i64 b, .slice AX X.length cX, .slice AY Y.length cY] W fun e w' => e = .returned (.bool true) ∧ Below W.heap.size W w' := by
  by_cases hsX : X.length ≤ 1048576
  case neg =>
    have hq : ((1048576 : Int) < (X.length : Int)) := by omega
    clear hX hY hsX
    unfold maxLen at *
    go_enter Try.func8, Try.ntmps8
    go_wp2_with fail
    go_ret
    exact ⟨rfl, Below.refl _ _⟩
  by_cases hsY : Y.length ≤ 1048576
  case neg =>
    have hq : ((1048576 : Int) < (Y.length : Int)) := by omega
    have hpX : ¬ ((1048576 : Int) < (X.length : Int)) := by omega
    clear hX hY hsX hsY
    unfold maxLen at *
    go_enter Try.func8, Try.ntmps8
    go_wp2_with fail
    go_ret
    exact ⟨rfl, Below.refl _ _⟩
  have HS := Lib.hid (fun AX cX AY cY W hX hY => spec_dis w h a b AX cX X AY cY Y W hX hY hsX hsY)
  have HI := Lib.hid (fun AX cX AY cY W hX hY => impl_dis w h a b AX cX X AY cY Y W hX hY hsX hsY)
  have HTX := Lib.hid (fun W h => toI_any AX cX X W h hsX)
  have HAX := Lib.hid hX
  have hnX : ¬ ((1048576 : Int) < (X.length : Int)) := by omega
  have HZX := Lib.hid hsX
  have HTY := Lib.hid (fun W h => toI_any AY cY Y W h hsY)
  have HAY := Lib.hid hY
  have hnY : ¬ ((1048576 : Int) < (Y.length : Int)) := by omega
  have HZY := Lib.hid hsY
  clear hX _lX hsX hY _lY hsY
  go_enter Try.func8, Try.ntmps8
  go_wp2_with fail
  refine (HTX.out _ HAX.out).mono ?_
  rintro e w1 ⟨rfl, osX, hb1⟩
  have b1 := hb1
  clear hb1
  go_wp2_with fail
  refine (HTY.out _ (HAY.out.step b1)).mono ?_
  rintro e w2 ⟨rfl, osY, hb2⟩
  have ap_osX_osY := own_apart_g osX (Nat.le_refl _) osY
  have ap_osY_osX := own_apart_g' osX (Nat.le_refl _) osY
  have b2 := below_on b1 hb2
  replace osX := own_below osX hb2
  replace osY := own_base osY b1.size
  clear hb2 b1
  go_wp2_with fail
  have psX := intsA_of osX
  have psY := intsA_of osY
  clear osX ap_osX_osY ap_osY_osX
  clear osY
  refine (HS.out _ _ _ _ _ psX psY).mono ?_
  rintro e w3 ⟨v, rfl, hv, hb3⟩
  have HV := Lib.hid hv
  clear hv
  have b3 := below_on b2 hb3
  clear hb3 b2
  clear psX psY
  go_wp2_with fail
  refine (HTX.out _ (HAX.out.step b3)).mono ?_
  rintro e w4 ⟨rfl, oxX, hb4⟩
  have b4 := below_on b3 hb4
  replace oxX := own_base oxX b3.size
  clear hb4 b3
  go_wp2_with fail
  refine (HTY.out _ (HAY.out.step b4)).mono ?_
  rintro e w5 ⟨rfl, oxY, hb5⟩
  have ap_oxX_oxY := own_apart_g oxX (Nat.le_refl _) oxY
  have ap_oxY_oxX := own_apart_g' oxX (Nat.le_refl _) oxY
  have b5 := below_on b4 hb5
  replace oxX := own_below oxX hb5
  replace oxY := own_base oxY b4.size
  clear hb5 b4
  go_wp2_with fail
  have psX := intsA_of oxX
  have psY := intsA_of oxY
  refine (HI.out _ _ _ _ _ psX psY).mono ?_
  rintro e w6 ⟨v', rfl, hv', hb6⟩
  obtain rfl : v = v' := by rw [Bool.eq_iff_iff, HV.out, hv']
  clear hv'
  have b6 := below_on b5 hb6
  replace oxX := own_below oxX hb6
  replace oxY := own_below oxY hb6
  clear hb6 b5
  clear psX psY
  go_wp2_with fail
  refine (HTX.out _ (HAX.out.step b6)).mono ?_
  rintro e w7 ⟨rfl, oy, hb7⟩
  have ap_oxX_oy := own_apart_g oxX (Nat.le_refl _) oy
  have ap_oy_oxX := own_apart_g' oxX (Nat.le_refl _) oy
  have ap_oxY_oy := own_apart_g oxY (Nat.le_refl _) oy
  have ap_oy_oxY := own_apart_g' oxY (Nat.le_refl _) oy
  have b7 := below_on b6 hb7
  replace oxX := own_below oxX hb7
  replace oxY := own_below oxY hb7
  replace oy := own_base oy b6.size
  clear hb7 b6
  go_wp2_with fail
  refine (eq_ints _ _ _ _ X _ (intsA_of oxX) (intsA_of oy) HZX.out).mono ?_
  rintro e w8 ⟨rfl, hb8⟩
  have b8 := below_on b7 hb8
  replace oxX := own_below oxX hb8
  replace oxY := own_below oxY hb8
  replace oy := own_below oy hb8
  clear hb8 b7
  clear oy ap_oxX_oy ap_oxY_oy ap_oy_oxX ap_oy_oxY
  go_wp2_with fail
  refine (HTY.out _ (HAY.out.step b8)).mono ?_
  rintro e w9 ⟨rfl, oy, hb9⟩
  have ap_oxX_oy := own_apart_g oxX (Nat.le_refl _) oy
  have ap_oy_oxX := own_apart_g' oxX (Nat.le_refl _) oy
  have ap_oxY_oy := own_apart_g oxY (Nat.le_refl _) oy
  have ap_oy_oxY := own_apart_g' oxY (Nat.le_refl _) oy
  have b9 := below_on b8 hb9
  replace oxX := own_below oxX hb9
  replace oxY := own_below oxY hb9
  replace oy := own_base oy b8.size
  clear hb9 b8
  go_wp2_with fail
  refine (eq_ints _ _ _ _ Y _ (intsA_of oxY) (intsA_of oy) HZY.out).mono ?_
  rintro e w10 ⟨rfl, hb10⟩
  have b10 := below_on b9 hb10
  replace oxX := own_below oxX hb10
  replace oxY := own_below oxY hb10
  replace oy := own_below oy hb10
  clear hb10 b9
  clear oy ap_oxX_oy ap_oxY_oy ap_oy_oxX ap_oy_oxY
  go_wp2_with fail
  go_ret
  exact ⟨rfl, b10⟩
end Go.Proofs.Ytncahchhinfneaa
