/-
  The sort of the points: comparePoints, slices.SortFunc over it, copy, inOrder.
-/
import Derived.Test.YtplccidmedkfaaaShelf
import Derived.Test.YtplccidmedkfaaaClone
import Derived.Laws.CopyRow
namespace Go.Proofs.Ytplccidmedkfaaa
open Go.RowKit

/-! ### comparePoints -/
def befP (a b : Int × Int) : Bool := beforeB a.1 a.2 b.1 b.2
def cmpI (a b : Int × Int) : Int := bif befP a b then -1 else bif befP b a then 1 else 0
theorem befP_iff (a b : Int × Int) : befP a b = true ↔ a.2 < b.2 ∨ (a.2 = b.2 ∧ a.1 < b.1) := by
  simp [befP, beforeB]
theorem befP_no (a b : Int × Int) : befP a b = false ↔ ¬ (a.2 < b.2 ∨ (a.2 = b.2 ∧ a.1 < b.1)) := by
  rw [← befP_iff, Bool.not_eq_true]
theorem lt_cmp (a b : Int × Int) : ltOf cmpI a b = befP a b := by
  unfold ltOf cmpI
  cases h : befP a b
  · cases h2 : befP b a <;> rfl
  · rfl
theorem swo_bef : Go.Sort.SWO (ltOf cmpI) where
  irrefl x := by rw [lt_cmp, befP_no]; omega
  trans x y z h1 h2 := by rw [lt_cmp, befP_iff] at *; omega
  ntrans x y z h1 h2 := by rw [lt_cmp, befP_no] at *; omega

theorem bef_grow (ax ay bx by' : Int) (w : World) :
    Calls Try.prog 110 #[(.agg #[.int .i64 ax, .int .i64 ay]), (.agg #[.int .i64 bx, .int .i64 by'])] w fun e w' => e = .returned (.bool (beforeB ax ay bx by')) ∧ ∃ os, w' = Go.Sort.grow w os := by
  cases h1 : decide (ay < by')
  · cases h2 : (ay == by')
    · go_enter Try.func110, Try.ntmps110
      go_wp2_with fail
      go_ret
      exact ⟨ret_bool (by simp only [beforeB, h1, h2]; rfl), _, by rw [Go.Sort.alloc_eq_grow, Go.Sort.alloc_eq_grow, Go.Sort.grow_grow]⟩
    · go_enter Try.func110, Try.ntmps110
      go_wp2_with fail
      go_ret
      exact ⟨ret_bool (by simp only [beforeB, h1, h2, Bool.false_or, Bool.true_and]), _, by rw [Go.Sort.alloc_eq_grow, Go.Sort.alloc_eq_grow, Go.Sort.grow_grow]⟩
  · go_enter Try.func110, Try.ntmps110
    go_wp2_with fail
    go_ret
    exact ⟨ret_bool (by simp only [beforeB, h1]; rfl), _, by rw [Go.Sort.alloc_eq_grow, Go.Sort.alloc_eq_grow, Go.Sort.grow_grow]⟩
theorem below_grow (w : World) (os : Array Obj) : Below w.heap.size w (Go.Sort.grow w os) := below_regrown w w.drawn os
theorem two_grow (w : World) (o p : Obj) (os : Array Obj) : Go.Sort.grow ((w.alloc o).alloc p) os = Go.Sort.grow w (#[o] ++ #[p] ++ os) := by
  rw [Go.Sort.alloc_eq_grow, Go.Sort.alloc_eq_grow, Go.Sort.grow_grow, Go.Sort.grow_grow, Array.append_assoc]
theorem cmp_any (ax ay bx by' : Int) (w : World) :
    Calls Try.prog 100 #[(.agg #[.int .i64 ax, .int .i64 ay]), (.agg #[.int .i64 bx, .int .i64 by'])] w fun e w' => e = .returned (.int .i64 (cmpI (ax, ay) (bx, by'))) ∧ ∃ os, w' = Go.Sort.grow w os := by
  have hb0 := two_grow w (.cells #[.int .i64 ax, .int .i64 ay] 27) (.cells #[.int .i64 bx, .int .i64 by'] 27)
  have t0 := two0 w ax ay bx by' 27
  have c1 := t0.1.c0; have c2 := t0.1.c1; have c3 := t0.2.c0; have c4 := t0.2.c1
  have HV : Hid (cmpI (ax, ay) (bx, by') = bif beforeB ax ay bx by' then -1 else bif beforeB bx by' ax ay then 1 else 0) := rfl
  have HT := Lib.hid t0
  have HG := Lib.hid hb0
  clear hb0 t0
  cases h1 : beforeB ax ay bx by'
  · have H1 := Lib.hid (fun w => bef_grow ax ay bx by' w)
    rw [h1] at H1 HV
    go_enter Try.func100, Try.ntmps100
    go_wp2_with fail
    refine (H1.out _).mono ?_
    rintro e w1 ⟨rfl, os1, rfl⟩
    have t1 := HT.out.step (below_grow _ os1)
    have d1 := t1.1.c0; have d2 := t1.1.c1; have d3 := t1.2.c0; have d4 := t1.2.c1
    rw [HG.out] at d1 d2 d3 d4 ⊢
    clear c1 c2 c3 c4 t1
    generalize #[Obj.cells #[.int .i64 ax, .int .i64 ay] 27] ++ #[Obj.cells #[.int .i64 bx, .int .i64 by'] 27] ++ os1 = os2 at *
    obtain ⟨w2, hw2⟩ : ∃ w2, w2 = Go.Sort.grow w os2 := ⟨_, rfl⟩
    have HW := Lib.hid hw2
    rw [← hw2] at d1 d2 d3 d4 ⊢
    clear hw2
    cases h2 : beforeB bx by' ax ay
    all_goals (
      have H2 := Lib.hid (fun w => bef_grow bx by' ax ay w)
      rw [h2] at H2 HV
      go_wp2_with fail
      refine (H2.out _).mono ?_
      rintro e w3 ⟨rfl, os3, rfl⟩
      have HW3 : Hid (Go.Sort.grow w2 os3 = Go.Sort.grow w (os2 ++ os3)) := by
        show _ = _
        rw [HW.out, Go.Sort.grow_grow]
      rw [HW3.out]
      clear d1 d2 d3 d4
      generalize os2 ++ os3 = os4 at *
      go_wp2_with fail
      go_ret
      exact ⟨ret_int HV.out.symm, _, rfl⟩)
  · have H1 := Lib.hid (fun w => bef_grow ax ay bx by' w)
    rw [h1] at H1 HV
    go_enter Try.func100, Try.ntmps100
    go_wp2_with fail
    refine (H1.out _).mono ?_
    rintro e w1 ⟨rfl, os1, rfl⟩
    rw [HG.out]
    clear c1 c2 c3 c4
    generalize #[Obj.cells #[.int .i64 ax, .int .i64 ay] 27] ++ #[Obj.cells #[.int .i64 bx, .int .i64 by'] 27] ++ os1 = os2 at *
    go_wp2_with fail
    go_ret
    exact ⟨ret_int HV.out.symm, _, rfl⟩

/-! ### slices.SortFunc -/
def encP (x : Int × Int) : List Value := [.int .i64 x.1, .int .i64 x.2]
theorem flat_get (L : List (Int × Int)) (j : Nat) (hj : j < L.length * 2) : (Go.Sort.flatK encP 2 L.toArray)[j]! = (flat L)[j]'(by rw [flat_len]; exact hj) := by
  rw [Go.Sort.get_flatK _ _ _ _ (by simpa using hj)]
  have hq : j / 2 < L.length := by omega
  have e1 : L.toArray[j / 2]! = L[j / 2] := by simp [hq]
  rw [e1]
  obtain ⟨f1, f2⟩ := flat_at L (j / 2) hq
  rcases Nat.mod_two_eq_zero_or_one j with h | h
  · have hj2 : j = j / 2 * 2 := by omega
    rw [h]
    have := List.getElem?_eq_some_iff.1 f1
    obtain ⟨h3, h4⟩ := this
    rw [show (flat L)[j]'(by rw [flat_len]; exact hj) = (flat L)[j / 2 * 2]'h3 from by congr 1, h4]
    rfl
  · have hj2 : j = j / 2 * 2 + 1 := by omega
    rw [h]
    have := List.getElem?_eq_some_iff.1 f2
    obtain ⟨h3, h4⟩ := this
    rw [show (flat L)[j]'(by rw [flat_len]; exact hj) = (flat L)[j / 2 * 2 + 1]'h3 from by congr 1, h4]
    rfl
/-- An owned list of points, as the sort asks for it. -/
theorem own_holds {w : World} {B g n cap : Nat} {L : List (Int × Int)} (h : w.ownsRow B 27 2 (.slice (some ⟨g, 0, none⟩) n cap) n (flat L)) (hl : L.length = n) : Go.Sort.HoldsK encP 2 w g 0 L.toArray := by
  intro j hj
  have hj' : j < L.length * 2 := by simpa using hj
  rw [Nat.zero_add]
  refine ⟨?_, h.frozenAt j⟩
  rw [h.cellAt j (by omega), List.getElem?_eq_getElem (by rw [flat_len]; exact hj')]
  have := flat_get L j hj'
  rw [this]; rfl
/-- What the sort leaves behind. -/
theorem sorted_own {w : World} {B g n cap : Nat} {L : List (Int × Int)} (h : w.ownsRow B 27 2 (.slice (some ⟨g, 0, none⟩) n cap) n (flat L)) (hl : L.length = n) (M : List (Int × Int)) (hM : M.length = n) (m : Nat) (os : Array Obj) :
    (sortWorldK encP 2 w g 0 m M.toArray os).ownsRow B 27 2 (.slice (some ⟨g, 0, none⟩) n cap) n (flat M) ∧ w.grownBy (sortWorldK encP 2 w g 0 m M.toArray os) (some g) := by
  rcases h.2 with ⟨h1, _⟩ | ⟨g', cap', cur, hv, hB, hg, hn, hc, hs, ht⟩
  · cases h1
  simp only [Value.slice.injEq, Option.some.injEq, Addr.mk.injEq, and_true, true_and] at hv
  obtain ⟨rfl, rfl⟩ := hv
  have hlt : g < w.heap.size := (Array.getElem?_eq_some_iff.1 hg).1
  have hsz : (Go.Sort.putRowK encP 2 (Go.Sort.ahead w m) g 0 M.toArray).heap.size = w.heap.size := by
    unfold Go.Sort.putRowK; simp [Go.Sort.ahead]
  have hblk : ∀ k, k < w.heap.size → (sortWorldK encP 2 w g 0 m M.toArray os).heap[k]? = (Go.Sort.putRowK encP 2 (Go.Sort.ahead w m) g 0 M.toArray).heap[k]? := fun k hk => by
    unfold sortWorldK
    exact Go.Sort.heap_grow_old _ _ (by rw [hsz]; exact hk)
  have hput : (Go.Sort.putRowK encP 2 (Go.Sort.ahead w m) g 0 M.toArray).heap[g]? = some (.cells (Go.Sort.putCells id 0 (Go.Sort.flatK encP 2 M.toArray) cur) 27 (0, 0)) := by
    unfold Go.Sort.putRowK Go.Sort.putRow Go.Sort.mapBlock
    simp only [Go.Sort.ahead, Array.getElem?_modify, if_true, hg, Option.map_some, Go.Sort.onCells]
  have hcs : (Go.Sort.putCells id 0 (Go.Sort.flatK encP 2 M.toArray) cur).size = cur.size := by simp [Go.Sort.putCells]
  have htk : (Go.Sort.putCells id 0 (Go.Sort.flatK encP 2 M.toArray) cur).toList.take (n * 2) = flat M := by
    apply List.ext_getElem?
    intro j
    rw [List.getElem?_take]
    by_cases hj : j < n * 2
    · rw [if_pos hj]
      have hjc : j < cur.size := by rw [hs]; omega
      have hjM : j < M.length * 2 := by omega
      have hr : (flat M)[j]? = some ((Go.Sort.flatK encP 2 M.toArray)[j]!) := by rw [List.getElem?_eq_getElem (by rw [flat_len]; exact hjM), ← flat_get M j hjM]
      rw [hr]
      have hin : 0 ≤ j ∧ j < 0 + (Go.Sort.flatK encP 2 M.toArray).size := ⟨Nat.zero_le _, by rw [Go.Sort.size_flatK]; simpa using hjM⟩
      simp only [Go.Sort.putCells, Array.getElem?_toList, Array.getElem?_mapIdx, Array.getElem?_eq_getElem hjc, Option.map_some, if_pos hin, Nat.sub_zero, id]
    · rw [if_neg hj, List.getElem?_eq_none (by rw [flat_len]; omega)]
  refine ⟨⟨by rw [flat_len]; omega, .inr ⟨g, cap, _, rfl, hB, (hblk g hlt).trans hput, hn, hc, hcs.trans hs, htk⟩⟩, ?_⟩
  refine ⟨rfl, rfl, rfl, ?_, fun k hk hne => (hblk k hk).trans ?_⟩
  · unfold sortWorldK; simp [Go.Sort.grow, hsz]
  · have hkg : k ≠ g := fun e => hne (by rw [e])
    unfold Go.Sort.putRowK Go.Sort.putRow Go.Sort.mapBlock
    simp only [Go.Sort.ahead, Array.getElem?_modify]
    rw [if_neg (fun e => hkg e.symm)]

def sortedP (M : List (Int × Int)) : Prop := ∀ i j, i < j → j < M.length → befP (gt M j) (gt M i) = false
theorem sort_any (B g n cap : Nat) (L : List (Int × Int)) (w : World) (own : w.ownsRow B 27 2 (.slice (some ⟨g, 0, none⟩) n cap) n (flat L)) (hl : L.length = n) (hn : n ≤ 1048576) :
    Calls Try.prog 99 #[.slice (some ⟨g, 0, none⟩) n cap, .func (.func 100) #[] #[]] w fun e w' => e = .returned (.tuple #[]) ∧ ∃ M : List (Int × Int), M.Perm L ∧ sortedP M ∧ w'.ownsRow B 27 2 (.slice (some ⟨g, 0, none⟩) n cap) n (flat M) ∧ w.grownBy w' (some g) := by
  have eg : ∀ args w, (callFunc 100 args).run Try.prog w = .ok (.enter 100 args) w := enters_of Try.func100 (by kernel_rfl) rfl
  have hlt : g < w.heap.size := (own.lt g rfl).2
  have hcmp : CmpLays Try.prog 100 #[] encP 2 cmpI g 0 L.toArray.size w := fun m os dk hs x y =>
    (cmp_any x.1 x.2 y.1 y.2 _).mono fun e w' ⟨he, os', hw⟩ => ⟨he, 0, os', hw⟩
  have hcon := AnyQ.slices_SortFunc Try.laysSort 2 Try.isAgg27 Try.sizeOf27 encP (fun _ => rfl) (fun x v hv => by simp [encP] at hv; rcases hv with rfl | rfl <;> rfl) cmpI swo_bef 100 #[] g 0 cap L.toArray w eg hcmp (own_holds own hl) hlt (by simp; omega)
  change Calls Try.prog 99 _ _ _ at hcon
  rw [List.size_toArray, hl] at hcon
  refine hcon.mono ?_
  rintro e w' ⟨rfl, d', m, os, ⟨hp1, _, hp2⟩, hs, rfl⟩
  have hsz : d'.size = n := by rw [hp1]; simpa using hl
  refine ⟨rfl, d'.toList, ?_, ?_, ?_⟩
  · have e1 : (d'.extract 0 n).toList = d'.toList := by
      rw [← hsz, Array.extract_size]
    have e2 : (L.toArray.extract 0 n).toList = L := by
      have hs2 : n = L.toArray.size := by simpa using hl.symm
      rw [hs2, Array.extract_size]
    rw [e1, e2] at hp2
    exact hp2
  · intro i j hij hj
    have hj' : j < d'.size := by simpa using hj
    have := hs i j (Nat.zero_le _) hij (by omega)
    rw [lt_cmp] at this
    have gi : ∀ k, k < d'.size → gt d'.toList k = d'[k]! := fun k hk => by
      rw [gt_at (by simpa using hk)]
      simp [hk]
    rw [gi j hj', gi i (by omega)]
    exact this
  · have := sorted_own own hl d'.toList (by simpa using hsz) m os
    simpa using this
end Go.Proofs.Ytplccidmedkfaaa
