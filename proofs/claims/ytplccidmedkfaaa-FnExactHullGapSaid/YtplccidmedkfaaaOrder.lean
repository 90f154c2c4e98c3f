/-
  inOrder, slices.Reverse from the first element on, withoutEnd, turnsLeft.
-/
import Derived.Test.YtplccidmedkfaaaSort
import Derived.Test.YtplccidmedkfaaaInside
import Derived.Laws.CopyOwn
namespace Go.Proofs.Ytplccidmedkfaaa
open Go.RowKit

/-! ### copy over points -/
theorem run_copy_pts {P : Program} (w : World) (dT sT ty elem : TypeId) (g dLen dCap : Nat) (a : Addr) (sLen sCap : Nat) (cur : Array Value) (t : TypeId) (cs : List Value) (m : Nat)
    (hu : P.underlying dT = some (.slice elem)) (hs : (P.info? elem).map (·.size) = some 2)
    (hg : w.heap[g]? = some (.cells cur t (0, 0))) (hm : m = Nat.min sLen dLen) (hn : cs.length = m * 2)
    (hsrc : ∀ j v, cs[j]? = some v → w.cell? (a.add j) = some v) (hfit : cs.length ≤ cur.size) (h1 : ∀ v ∈ cs, v.oneCell' = true) :
    (Builtin.copy_ #[dT, sT] ty #[.slice (some ⟨g, 0, none⟩) dLen dCap, .slice (some a) sLen sCap]).run P w =
      .ok (goInt m) (w.setRow g (cs ++ cur.toList.drop cs.length).toArray) := by
  have hl := run_loadCells_list (P := P) w a cs hsrc
  have hst := run_storeCells_at P g 0 t cs 0 cur w hg (by simpa using hfit) h1
  simp only [Nat.add_zero, List.take_zero, List.nil_append, Nat.zero_add] at hst
  cases hq : P.info? elem with
  | none => simp [hq] at hs
  | some i =>
    have hi : i.size = 2 := by simpa [hq] using hs
    simp [Builtin.copy_, run_underlying hu, Builtin.lenOf, Builtin.firstCells, sizeOf, typeInfo, hq, hi, ← hm, ← hn, hl, hst]
theorem wpList_copy_pts {P : Program} {w : World} {ops : Array Oper} {rest : List Oper} {o : Oper} {a : Act} {Q : Exit → Act → World → Prop} (hgd : o.guard = none) (d s : Operand) (dT sT : TypeId)
    (ho : o.op = .call { callee := .builtin .copy, args := #[d, s], argTypes := #[dT, sT] }) (elem : TypeId) (hu : P.underlying dT = some (.slice elem)) (hsz : (P.info? elem).map (·.size) = some 2)
    (g n dCap : Nat) (ad : Addr) (sCap : Nat) (hd : a.eval d = .slice (some ⟨g, 0, none⟩) n dCap) (hs : a.eval s = .slice (some ad) n sCap)
    (base : Nat) (xs : List Value) (own : w.ownsRow base elem 2 (.slice (some ⟨g, 0, none⟩) n dCap) n xs) (cs : List Value) (hn : cs.length = n * 2)
    (hsrc : ∀ j v, cs[j]? = some v → w.cell? (ad.add j) = some v) (h1 : ∀ v ∈ cs, v.oneCell' = true)
    (h : ∀ w', w'.ownsRow base elem 2 (.slice (some ⟨g, 0, none⟩) n dCap) n cs → w.grownBy w' (some g) → wpList P ops Q rest (a.put o.dst (goInt n)) w') : wpList P ops Q (o :: rest) a w := by
  rcases own.2 with ⟨h0, _⟩ | ⟨g', cap', cur, hv, hB, hg, hnc, hc, hcs, ht⟩
  · cases h0
  simp only [Value.slice.injEq, Option.some.injEq, Addr.mk.injEq, and_true, true_and] at hv
  obtain ⟨rfl, rfl⟩ := hv
  refine wpList_plain hgd fun K hK => ?_
  have hfit : cs.length ≤ cur.size := by omega
  have hrun := run_copy_pts (P := P) w dT sT o.type elem g n dCap ad n sCap cur elem cs n hu hsz hg (by simp [Nat.min_def]) hn hsrc hfit h1
  unfold Oper.wp
  simp [execOp, ho, resolve, invoke, builtin, hd, hs, hrun, Result.andThen]
  refine hK _ _ (h _ ⟨hn, .inr ⟨g, dCap, (cs ++ cur.toList.drop cs.length).toArray, rfl, hB, ?_, hnc, hc, ?_, ?_⟩⟩ ?_)
  · exact setRow_heap w g cur _ elem _ hg
  · simp; omega
  · rw [← hn]; simp
  · exact ⟨rfl, rfl, rfl, by simp [World.setRow], fun k hk hne => setRow_other w g k _ (fun e => hne (by rw [e]))⟩

set_option maxRecDepth 100000 in
set_option maxHeartbeats 2000000 in
theorem order_any (A : Option Addr) (c : Nat) (L : List (Int × Int)) (w : World) (hA : PtsA w A L) (h1 : 1 ≤ L.length) (h2 : L.length ≤ 1048576) :
    Calls Try.prog 71 #[.slice A L.length c] w fun e w' => ∃ (g : Nat) (M : List (Int × Int)), e = .returned (.slice (some ⟨g, 0, none⟩) L.length L.length) ∧ M.Perm L ∧ sortedP M ∧ w'.ownsRow w.heap.size 27 2 (.slice (some ⟨g, 0, none⟩) L.length L.length) L.length (flat M) ∧ Below w.heap.size w w' := by
  obtain ⟨i0, hi0, hz0, hz1, hz2⟩ := info_parts infoPt
  obtain ⟨g, rfl, -⟩ := hA 0 h1
  have HA := Lib.hid hA
  have hsz2 : (Try.prog.info? 27).map (·.size) = some 2 := by rw [hi0]; simp [hz1]
  clear hA
  go_enter Try.func71, Try.ntmps71
  go_wp2_with (first
    | (refine wpList_make_full _ rfl _ _ 23 rfl w.heap.size 27 i0 (.agg #[.int .i64 0, .int .i64 0]) 2 Try.underlying23 hi0 hz0 hz1 .i64 .i64 _ _ L.length rfl rfl rfl rfl ?b2 ?b3 (Nat.le_refl _) ?_))
  case b2 => rw [hz2]; omega
  case b3 => unfold maxLen; omega
  intro w1 own1 hg1
  have hB1 : Below w.heap.size w w1 := ⟨hg1.os, hg1.tape, hg1.output, hg1.size, fun k hk => hg1.block k hk (by simp)⟩
  have HN := Lib.hid (ptsA_news (ptsA_on HA.out hB1) 0)
  rw [List.drop_zero, Nat.zero_mul] at HN
  clear hg1
  go_wp2_with (refine wpList_copy_pts rfl _ _ 23 23 rfl 27 Try.underlying23 hsz2 w.heap.size L.length L.length ⟨g, 0, none⟩ c rfl rfl w.heap.size _ own1 (flat L) (flat_len L) HN.out (flat_one L) ?_)
  intro w2 own2 hg2
  have hB2 := hB1.grown hg2 hB1.size (fun k e => by cases e; exact Nat.le_refl _)
  clear own1 hg2 hB1
  have HS := Lib.hid (sort_any w.heap.size w.heap.size L.length L.length L w2 own2 rfl h2)
  clear own2
  go_wp2_with fail
  refine HS.out.mono ?_
  rintro e w3 ⟨rfl, M, hp, hs, own3, hg3⟩
  have hB3 := hB2.grown hg3 hB2.size (fun k e => by cases e; exact Nat.le_refl _)
  have R := Lib.hid (And.intro hp (And.intro hs (And.intro own3 hB3)))
  clear own3 hg3 hB2 hp hs hB3
  go_wp2_with fail
  go_ret
  exact ⟨w.heap.size, M, rfl, R.out.1, R.out.2.1, R.out.2.2.1, R.out.2.2.2⟩

/-! ### slices.Reverse -/
def rv0At (M : List (Int × Int)) (k t : Nat) : Int × Int := if t < k ∨ M.length - k ≤ t then gt M (M.length - 1 - t) else gt M t
def rv0 (M : List (Int × Int)) (k : Nat) : List (Int × Int) := (List.range M.length).map (rv0At M k)
theorem rv0_len (M : List (Int × Int)) (k : Nat) : (rv0 M k).length = M.length := by simp [rv0]
theorem rv0_zero (M : List (Int × Int)) : rv0 M 0 = M := by
  apply List.ext_getElem (by simp [rv0])
  intro t h1 h2
  simp only [rv0, List.getElem_map, List.getElem_range, rv0At]
  rw [if_neg (by omega), gt_at h2]
theorem gt_rv0 (M : List (Int × Int)) (k t : Nat) (ht : t < M.length) : gt (rv0 M k) t = rv0At M k t := by
  rw [gt_at (by rw [rv0_len]; exact ht)]
  simp [rv0]
theorem rv0_all (M : List (Int × Int)) {k : Nat} (h : M.length ≤ 2 * k + 1) : rv0 M k = M.reverse := by
  apply List.ext_getElem (by simp [rv0])
  intro t h1 h2
  have ht : t < M.length := by simpa [rv0] using h1
  simp only [rv0, List.getElem_map, List.getElem_range, rv0At, List.getElem_reverse]
  rw [← gt_at (show M.length - 1 - t < M.length by omega)]
  by_cases hc : t < k ∨ M.length - k ≤ t
  · rw [if_pos hc]
  · rw [if_neg hc]; congr 1; omega
theorem rv0_step (M : List (Int × Int)) (k : Nat) (h : 2 * k + 1 < M.length) :
    rv0 M (k + 1) = ((rv0 M k).set k (gt (rv0 M k) (M.length - 1 - k))).set (M.length - 1 - k) (gt (rv0 M k) k) := by
  rw [gt_rv0 _ _ _ (by omega), gt_rv0 _ _ _ (by omega)]
  apply List.ext_getElem (by simp [rv0])
  intro t h1 h2
  have ht : t < M.length := by simpa [rv0] using h1
  rw [List.getElem_set, List.getElem_set]
  simp only [rv0, List.getElem_map, List.getElem_range, rv0At]
  by_cases e1 : M.length - 1 - k = t
  · rw [if_pos e1, if_pos (by omega), if_neg (by omega)]; congr 1; omega
  · rw [if_neg e1]
    by_cases e2 : k = t
    · rw [if_pos e2, if_pos (by omega), if_neg (by omega)]; congr 1; omega
    · rw [if_neg e2]
      by_cases hc : t < k ∨ M.length - k ≤ t
      · rw [if_pos (by omega), if_pos hc]
      · rw [if_neg (by omega), if_neg hc]
set_option maxRecDepth 100000 in
set_option maxHeartbeats 4000000 in
theorem rv_any (B g cap : Nat) (M : List (Int × Int)) (w : World) (hown : w.ownsRow B 27 2 (.slice (some ⟨g, 0, none⟩) M.length cap) M.length (flat M)) (h1 : 1 ≤ M.length) (h2 : M.length ≤ 1048576) :
    Calls Try.prog 48 #[.slice (some ⟨g, 0, none⟩) M.length cap] w fun e w' => (∃ v, e = .returned v) ∧ w'.ownsRow B 27 2 (.slice (some ⟨g, 0, none⟩) M.length cap) M.length (flat M.reverse) ∧ w.grownBy w' (some g) := by
  obtain ⟨n, hn⟩ : ∃ n, n = M.length := ⟨_, rfl⟩
  have HN := Lib.hid hn
  rw [← hn] at hown h1 h2 ⊢
  clear hn
  have f1 : (n : Int) - 1 = ((n - 1 : Nat) : Int) := by omega
  go_enter Try.func48, Try.ntmps48
  go_wp2_with fail
  go_loopw [2, 3] (fun i j wr => ∃ (k : Nat) (q : Int), i = .int .i64 k ∧ j = .int .i64 q ∧ Hid ((k : Int) + q + 1 = n ∧ (k : Int) ≤ q + 1) ∧ wr.ownsRow B 27 2 (.slice (some ⟨g, 0, none⟩) n cap) n (flat (rv0 M k)) ∧ w.grownBy wr (some g)) (fun i j _ => n - (intOf i).toNat)
  case atStart => exact ⟨0, ((n - 1 : Nat) : Int), rfl, by first | rfl | exact congrArg _ f1, ⟨by omega, by omega⟩, by rw [rv0_zero]; exact hown, World.grownBy.refl _ _⟩
  case round =>
    obtain ⟨k, q, rfl, rfl, HK, own, hgr⟩ := hrel
    have hk1 := HK.out.1
    have hk1' := HK.out.2
    by_cases hlt : (k : Int) < q
    · obtain ⟨q', rfl⟩ : ∃ q' : Nat, q = (q' : Int) := ⟨q.toNat, by omega⟩
      obtain ⟨x, hx⟩ : ∃ x, x = (gt (rv0 M k) k).1 := ⟨_, rfl⟩
      obtain ⟨y, hy⟩ : ∃ y, y = (gt (rv0 M k) k).2 := ⟨_, rfl⟩
      obtain ⟨x', hx'⟩ : ∃ x', x' = (gt (rv0 M k) q').1 := ⟨_, rfl⟩
      obtain ⟨y', hy'⟩ : ∃ y', y' = (gt (rv0 M k) q').2 := ⟨_, rfl⟩
      have hP := pts_own own (by rw [rv0_len]; exact HN.out.symm)
      have p1 := hP k (by omega)
      have p2 := hP q' (by omega)
      rw [← hx, ← hy] at p1
      rw [← hx', ← hy'] at p2
      obtain ⟨c1, c2⟩ := p1
      obtain ⟨c3, c4⟩ := p2
      have f2 := own.frozenAt (k * 2)
      have f3 := own.frozenAt (k * 2 + 1)
      have f4 := own.frozenAt (q' * 2)
      have f5 := own.frozenAt (q' * 2 + 1)
      have hk2 : (k : Int) < (n : Int) := by omega
      have hq2 : (q' : Int) < (n : Int) := by omega
      have hml : (rv0 M k).length = n := by rw [rv0_len]; exact HN.out.symm
      have own4 := ((((own.stored (k * 2) (.int .i64 x')).1.stored (k * 2 + 1) (.int .i64 y')).1.stored (q' * 2) (.int .i64 x)).1.stored (q' * 2 + 1) (.int .i64 y)).1
      have hq1 : M.length - 1 - k = q' := by have := HN.out; omega
      have hstep : rv0 M (k + 1) = ((rv0 M k).set k (x', y')).set q' (x, y) := by
        rw [rv0_step M k (by have := HN.out; omega), hq1, hx, hy, hx', hy']
      have hflat : ((((flat (rv0 M k)).set (k * 2) (.int .i64 x')).set (k * 2 + 1) (.int .i64 y')).set (q' * 2) (.int .i64 x)).set (q' * 2 + 1) (.int .i64 y) = flat (rv0 M (k + 1)) := by
        rw [hstep, flat_set1 _ _ _ (by rw [List.length_set]; omega), flat_set1 _ _ _ (by omega)]
      rw [hflat] at own4
      have hgr4 := only_set (only_set (only_set (only_set hgr (k * 2) (.int .i64 x')) (k * 2 + 1) (.int .i64 y')) (q' * 2) (.int .i64 x)) (q' * 2 + 1) (.int .i64 y)
      have R := Lib.hid (And.intro own4 hgr4)
      clear own own4 hgr hgr4 hP hx hy hx' hy' hown hflat hstep hq1 hml
      have hq0 : (0 : Int) ≤ (q' : Int) - 1 := by omega
      have hw0 : IntKind.i64.wrap ((q' : Int) - 1) = (q' : Int) - 1 := IntWalk.i64_in _ (by omega)
      have hw1 : wrap64 ((q' : Int) - 1) = (q' : Int) - 1 := IntWalk.wrap64_in _ (by omega)
      clear hk1 hk1'
      go_wp2_with fail
      go_region
      go_wp2_with fail
      go_roundw
      case rel => exact ⟨k + 1, (q' : Int) - 1, by go_num, rfl, ⟨by have := HK.out.1; omega, by omega⟩, own_drew R.out.1, grown_drew R.out.2⟩
      case measure => simp [intOf]; have := HK.out.1; omega
    · have e : rv0 M k = M.reverse := rv0_all M (by have := HN.out; omega)
      rw [e] at own
      have R := Lib.hid (And.intro own hgr)
      clear own hgr hown hk1 hk1' e
      go_wp2_with fail
      go_end0
      exact ⟨⟨_, rfl⟩, R.out.1, R.out.2⟩

/-! ### withoutEnd, turnsLeft -/
theorem end_any (A : Option Addr) (n c : Nat) (w : World) (h1 : 1 ≤ n) (h2 : n ≤ c) (h3 : n ≤ 1048576) :
    Calls Try.prog 73 #[.slice A n c] w fun e w' => e = .returned (.slice A (n - 1) c) ∧ w' = w := by
  have f1 : (n : Int) - 1 = ((n - 1 : Nat) : Int) := by omega
  have f2 : wrap64 ((n : Int) - 1) = ((n - 1 : Nat) : Int) := by rw [IntWalk.wrap64_in _ (by omega)]; omega
  have f3 : IntKind.i64.wrap ((n : Int) - 1) = ((n - 1 : Nat) : Int) := by rw [IntWalk.i64_in _ (by omega)]; omega
  have h4 : n - 1 ≤ c := by omega
  go_enter Try.func73, Try.ntmps73
  go_wp2_with fail
  go_ret
  exact ⟨rfl, rfl⟩
end Go.Proofs.Ytplccidmedkfaaa
