/-
  StartAt of both programs: l03Start, slices.Grow, slices.Concat.
-/
import Derived.Test.YtbmeemmihkedoaaClone
import Derived.Deep.RegionLaw
import Derived.Lib.AppendZerosOnto
import Derived.Lib.SliceRun
namespace Go.Proofs.Ytbmeemmihkedoaa
open Go.RowKit

def rotL (L : List (Int × Int)) (k : Nat) : List (Int × Int) := L.drop k ++ L.take k
theorem rotL_len (L : List (Int × Int)) (k : Nat) : (rotL L k).length = L.length := by simp [rotL]; omega

theorem step_append_any {P : Program} {ops : Array Oper} {o : Oper} {a : Act} {w : World} {K : Act → World → Prop} {Q : Exit → Act → World → Prop} {E : Prop} (hgd : o.guard = none) (s x : Operand) (t : TypeId)
    (ho : o.op = .call { callee := .builtin .append, args := #[s, x], argTypes := #[t, t] })
    (base : Nat) (e : TypeId) (i : TypeInfo) (z : Value) (size bytes : Nat) (ht : P.underlying t = some (.slice e)) (hi : P.info? e = some i) (hz : i.zero = some z)
    (hsize : i.size = size) (hby : i.bytes = bytes) (hzs : z.cells.size = size) (hsz : 0 < size)
    (v : Value) (n : Nat) (xs : List Value) (hs : a.eval s = v) (hown : w.ownsRow base e size v n xs)
    (ad : Addr) (m c : Nat) (news : List Value) (hx : a.eval x = .slice (some ad) m c) (hl : news.length = m * size) (hnews : ∀ j u, news[j]? = some u → w.cell? (ad.add j) = some u) (h1 : ∀ u ∈ news, u.oneCell' = true)
    (h63 : n + m ≤ maxLen) (hbytes : (n + m) * bytes ≤ 140737488355328) (hbase : base ≤ w.heap.size)
    (h : ∀ v' w', w'.ownsRow base e size v' (n + m) (xs ++ news) → w.grownBy w' v.ownBlock → K (a.put o.dst v') w') :
    if Region.wanted o (yielded ops a.tmps) = true then Oper.wp P o a w K Q else E := by
  have hw : Region.wanted o (yielded ops a.tmps) = true := by simp [Region.wanted, hgd]
  rw [if_pos hw]
  obtain ⟨v', w', hrun, r1, r2, _⟩ := run_append_own (P := P) w base t o.type e i z size bytes ht hi hz hsize hby hzs hsz v n xs hown ad m c news hl hnews h1 h63 hbytes hbase
  unfold Oper.wp
  simp [execOp, ho, resolve, invoke, builtin, hs, hx, hrun, Result.andThen]
  exact h v' w' r1 r2

theorem ptsA_take {w : World} {g : Nat} {L : List (Int × Int)} (h : PtsA w (some ⟨g, 0, none⟩) L) (k : Nat) : ∀ j u, (flat (L.take k))[j]? = some u → w.cell? (Addr.add ⟨g, 0, none⟩ j) = some u := by
  intro j u hu
  have h0 := ptsA_news h 0 j u
  rw [List.drop_zero, Nat.zero_mul] at h0
  refine h0 ?_
  have e : flat L = flat (L.take k) ++ flat (L.drop k) := by rw [← flat_append, List.take_append_drop]
  have hj : j < (flat (L.take k)).length := by
    rcases Nat.lt_or_ge j (flat (L.take k)).length with h1 | h1
    · exact h1
    · rw [List.getElem?_eq_none h1] at hu; cases hu
  rw [e, List.getElem?_append_left hj]
  exact hu


set_option maxRecDepth 100000 in
set_option maxHeartbeats 2000000 in
theorem grow_any (n : Nat) (w : World) (h1 : 1 ≤ n) (h2 : n ≤ 1048576) :
    Calls Try.prog 199 #[.slice none 0 0, .int .i64 n] w fun e w' => ∃ g cap, e = .returned (.slice (some ⟨g, 0, none⟩) 0 cap) ∧ w'.ownsRow w.heap.size 27 2 (.slice (some ⟨g, 0, none⟩) 0 cap) 0 [] ∧ Below w.heap.size w w' := by
  obtain ⟨i0, hi0, hz0, hz1, hz2⟩ := info_parts infoPt
  have hn0 : ¬ ((n : Int) < 0) := by omega
  have hn1 : (n : Int) > 0 := by omega
  have hold : (Builtin.firstCells i0.size 0 (.slice none 0 0)).run Try.prog w.drew = .ok ([] : List Value).toArray w.drew := run_firstCells_none _ i0.size 0 0 0
  have hrz : ∀ ty, (Builtin.append_ #[35, 3] ty #[.slice none 0 0, .int .i64 n]).run Try.prog w =
      .ok (.slice (some ⟨w.heap.size, 0, none⟩) n (grownCap w n 0 27)) (w.drew.alloc (.cells (([] : List Value).toArray ++ Builtin.zeroCells (Value.agg #[.int .i64 0, .int .i64 0]).cells n ++ Builtin.zeroCells (Value.agg #[.int .i64 0, .int .i64 0]).cells (grownCap w n 0 27 - n)) 27)) := fun ty => by
    have h := Lib.run_append_grow_zeros w 35 3 ty 27 i0 (.agg #[.int .i64 0, .int .i64 0]) .i64 .i64 Try.underlying35 Try.underlying3 hi0 hz0 none 0 0 [] hold n (by omega) (by omega) (by omega) (by omega)
      (by rw [hz2]; omega) (by rw [Nat.zero_add]; exact growslice_fits (by omega) (by rw [hz2]; omega))
    rw [Nat.zero_add] at h
    exact h
  have hGn : n ≤ grownCap w n 0 27 := grownCap_ge w _ _ _
  obtain ⟨G, hG⟩ : ∃ G, G = grownCap w n 0 27 := ⟨_, rfl⟩
  rw [← hG] at hrz hGn
  have hGm : G ≤ maxLen := by rw [hG]; exact grownCap_le_maxLen w n 0 27 (by unfold maxLen; omega)
  have hG63 : G ≤ 9223372036854775807 := by unfold maxLen at hGm; omega
  obtain ⟨C, hC⟩ : ∃ C, C = ([] : List Value).toArray ++ Builtin.zeroCells (Value.agg #[.int .i64 0, .int .i64 0]).cells n ++ Builtin.zeroCells (Value.agg #[.int .i64 0, .int .i64 0]).cells (G - n) := ⟨_, rfl⟩
  have hCs : C.size = G * 2 := by
    have e : (Value.agg #[.int .i64 0, .int .i64 0]).cells.size = 2 := rfl
    rw [hC, Array.size_append, Array.size_append, size_zeroCells, size_zeroCells, e]
    simp; omega
  rw [← hC] at hrz
  have R : Hid ((w.drew.alloc (.cells C 27)).ownsRow w.heap.size 27 2 (.slice (some ⟨w.heap.size, 0, none⟩) 0 G) 0 [] ∧ Below w.heap.size w (w.drew.alloc (.cells C 27))) :=
    ⟨⟨rfl, .inr ⟨w.heap.size, G, C, rfl, Nat.le_refl _, heap_alloc_new w.drew _, Nat.zero_le _, hGm, hCs, rfl⟩⟩, ((Below.refl _ w).drew).alloc (Nat.le_refl _) _⟩
  clear hold hG hC hCs hGm
  go_enter Try.func199, Try.ntmps199
  go_wp2_with (at_builtin; refine Lib.wpList_append_run _ rfl _ _ _ _ rfl _ _ rfl rfl _ _ (hrz _) ?_)
  go_ret
  exact ⟨_, _, rfl, R.out.1, R.out.2⟩

def catN (L : List (Int × Int)) (k : Nat) : Nat → Nat
  | 0 => 0
  | 1 => L.length - k
  | _ => L.length
def catL (L : List (Int × Int)) (k : Nat) : Nat → List (Int × Int)
  | 0 => []
  | 1 => L.drop k
  | _ => rotL L k
set_option maxRecDepth 100000 in
set_option maxHeartbeats 4000000 in
theorem concat_any (g gs c1 c2 k : Nat) (L : List (Int × Int)) (w : World) (hA : PtsA w (some ⟨g, 0, none⟩) L) (hk : k < L.length) (h2 : L.length ≤ 1048576)
    (s0 : w.cell? ⟨gs, 0, none⟩ = some (.slice (some ⟨g, k * 2, none⟩) (L.length - k) c1)) (s1 : w.cell? ⟨gs, 1, none⟩ = some (.slice (some ⟨g, 0, none⟩) k c2)) :
    Calls Try.prog 182 #[.slice (some ⟨gs, 0, none⟩) 2 2] w (Lists w (rotL L k)) := by
  obtain ⟨i0, hi0, hz0, hz1, hz2⟩ := info_parts infoPt
  have HU : Hid (Lists w (rotL L k) = fun e w' => ∃ v, e = .returned v ∧ w'.ownsRow w.heap.size 27 2 v (catN L k 2) (flat (catL L k 2)) ∧ Below w.heap.size w w') := by
    show _ = _
    unfold Lists
    rw [rotL_len]; rfl
  have HA := Lib.hid hA
  have HK := Lib.hid hk
  have HS0 := Lib.hid s0
  have HS1 := Lib.hid s1
  have f1 : ((L.length - k : Nat) : Int) + (k : Int) = (L.length : Int) := by omega
  clear hA
  go_enter Try.func182, Try.ntmps182
  go_wp2_with fail
  go_loop [3, 11] (fun s i => ∃ j : Nat, j ≤ 2 ∧ i = .int .i64 j ∧ s = .int .i64 (catN L k j)) (fun _ i => 2 - (intOf i).toNat)
  case atStart => exact ⟨0, by omega, rfl, rfl⟩
  case round =>
    obtain ⟨j, hj, rfl, rfl⟩ := hrel
    match j, hj with
    | 0, _ =>
      have e0 : catN L k 0 = 0 := rfl
      rw [e0]
      clear e0 s1
      go_wp2_with fail
      go_round
      case rel => exact ⟨1, by omega, by first | rfl | go_num, by first | rfl | go_num⟩
      case measure => simp [intOf]
    | 1, _ =>
      have e0 : catN L k 1 = L.length - k := rfl
      rw [e0]
      clear e0 s0
      go_wp2_with fail
      go_round
      case rel => exact ⟨2, by omega, by first | rfl | go_num, by first | rfl | go_num | exact congrArg _ f1⟩
      case measure => simp [intOf]
    | 2, _ =>
      have e0 : catN L k 2 = L.length := rfl
      rw [e0]
      clear e0 s0 s1 f1
      go_wp2_with fail
      refine (grow_any L.length w (by omega) h2).mono ?_
      rintro e w1 ⟨g1, cp1, rfl, own1, b1⟩
      have R1 := Lib.hid (And.intro own1 b1)
      clear own1 b1
      go_wp2_with fail
      go_loopw [6, 27] (fun v i wr => ∃ j : Nat, j ≤ 2 ∧ i = .int .i64 j ∧ wr.ownsRow w.heap.size 27 2 v (catN L k j) (flat (catL L k j)) ∧ Below w.heap.size w wr) (fun _ i _ => 2 - (intOf i).toNat)
      case atStart => exact ⟨0, by omega, by first | rfl | go_num, R1.out.1, R1.out.2⟩
      case round =>
        obtain ⟨j, hj, rfl, own, b⟩ := hrel
        match j, hj with
        | 0, _ =>
          have s0 := cell_on b rfl HS0.out
          have HN := Lib.hid (ptsA_news (ptsA_on HA.out b) k)
          have hsz := b.size
          have own0 : wr.ownsRow w.heap.size 27 2 u6 0 [] := own
          have HB := Lib.hid b
          clear own b
          go_wp2_with (at_builtin; refine wpList_append_own _ rfl _ _ 35 rfl w.heap.size 27 i0 (.agg #[.int .i64 0, .int .i64 0]) 2 16 Try.underlying35 hi0 hz0 hz1 hz2 rfl (by decide) _ _ _ rfl own0 ⟨g, k * 2, none⟩ (L.length - k) c1 (flat (L.drop k)) rfl (by rw [flat_len, List.length_drop]) HN.out (flat_one _) ?d3 ?d4 hsz ?_)
          case d3 => unfold maxLen; omega
          case d4 => omega
          intro v' w6 own6 hgrow _
          have R : Hid (w6.ownsRow w.heap.size 27 2 v' (catN L k 1) (flat (catL L k 1)) ∧ Below w.heap.size w w6) :=
            ⟨show w6.ownsRow w.heap.size 27 2 v' (L.length - k) (flat (L.drop k)) from by simpa using own6, HB.out.grown hgrow hsz (fun q hq => (own0.lt q hq).1)⟩
          clear own0 own6 hgrow s0
          go_wp2_with fail
          go_roundw
          case rel => exact ⟨1, by omega, by first | rfl | go_num, R.out.1, R.out.2⟩
          case measure => simp [intOf]
        | 1, _ =>
          have s0 := cell_on b rfl HS1.out
          have HN := Lib.hid (ptsA_take (ptsA_on HA.out b) k)
          have hsz := b.size
          have own0 : wr.ownsRow w.heap.size 27 2 u6 (L.length - k) (flat (L.drop k)) := own
          have HB := Lib.hid b
          clear own b
          go_wp2_with (at_builtin; refine wpList_append_own _ rfl _ _ 35 rfl w.heap.size 27 i0 (.agg #[.int .i64 0, .int .i64 0]) 2 16 Try.underlying35 hi0 hz0 hz1 hz2 rfl (by decide) _ _ _ rfl own0 ⟨g, 0, none⟩ k c2 (flat (L.take k)) rfl (by rw [flat_len, List.length_take]; have := HK.out; omega) HN.out (flat_one _) ?d3 ?d4 hsz ?_)
          case d3 => unfold maxLen; omega
          case d4 => omega
          intro v' w6 own6 hgrow _
          have R : Hid (w6.ownsRow w.heap.size 27 2 v' (catN L k 2) (flat (catL L k 2)) ∧ Below w.heap.size w w6) := by
            refine ⟨?_, HB.out.grown hgrow hsz (fun q hq => (own0.lt q hq).1)⟩
            have e1 : catN L k 2 = L.length - k + k := by show L.length = _; have := HK.out; omega
            have e2 : flat (catL L k 2) = flat (L.drop k) ++ flat (L.take k) := by show flat (rotL L k) = _; rw [rotL, flat_append]
            rw [e1, e2]; exact own6
          clear own0 own6 hgrow s0
          go_wp2_with fail
          go_roundw
          case rel => exact ⟨2, by omega, by first | rfl | go_num, R.out.1, R.out.2⟩
          case measure => simp [intOf]
        | 2, _ =>
          have R := Lib.hid (And.intro own b)
          clear own b
          go_wp2_with fail
          go_ret
          rw [HU.out]
          exact ⟨_, rfl, R.out.1, R.out.2⟩

/-! ### StartAt -/
def startV (L : List (Int × Int)) (k : Int) : List (Int × Int) := bif polyB L && inB k 0 ((L.length : Int) - 1) then rotL L k.toNat else []
theorem startV_len (L : List (Int × Int)) (k : Int) : (startV L k).length ≤ 1048576 := by
  unfold startV
  cases h : polyB L
  · simp
  · have := polyB_all h
    cases inB k 0 ((L.length : Int) - 1)
    · simp
    · simp only [Bool.and_self, cond_true, rotL_len]; omega

set_option maxRecDepth 100000 in
set_option maxHeartbeats 2000000 in
theorem impl_start (A : Option Addr) (c : Nat) (L : List (Int × Int)) (k : Int) (w : World) (hA : PtsA w A L) (hc : L.length ≤ c) (hL : L.length ≤ 1048576) :
    Calls Try.prog 155 #[.slice A L.length c, .int .i64 k] w (Lists w (startV L k)) := by
  have PC := Lib.hid (impl_poly A c L w hA hL)
  have no : startV L k = [] → Hid (Lists w (startV L k) = fun e w' => ∃ v, e = .returned v ∧ w'.ownsRow w.heap.size 27 2 v 0 [] ∧ Below w.heap.size w w') := fun h => by
    show _ = _
    rw [h]; rfl
  cases hp : polyB L
  · have HU := no (by rw [startV, hp]; rfl)
    rw [hp] at PC
    clear no hA
    go_enter Try.func155, Try.ntmps155
    go_wp2_with fail
    refine PC.out.mono ?_
    rintro e w1 ⟨rfl, hb1⟩
    go_wp2_with fail
    go_ret
    rw [HU.out]
    exact ⟨_, rfl, World.ownsRow_nil _ _ _ _, hb1⟩
  · obtain ⟨h3, h10, hok⟩ := polyB_all hp
    rw [hp] at PC
    have HI := Lib.hid (fun w => from_any k 0 ((L.length : Int) - 1) w)
    cases hk : inB k 0 ((L.length : Int) - 1)
    · have HU := no (by rw [startV, hp, hk]; rfl)
      rw [hk] at HI
      clear no hA
      go_enter Try.func155, Try.ntmps155
      go_wp2_with fail
      refine PC.out.mono ?_
      rintro e w1 ⟨rfl, hb1⟩
      go_wp2_with fail
      refine (HI.out _).mono ?_
      rintro e w2 ⟨rfl, rfl⟩
      go_wp2_with fail
      go_ret
      rw [HU.out]
      exact ⟨_, rfl, World.ownsRow_nil _ _ _ _, hb1⟩
    · have hkb := inB_spec.1 hk
      obtain ⟨q, rfl⟩ : ∃ q : Nat, k = (q : Int) := ⟨k.toNat, by omega⟩
      have hq : q < L.length := by omega
      have HU : Hid (Lists w (startV L q) = fun e w' => ∃ v, e = .returned v ∧ w'.ownsRow w.heap.size 27 2 v (rotL L q).length (flat (rotL L q)) ∧ Below w.heap.size w w') := by
        show _ = _
        rw [startV, hp, hk]; rfl
      rw [hk] at HI
      obtain ⟨g, rfl, -⟩ := hA 0 (by omega)
      have HA := Lib.hid hA
      have HT := Lib.hid (fun (gs c1 c2 : Nat) (W : World) (hb : Below w.heap.size w W) s0 s1 => concat_any g gs c1 c2 q L W (ptsA_on hA hb) hq hL s0 s1)
      unfold Lists at HT
      have hkc : ¬ q = c := by omega
      have hkc' : ¬ c = q := by omega
      have hkn : (q : Int) ≤ (L.length : Int) := by omega
      have hkc2 : (q : Int) ≤ (c : Int) := by omega
      have hnc : (L.length : Int) ≤ (c : Int) := by omega
      clear no hA hkb
      go_enter Try.func155, Try.ntmps155
      go_wp2_with fail
      refine PC.out.mono ?_
      rintro e w1 ⟨rfl, hb1⟩
      go_wp2_with fail
      refine (HI.out _).mono ?_
      rintro e w2 ⟨rfl, rfl⟩
      go_wp2_with fail
      have hz := hb1.size
      have hal := (hb1.drew).alloc hz (.cells #[.slice (some ⟨g, q * 2, none⟩) (L.length - q) (c - q), .slice (some ⟨g, 0, none⟩) q c] 35)
      have hh := heap_alloc_new w2.drew (.cells #[.slice (some ⟨g, q * 2, none⟩) (L.length - q) (c - q), .slice (some ⟨g, 0, none⟩) q c] 35)
      go_region_with (go_at_call 182; refine (HT.out w2.heap.size (c - q) c _ hal (cell_of_row _ _ 0 _ _ _ hh) (cell_of_row _ _ 1 _ _ _ hh)).mono ?_; rintro e w3 ⟨v, rfl, own, hb3⟩)
      all_goals
        have R := Lib.hid (And.intro (own_base own hal.size) (hal.trans (hb3.mono hal.size)))
        clear own hb1 hb3 hal hh
        go_wp2_with fail
        go_ret
        rw [HU.out]
        exact ⟨_, rfl, R.out.1, R.out.2⟩
end Go.Proofs.Ytbmeemmihkedoaa
