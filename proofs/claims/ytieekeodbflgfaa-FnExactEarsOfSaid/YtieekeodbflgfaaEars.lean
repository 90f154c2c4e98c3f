/-
  Walks for EarsOf of the model and of the program.
-/
import Derived.Test.YtieekeodbflgfaaEar
import Derived.Test.YtieekeodbflgfaaInts
namespace Go.Proofs.Ytieekeodbflgfaa
open Go.RowKit

def earsTill (L : List (Int × Int)) (k : Nat) : List Int := ((List.range k).filter (earB L)).map fun (j : Nat) => (j : Int)
def earsV (L : List (Int × Int)) : List Int := bif polyB L then earsTill L L.length else []
theorem ears_step (L : List (Int × Int)) (k : Nat) : earsTill L (k + 1) = bif earB L k then earsTill L k ++ [(k : Int)] else earsTill L k := by
  unfold earsTill
  rw [List.range_succ, List.filter_append, List.map_append]
  cases h : earB L k <;> simp [h]
theorem ears_len (L : List (Int × Int)) (k : Nat) : (earsTill L k).length ≤ k := by
  unfold earsTill
  rw [List.length_map]
  exact Nat.le_trans (List.length_filter_le _ _) (by simp)
theorem earsV_len (L : List (Int × Int)) : (earsV L).length ≤ 1048576 := by
  unfold earsV
  cases hp : polyB L
  · exact Nat.zero_le _
  · have := ears_len L L.length
    have := (polyB_all hp).2.1
    show (earsTill L L.length).length ≤ _
    omega
/-- A function that hands back a new list of ints. -/
def ListsI (w : World) (M : List Int) (e : Ending) (w' : World) : Prop := ∃ v, e = .returned v ∧ w'.ownsRow w.heap.size 3 1 v M.length (ints M) ∧ Below w.heap.size w w'
theorem infoI : (Try.prog.info? 3).map (fun i => (i.zero, i.size, i.bytes)) = some (some (.int .i64 0), 1, 8) := by kernel_rfl
set_option maxRecDepth 100000 in
set_option maxHeartbeats 2000000 in
theorem spec_ears (A : Option Addr) (c : Nat) (L : List (Int × Int)) (w : World) (hA : PtsA w A L) (hL : L.length ≤ 1048576) :
    Calls Try.prog 36 #[.slice A L.length c] w (ListsI w (earsV L)) := by
  have PC := Lib.hid (spec_poly A c L w hA hL)
  cases hp : polyB L
  · have HU : Hid (ListsI w (earsV L) = fun e w' => ∃ v, e = .returned v ∧ w'.ownsRow w.heap.size 3 1 v 0 [] ∧ Below w.heap.size w w') := by
      show _ = _
      rw [earsV, hp]; rfl
    rw [hp] at PC
    clear hA
    go_enter Try.func36, Try.ntmps36
    go_wp2_with fail
    refine PC.out.mono ?_
    rintro e w1 ⟨rfl, hb1⟩
    go_wp2_with fail
    go_ret
    rw [HU.out]
    exact ⟨_, rfl, World.ownsRow_nil _ _ _ _, hb1⟩
  · obtain ⟨i0, hi0, hz0, hz1, hz2⟩ := info_parts infoI
    obtain ⟨h3, h10, hok⟩ := polyB_all hp
    have HU : Hid (ListsI w (earsV L) = fun e w' => ∃ v, e = .returned v ∧ w'.ownsRow w.heap.size 3 1 v (earsTill L L.length).length (ints (earsTill L L.length)) ∧ Below w.heap.size w w') := by
      show _ = _
      rw [earsV, hp]; rfl
    have HE := Lib.hid (fun (k : Nat) (hk : k < L.length) W (hb : Below w.heap.size w W) => earS_any A c L k W (ptsA_on hA hb) h3 h10 hok hk)
    rw [hp] at PC
    clear hA
    go_enter Try.func36, Try.ntmps36
    go_wp2_with fail
    refine PC.out.mono ?_
    rintro e w1 ⟨rfl, hb1⟩
    have own0 := World.ownsRow_lit (base := w.heap.size) (e := 3) (size := 1) w1 #[] 0 hb1.size (by unfold maxLen; omega) (by rfl)
    have b0 := hb1.alloc hb1.size (.cells #[] 3)
    go_wp2_with fail
    go_loopw [3, 4, 11] (fun s _ i wr => ∃ (k : Nat) (M : List Int), k ≤ L.length ∧ i = .int .i64 k ∧ Hid (M = earsTill L k) ∧ wr.ownsRow w.heap.size 3 1 s M.length (ints M) ∧ Below w.heap.size w wr) (fun _ _ i _ => L.length - (intOf i).toNat)
    case atStart => exact ⟨0, [], Nat.zero_le _, rfl, rfl, own0, b0⟩
    case round =>
      obtain ⟨wo, rfl⟩ : ∃ wo : World, wo = wr := ⟨_, rfl⟩
      clear hb1 own0 b0
      obtain ⟨k, M, hk, rfl, HM, own, hb⟩ := hrel
      by_cases hlt : k < L.length
      · have HC := Lib.hid (HE.out k hlt)
        have HS : Hid (earsTill L (k + 1) = bif earB L k then M ++ [(k : Int)] else M) := by
          show _ = _
          rw [HM.out, ears_step]
        have hML : M.length ≤ 10 := by rw [HM.out]; have := ears_len L k; omega
        clear HM
        go_wp2_with fail
        refine (HC.out _ hb).mono ?_
        rintro e w6 ⟨rfl, hb6⟩
        have b6 := below_on hb hb6
        have own6 := own_below own hb6
        have hs6 := b6.size
        clear hb hb6 own HC
        cases he : earB L k
        · have HT : Hid (M = earsTill L (k + 1)) := by show _ = _; rw [HS.out, he]; rfl
          have R := Lib.hid (And.intro own6 b6)
          clear own6 b6 hs6
          go_wp2_with fail
          go_roundw
          case rel => exact ⟨k + 1, M, by omega, by go_num, HT, R.out.1, R.out.2⟩
          case measure => simp [intOf]; omega
        · have HT : Hid (M ++ [(k : Int)] = earsTill L (k + 1)) := by show _ = _; rw [HS.out, he]; rfl
          go_wp2_with (at_builtin; refine wpList_append_own _ rfl _ _ 48 rfl w.heap.size 3 i0 (.int .i64 0) 1 8 Try.underlying48 hi0 hz0 hz1 hz2 rfl (by decide) _ _ _ rfl (own6.alloc _) ⟨w6.heap.size, 0, none⟩ 1 1 [.int .i64 (k : Int)] rfl rfl ?d1 ?d2 ?d3 ?d4 ?d5 ?_)
          case d1 => exact World.news_of_block (cs := #[.int .i64 (k : Int)]) (t := 3) (fr := (0, 0)) (heap_alloc_new w6 _)
          case d2 => simp [Value.oneCell']
          case d3 => unfold maxLen; omega
          case d4 => omega
          case d5 => simp; omega
          intro v' w7 own7 hgrow _
          have hrw := fun k hk => (own6.lt k hk).1
          have R : Hid (w7.ownsRow w.heap.size 3 1 v' (M ++ [(k : Int)]).length (ints (M ++ [(k : Int)])) ∧ Below w.heap.size w w7) :=
            ⟨by rw [ints_snoc, List.length_append]; exact own7, (b6.alloc hs6 _).grown hgrow (by simp; omega) hrw⟩
          clear own6 own7 hgrow b6 hrw
          go_wp2_with fail
          go_roundw
          case rel => exact ⟨k + 1, M ++ [(k : Int)], by omega, by go_num, HT, R.out.1, R.out.2⟩
          case measure => simp [intOf]; omega
      · have e : k = L.length := by omega
        have HQ : Hid (M = earsTill L L.length) := by
          show _ = _
          rw [HM.out, e]
        clear HM e
        go_wp2_with fail
        go_ret
        rw [HU.out, ← HQ.out]
        exact ⟨_, rfl, own, hb⟩
theorem impl_ear_at {L : List (Int × Int)} {k : Nat} {A : Option Addr} {c : Nat} {w : World} (hp : polyB L = true) (hk : k < L.length)
    (h : Calls Try.prog 35 #[.slice A L.length c, .int .i64 k] w fun e w' => e = .returned (.bool (earV L k)) ∧ Below w.heap.size w w') :
    Calls Try.prog 35 #[.slice A L.length c, .int .i64 k] w fun e w' => e = .returned (.bool (earB L k)) ∧ Below w.heap.size w w' := by
  have e : earV L k = earB L k := by
    rw [earV, hp, inB_spec.2 (by omega)]; rfl
  rw [e] at h
  exact h
set_option maxRecDepth 100000 in
set_option maxHeartbeats 2000000 in
theorem impl_ears (A : Option Addr) (c : Nat) (L : List (Int × Int)) (w : World) (hA : PtsA w A L) (hL : L.length ≤ 1048576) :
    Calls Try.prog 37 #[.slice A L.length c] w (ListsI w (earsV L)) := by
  have PC := Lib.hid (impl_poly A c L w hA hL)
  cases hp : polyB L
  · have HU : Hid (ListsI w (earsV L) = fun e w' => ∃ v, e = .returned v ∧ w'.ownsRow w.heap.size 3 1 v 0 [] ∧ Below w.heap.size w w') := by
      show _ = _
      rw [earsV, hp]; rfl
    rw [hp] at PC
    clear hA
    go_enter Try.func37, Try.ntmps37
    go_wp2_with fail
    refine PC.out.mono ?_
    rintro e w1 ⟨rfl, hb1⟩
    go_wp2_with fail
    go_ret
    rw [HU.out]
    exact ⟨_, rfl, World.ownsRow_nil _ _ _ _, hb1⟩
  · obtain ⟨i0, hi0, hz0, hz1, hz2⟩ := info_parts infoI
    obtain ⟨h3, h10, hok⟩ := polyB_all hp
    have HU : Hid (ListsI w (earsV L) = fun e w' => ∃ v, e = .returned v ∧ w'.ownsRow w.heap.size 3 1 v (earsTill L L.length).length (ints (earsTill L L.length)) ∧ Below w.heap.size w w') := by
      show _ = _
      rw [earsV, hp]; rfl
    have HE := Lib.hid (fun (k : Nat) (hk : k < L.length) W (hb : Below w.heap.size w W) => impl_ear_at hp hk (impl_ear A c L k W (ptsA_on hA hb) hL))
    rw [hp] at PC
    clear hA
    go_enter Try.func37, Try.ntmps37
    go_wp2_with fail
    refine PC.out.mono ?_
    rintro e w1 ⟨rfl, hb1⟩
    go_wp2_with fail
    go_loopw [3, 4, 10] (fun s _ i wr => ∃ (k : Nat) (M : List Int), k ≤ L.length ∧ i = .int .i64 k ∧ Hid (M = earsTill L k) ∧ wr.ownsRow w.heap.size 3 1 s M.length (ints M) ∧ Below w.heap.size w wr) (fun _ _ i _ => L.length - (intOf i).toNat)
    case atStart => exact ⟨0, [], Nat.zero_le _, rfl, rfl, World.ownsRow_nil _ _ _ _, hb1⟩
    case round =>
      obtain ⟨wo, rfl⟩ : ∃ wo : World, wo = wr := ⟨_, rfl⟩
      clear hb1
      obtain ⟨k, M, hk, rfl, HM, own, hb⟩ := hrel
      by_cases hlt : k < L.length
      · have HC := Lib.hid (HE.out k hlt)
        have HS : Hid (earsTill L (k + 1) = bif earB L k then M ++ [(k : Int)] else M) := by
          show _ = _
          rw [HM.out, ears_step]
        have hML : M.length ≤ 10 := by rw [HM.out]; have := ears_len L k; omega
        clear HM
        go_wp2_with fail
        refine (HC.out _ hb).mono ?_
        rintro e w6 ⟨rfl, hb6⟩
        have b6 := below_on hb hb6
        have own6 := own_below own hb6
        have hs6 := b6.size
        clear hb hb6 own HC
        cases he : earB L k
        · have HT : Hid (M = earsTill L (k + 1)) := by show _ = _; rw [HS.out, he]; rfl
          have R := Lib.hid (And.intro own6 b6)
          clear own6 b6 hs6
          go_wp2_with fail
          go_roundw
          case rel => exact ⟨k + 1, M, by omega, by go_num, HT, R.out.1, R.out.2⟩
          case measure => simp [intOf]; omega
        · have HT : Hid (M ++ [(k : Int)] = earsTill L (k + 1)) := by show _ = _; rw [HS.out, he]; rfl
          go_wp2_with (at_builtin; refine wpList_append_own _ rfl _ _ 48 rfl w.heap.size 3 i0 (.int .i64 0) 1 8 Try.underlying48 hi0 hz0 hz1 hz2 rfl (by decide) _ _ _ rfl (own6.alloc _) ⟨w6.heap.size, 0, none⟩ 1 1 [.int .i64 (k : Int)] rfl rfl ?d1 ?d2 ?d3 ?d4 ?d5 ?_)
          case d1 => exact World.news_of_block (cs := #[.int .i64 (k : Int)]) (t := 3) (fr := (0, 0)) (heap_alloc_new w6 _)
          case d2 => simp [Value.oneCell']
          case d3 => unfold maxLen; omega
          case d4 => omega
          case d5 => simp; omega
          intro v' w7 own7 hgrow _
          have hrw := fun k hk => (own6.lt k hk).1
          have R : Hid (w7.ownsRow w.heap.size 3 1 v' (M ++ [(k : Int)]).length (ints (M ++ [(k : Int)])) ∧ Below w.heap.size w w7) :=
            ⟨by rw [ints_snoc, List.length_append]; exact own7, (b6.alloc hs6 _).grown hgrow (by simp; omega) hrw⟩
          clear own6 own7 hgrow b6 hrw
          go_wp2_with fail
          go_roundw
          case rel => exact ⟨k + 1, M ++ [(k : Int)], by omega, by go_num, HT, R.out.1, R.out.2⟩
          case measure => simp [intOf]; omega
      · have e : k = L.length := by omega
        have HQ : Hid (M = earsTill L L.length) := by
          show _ = _
          rw [HM.out, e]
        clear HM e
        go_wp2_with fail
        go_ret
        rw [HU.out, ← HQ.out]
        exact ⟨_, rfl, own, hb⟩
end Go.Proofs.Ytieekeodbflgfaa
