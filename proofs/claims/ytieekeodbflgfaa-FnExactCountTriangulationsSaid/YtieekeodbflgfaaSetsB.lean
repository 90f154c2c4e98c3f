/-
  maps.DeleteFunc and countSets over maps of pairs.
-/
import Derived.Test.YtieekeodbflgfaaSetsA
import Derived.Test.YtieekeodbflgfaaMapsShelf
namespace Go.Proofs.Ytieekeodbflgfaa
open Go.RowKit
open Go.Maps (Keyed)

theorem grown_refl (w : World) (row : Option Nat) : w.grownBy w row := ⟨rfl, rfl, rfl, Nat.le_refl _, fun _ _ _ => rfl⟩
theorem grown_alloc (w : World) (o : Obj) (row : Option Nat) : w.grownBy (w.alloc o) row := (World.grownBy_alloc w o none).but row
-- <?i.countSets$1>
set_option maxRecDepth 100000 in
theorem clo_any (g : Nat) (a b c d : Int) (v : Value) (w : World) (hg : At w g a b 95) :
    Calls Try.prog 122 #[(.agg #[.int .i64 c, .int .i64 d]), v, .pointer (some ⟨g, 0, none⟩)] w fun e w' => e = .returned (.bool (crB (a, b) (c, d))) ∧ Below w.heap.size w w' := by
  have hal := (Below.refl w.heap.size w).alloc (Nat.le_refl _) (.cells #[.int .i64 c, .int .i64 d] 95)
  have m1 := hg.step hal
  have m2 := at_new w c d 95
  have HAL := Lib.hid hal
  have v1 := m1.c0; have v2 := m1.c1; have v3 := m2.c0; have v4 := m2.c1
  clear m1 m2 hal hg
  go_enter Try.func122, Try.ntmps122
  go_wp2_with fail
  refine (crosses_any a b c d _).mono ?_
  rintro e w2 ⟨rfl, hb⟩
  have B := Lib.hid (below_on HAL.out hb)
  clear v1 v2 v3 v4 hb HAL
  go_wp2_with fail
  go_ret
  exact ⟨rfl, B.out⟩
-- <?>
set_option maxRecDepth 100000 in
set_option maxHeartbeats 2000000 in
theorem del_any (b g : Nat) (R : List (Int × Int)) (x y : Int) (w : World) (hM : MapS w b R) (hR : R.Nodup) (hg : At w g x y 95) (hgb : g ≠ b) :
    Calls Try.prog 121 #[.map (some b), .func (.func 122) #[] #[.pointer (some ⟨g, 0, none⟩)]] w fun e w' => e = .returned (.tuple #[]) ∧ MapS w' b (ncL (x, y) R) ∧ w.grownBy w' (some b) := by
  obtain ⟨D, n, hown, h2, h3⟩ := hM
  have HAT := Lib.hid hg
  have HH := Lib.hid (And.intro h2 h3)
  have hbl := hown.lt
  clear h2 h3 hg
  go_enter Try.func121, Try.ntmps121
  go_wp2_with (first
    | (at_range; refine wpList_range_own _ rfl _ 85 rfl 95 4 pr_keyed Try.underlying85 _ b n D rfl hown ?_; intro w0 hrg0 hg0 hs0)
    | go_in)
  have HR0 : Hid (RangeS w0 b w.heap.size [] R (Maps.size D)) := rangeS_start hR HH.out.1 HH.out.2 hrg0
  have HG0 : Hid (w.grownBy w0 (some b)) := hg0.but _
  clear hrg0 hg0 hs0 hown HH
  go_frame
  go_loopw [4, 5] (fun _ _ wr => ∃ (Rk Rl : List (Int × Int)) (cnt : Nat), Hid (RangeS wr b w.heap.size Rk Rl cnt) ∧ Hid ((Rk ++ ncL (x, y) Rl).Perm (ncL (x, y) R)) ∧ Hid (w.grownBy wr (some b))) (fun _ _ wr => wr.rangeLeft b w.heap.size)
  case atStart => exact ⟨[], R, _, HR0, List.Perm.refl _, HG0⟩
  case round =>
    obtain ⟨wo, rfl⟩ : ∃ wo : World, wo = wr := ⟨_, rfl⟩
    obtain ⟨Rk, Rl, cnt, HRG, HP, HG⟩ := hrel
    clear HR0 HG0
    go_wp2_with (first
      | (at_next; refine step_next _ rfl _ rfl b w.heap.size Rk Rl cnt rfl HRG.out ?_ ?_)
      | go_in)
    · intro hnil
      have HF : Hid (MapS wo b (ncL (x, y) R)) := by
        have q := HRG.out.map
        have p := HP.out
        rw [hnil] at q p
        exact q.perm p
      go_wp2_with fail
      go_end0
      exact ⟨rfl, HF.out, HG.out⟩
    · intro px py c w1 cnt1 hm hx hy hrg1 hlt hg1 hen
      have HRG1 := Lib.hid hrg1
      have HLT := Lib.hid hlt
      have hg1' : Hid (w.grownBy w1 (some b)) := HG.out.andThen hg1 (fun j hj => by cases hj; exact Or.inl (Nat.le_refl _))
      have hat1 := HAT.out.grown hg1'.out (by simpa using hgb)
      have hal := (Below.refl w1.heap.size w1).alloc (Nat.le_refl _) (.cells #[.int .i64 px, .int .i64 py] 95)
      have HAT2 := Lib.hid (hat1.step hal)
      have hnw := at_new w1 px py 95
      have HNW := Lib.hid hnw
      have HG2 : Hid (w1.grownBy (w1.alloc (.cells #[.int .i64 px, .int .i64 py] 95)) none) := World.grownBy_alloc w1 _ none
      have hrl := hrg1.ltr
      have hbl1 := hrg1.ltb
      have v1 := hnw.c0; have v2 := hnw.c1
      clear hrg1 hlt hg1 hat1 hal hnw
      go_wp2_with fail
      refine (clo_any g x y px py c _ HAT2.out).mono ?_
      rintro e w2 ⟨rfl, hb2⟩
      have hgr : w1.grownBy w2 none := HG2.out.andThen (below_grown hb2) (fun j hj => by cases hj)
      have HRG2 : Hid (RangeS w2 b w.heap.size (Rk ++ [(px, py)]) (Rl.erase (px, py)) cnt1) := HRG1.out.kept hgr (by simp) (by simp)
      have HGW : Hid (w.grownBy w2 (some b)) := hg1'.out.andThen hgr (fun j hj => by cases hj)
      have hnw2 := HNW.out.step hb2
      have v3 := hnw2.c0; have v4 := hnw2.c1
      clear hgr hb2 hnw2 v1 v2 HRG1 HAT2 HNW HG2
      have hpe : Hid ((ncL (x, y) Rl).Perm (ncL (x, y) ((px, py) :: Rl.erase (px, py)))) := (List.perm_cons_erase hm).filter _
      cases hcr : crB (x, y) (px, py)
      · have HP2 : Hid (((Rk ++ [(px, py)]) ++ ncL (x, y) (Rl.erase (px, py))).Perm (ncL (x, y) R)) := by
          have q := hpe.out
          rw [ncL_cons, hcr, cond_false] at q
          refine List.Perm.trans ?_ HP.out
          rw [List.append_assoc]
          exact q.symm.append_left Rk
        clear hpe
        go_wp2_with fail
        go_roundw
        case rel => exact ⟨_, _, cnt1, HRG2, HP2, HGW⟩
        case measure => rw [HRG2.out.left, HRG.out.left]; exact HLT.out
      · have HP2 : Hid ((Rk ++ ncL (x, y) (Rl.erase (px, py))).Perm (ncL (x, y) R)) := by
          have q := hpe.out
          rw [ncL_cons, hcr, cond_true] at q
          exact (q.symm.append_left Rk).trans HP.out
        clear hpe
        go_wp2_with (first
          | (at_delete; refine step_delete _ rfl _ _ rfl b w.heap.size Rk (Rl.erase (px, py)) cnt1 px py hx hy rfl HRG2.out rfl ?_; intro w3 cnt3 hrg3 hle hg3)
          | go_in)
        have HRG3 := Lib.hid hrg3
        have HGW3 : Hid (w.grownBy w3 (some b)) := HGW.out.andThen hg3 (fun j hj => by cases hj; exact Or.inr rfl)
        have hlt3 : cnt3 < cnt := Nat.lt_of_le_of_lt hle HLT.out
        clear hrg3 hg3 hle
        go_frame
        go_roundw
        case rel => exact ⟨_, _, cnt3, HRG3, HP2, HGW3⟩
        case measure => rw [HRG3.out.left, HRG.out.left]; exact hlt3
end Go.Proofs.Ytieekeodbflgfaa
