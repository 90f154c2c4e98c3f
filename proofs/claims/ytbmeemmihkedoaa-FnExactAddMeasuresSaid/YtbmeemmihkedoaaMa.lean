/-
  Walks and facts of this seat, part Ma (merged by a script of this repo out of smaller texts).
-/
import Derived.Test.YtbmeemmihkedoaaLa
import Derived.RangeFuncSeq
import Derived.Sort.MapsRangeIn
import Derived.RegionIn
import Derived.Shelf.SlGeneric
import Derived.Shelf.SlSortCmp.WholeK
import Derived.Ground.SlsfProg
import Derived.Test.YtbmeemmihkedoaaProg
import Derived.Laws.CopyRow
/-! KeysM -/
namespace Go.Proofs.Ytbmeemmihkedoaa
open Go.RowKit Go.Shelf Go.Sort
attribute [local go_sem] Oper.semAt_some

theorem keysM_any (mb : Option Nat) (w : World) :
    Calls Try.prog 178 #[.map mb] w fun e w' => e = .returned (.func (.func 196) #[] #[.pointer (some ⟨w.heap.size, 0, none⟩)]) ∧ w.alloc (.cells #[.map mb] 81) = w' := by
  go_enter Try.func178, Try.ntmps178
  go_wp2_with fail
  go_ret
  exact ⟨rfl, rfl⟩
theorem rangeM_walks {w w' : World} {b r n cnt : Nat} {M : Ms} {Rk Rl : List (Int × Int)} (h : RangeM w b r M Rk Rl n cnt) (hk : KeepsWalks w w') : RangeM w' b r M Rk Rl n cnt := by
  obtain ⟨D, left, h1, h2, h3, h4⟩ := h
  have h1' := h1.of_walks hk
  refine ⟨D, left, h1', ⟨?_, h2.has, h2.at', h2.wf⟩, h3, h4⟩
  exact h1'.owns
theorem rangeM_iter {w : World} {b r n cnt : Nat} {M : Ms} {Rk Rl : List (Int × Int)} (h : RangeM w b r M Rk Rl n cnt) : ∃ o : Obj, w.heap[r]? = some o ∧ o.isWalk = true := by
  obtain ⟨D, left, h1, -⟩ := h
  exact h1.iter_walk
/-- THE STEP of a range, as a law at the operation, inside a fence. -/
theorem stepMIn_next {F : Fence} {nf : Nat} {ops : Array Oper} {rest : List Oper} {o : Oper} {a : Act} {Q : Exit → Act → World → Prop} (w : World) (hg : o.guard = none) (it : Operand) (hop : o.op = Op.next it false) (b r : Nat) (M : Ms) (Rk Rl : List (Int × Int)) (n cnt : Nat) (hM : OrdM M)
    (hit : a.eval it = .pointer (some ⟨r, 0, none⟩)) (h : RangeM w b r M Rk Rl n cnt)
    (hDone : Rl = [] → wpListIn F nf Try.prog ops Q rest (a.put o.dst (.tuple #[.bool false])) w)
    (hMore : ∀ (x y : Int) (w' : World) (cnt' : Nat), (x, y) ∈ Rl → wf64 x → wf64 y → RangeM w' b r M (Rk ++ [(x, y)]) (Rl.erase (x, y)) n cnt' → cnt' < cnt → w.grownBy w' (some r) →
      (Instr.entry (.pointer (some ⟨r, 0, none⟩))).run Try.prog w' = .ok (.tuple #[(.agg #[.int .i64 x, .int .i64 y]), .int .i64 (valM M (x, y))]) w' → wpListIn F nf Try.prog ops Q rest (a.put o.dst (.tuple #[.bool true, (.agg #[.int .i64 x, .int .i64 y]), .int .i64 (valM M (x, y))])) w') :
    wpListIn F nf Try.prog ops Q (o :: rest) a w := by
  obtain ⟨D, left, h1, h2, h4, h5⟩ := h
  have hbr : b ≠ r := Ne.symm h1.ne
  have hnd : (Rk ++ Rl).Nodup := h5.nodup_iff.2 (ordM_nodup hM)
  have hwf : ∀ z ∈ Rl, wf64 z.1 ∧ wf64 z.2 := fun z hz => h2.wf z (h5.mem_iff.1 (List.mem_append_right _ hz))
  refine wpListIn_next_ranges w hg it hop 27 pt_keyed (plainElem Try.prog 3) keyPV (Value.int .i64) keyPV_inv elemT_inv b r n D left cnt hit h1 (fun _ hl => hDone ?_) ?_
  · cases Rl with
    | nil => rfl
    | cons z R =>
      obtain ⟨a1, a2⟩ := hwf z (by simp)
      have := (h4 z.1 z.2 a1 a2).2 (by simp)
      rw [hl] at this
      cases this
  · rintro ⟨x, y⟩ c l yd w' cnt' hk hl hv hat hr hlt hgr hsz hen
    obtain ⟨x', y', e, rfl, hx, hy⟩ := pt_inv hk
    have e' : x = x' ∧ y = y' := by simpa [keyPV] using e
    obtain ⟨rfl, rfl⟩ := e'
    have hm := (h4 x y hx hy).1 hl
    have hnl : Rl.Nodup := (List.nodup_append.1 hnd).2.1
    have hp : (Rk ++ Rl).Perm ((Rk ++ [(x, y)]) ++ Rl.erase (x, y)) := by
      rw [List.append_assoc]
      exact (List.perm_cons_erase hm).append_left Rk
    have hc : c = valM M (x, y) := by
      obtain ⟨c', e1, e2, _⟩ := plainElem_int_inv Try.underlying3 hv
      cases e1
      have e3 : yd.1 = .lit (.int .i64 c) := by rw [e2]
      have h6 := h2.at' x y hx hy
      rw [hat, e3] at h6
      exact litT_inj h6
    subst hc
    exact hMore x y w' cnt' hm hx hy ⟨D, _, hr, h2.grown hgr (fun e => hbr (Option.some.inj e)), leftM_struck hx hy hnl h4, hp.symm.trans h5⟩ hlt hgr hen
theorem keepsW_below {W W' : World} (h : Below W.heap.size W W') : KeepsWalks W W' := ⟨h.size, fun k o ho _ => (h.block k (Array.getElem?_eq_some_iff.1 ho).1).trans ho⟩
theorem keepsW_others {W W' : World} (h : KeepsOthers W W') : KeepsWalks W W' := ⟨h.size, fun k o ho hw => h.same k o ho (by cases o <;> simp_all [Obj.isWalk, Obj.isCells])⟩
def keyEnc (z : Int × Int) : Array Value := #[(.agg #[.int .i64 z.1, .int .i64 z.2])]
theorem keepsW_b {w : World} (W : World) (l : Nat) (o o' : Obj) (_ : w.heap.size ≤ l) (h : W.heap[l]? = some o) (_ : o.isCells = false) (h2 : o.isWalk = false) : KeepsWalks W (W.putObj l o') := KeepsWalks.putObj _ h h2
set_option maxRecDepth 100000 in
set_option maxHeartbeats 4000000 in
/-- **The iterator over the keys of a map of measures.** -/
theorem keysM_stops (nf Bm b n : Nat) (M : Ms) (w : World) (hM : OrdM M) (hBm : Bm < w.heap.size) (hm : w.cell? ⟨Bm, 0, none⟩ = some (.map (some b))) (hown : MapM w b M n) :
    SeqStopsK Fence.wide nf Try.prog 196 #[.pointer (some ⟨Bm, 0, none⟩)] keyEnc KeepsWalks (fun ys => ys.Perm (M.map Prod.fst)) (fun _ => True) M.length w := fun l J Jx W hW hJ _ hY h0 => by
  obtain ⟨D, hD⟩ := hown.on hW
  have hbox := (hW.cell (p := ⟨Bm, 0, none⟩) hBm).trans hm
  have howns := hD.own
  refine callsIn_of_wp Try.func196 rfl trivial ?_ rfl
  simp only [Try.ntmps196, List.size_toArray, List.length_cons, List.length_nil, Nat.reduceAdd, Nat.reduceSub, Array.replicate_succ, Array.replicate_zero, List.push_toArray, List.append_toArray, List.nil_append, List.cons_append]
  gi_wp2_with (first
    | (gi_at_range; refine wpListIn_range_own _ rfl _ 81 rfl 27 3 pt_keyed Try.underlying81 _ b n _ rfl howns ?_; intro w0 hrg0 hg0 hs0)
    | gi_in)
  go_frame
  have HR0 := rangeM_start hM hD hg0 hrg0
  have HJ0 := hJ [] W w0 none h0 hg0 (fun r e => by cases e)
  gi_loopw [3] (fun _ wr => ∃ (Rk Rl : List (Int × Int)) (cnt : Nat), RangeM wr b W.heap.size M Rk Rl n cnt ∧ J Rk wr) (fun _ wr => wr.rangeLeft b W.heap.size)
  case atStart => exact ⟨[], _, _, HR0, HJ0⟩
  case round =>
    obtain ⟨Rk, Rl, cnt, hrg, hJs⟩ := hrel
    gi_wp2_with (first
      | (gi_at_next; refine stepMIn_next _ rfl _ rfl b W.heap.size M Rk Rl n cnt hM rfl hrg ?_ ?_)
      | gi_in)
    · intro hl
      subst hl
      have hp : Rk.Perm (M.map Prod.fst) := by
        obtain ⟨D, left, -, -, -, hp⟩ := hrg
        rwa [List.append_nil] at hp
      gi_wp2
      go_end0
      exact ⟨⟨_, rfl⟩, .inl ⟨Rk, hp, hJs⟩⟩
    · intro x y w2 cnt2 hm2 hx hy hrg2 hlt hg2 hen
      have hJ2 : J Rk w2 := hJ Rk wr w2 (some W.heap.size) hJs hg2 (fun r e => by cases e; exact ⟨Nat.le_refl _, rangeM_iter hrg⟩)
      have hlen : Rk.length < M.length := by
        obtain ⟨D, left, -, -, -, hp⟩ := hrg
        have h1 := hp.length_eq
        have h2 := List.length_pos_of_mem hm2
        simp at h1; omega
      have hb3 := below1 w2 (.cells #[.int .i64 x, .int .i64 y] 27)
      have A3 := at_new w2 x y 27
      have e0 := A3.c0; have e1 := A3.c1
      have hJ3 := hJ Rk w2 _ none hJ2 (grown_of_below hb3) (fun r e => by cases e)
      have hrg3 := hrg2.kept (grown_of_below hb3) (by simp) (by simp)
      obtain ⟨fn, tmps, assign, body, hyy, hR⟩ := hY Rk (x, y) _ hJ3 hlen
      have hyy' : _ := hyy
      simp only [keyEnc] at hyy'
      clear hyy hm2
      gi_wp2
      refine ⟨fun e => (by cases e), hR.mono ?_⟩
      have hlo := hrg.left
      rintro e W3 (⟨rfl, hJ4, hk4⟩ | ⟨rfl, hJx⟩)
      · have hrg4 := rangeM_walks hrg3 hk4
        gi_wp2
        go_roundw
        case rel => exact ⟨_, _, cnt2, hrg4, hJ4⟩
        case measure => rw [hrg4.left, hlo]; exact hlt
      · gi_wp2
        refine bodyPost_ret (results_none rfl _ _ _) rfl ?_
        exact ⟨⟨_, rfl⟩, .inr ⟨_, trivial, hJx⟩⟩
theorem infoP2 : (Try.prog.info? 27).map (fun i => (i.zero, i.size, i.bytes)) = some (some (.agg #[.int .i64 0, .int .i64 0]), 2, 16) := by kernel_rfl
set_option maxRecDepth 100000 in
set_option maxHeartbeats 4000000 in
theorem appendSeq_any (Bm b n : Nat) (M : Ms) (w : World) (hM : OrdM M) (hBm : Bm < w.heap.size) (hm : w.cell? ⟨Bm, 0, none⟩ = some (.map (some b))) (hown : MapM w b M n) (hl : M.length ≤ 1000) :
    Calls Try.prog 221 #[.slice none 0 0, .func (.func 196) #[] #[.pointer (some ⟨Bm, 0, none⟩)]] w fun e w' => ∃ v ks, e = .returned v ∧ ks.Perm (M.map Prod.fst) ∧ w'.ownsRow w.heap.size 27 2 v ks.length (flat ks) ∧ Below w.heap.size w w' := by
  obtain ⟨i0, hi0, hz0, hz1, hz2⟩ := info_parts infoP2
  refine (callsIn_wide (n := 8)).1 ?_
  refine callsIn_of_wp_marks Try.func221 rfl trivial ?_ rfl
  simp only [Try.ntmps221, List.size_toArray, List.length_cons, List.length_nil, Nat.reduceAdd, Nat.reduceSub, Array.replicate_succ, Array.replicate_zero, List.push_toArray, List.append_toArray, List.nil_append, List.cons_append]
  gi_wp2
  have bB := Boxed.new w 35 (.slice none 0 0)
  have hb0 := below1 w (.cells #[.slice none 0 0] 35)
  have hown0 := hown.on hb0
  have hm0 := cell_on hb0 rfl hm
  have hsz : (w.alloc (.cells #[.slice none 0 0] 35)).heap.size = w.heap.size + 1 := by simp
  obtain ⟨W0, hW0⟩ : ∃ W0, w.alloc (.cells #[.slice none 0 0] 35) = W0 := ⟨_, rfl⟩
  rw [hW0] at bB hb0 hown0 hm0 hsz ⊢
  clear hW0 hown hm
  refine wpIn_rangeFunc_ownH rfl (by decide) (gf := 196) (lb := #[.pointer (some ⟨Bm, 0, none⟩)]) rfl trivial (enters_of Try.func196 (by kernel_rfl) rfl)
    (keysM_stops 7 Bm b n M W0 hM (by omega) hm0 hown0) KeepsWalks.trans (fun W l o o' h1 h2 h3 h4 => keepsW_b (w := W0) W l o o' h1 h2 h3 h4) (Below.refl _ _) (fun _ => rfl)
    (fun pre W => (∃ v, Boxed W w.heap.size 35 v ∧ W.ownsRow (w.heap.size + 1) 27 2 v pre.length (flat pre) ∧ True) ∧ Below w.heap.size w W)
    (fun _ _ _ => False)
    (OwnFrom.and (Own.from (holdsRow_own (w.heap.size + 1) w.heap.size 35 27 2 (fun pre => pre.length) (fun pre => flat pre) (fun _ _ => True)) _) (ownFrom_below (Nat.le_refl _) (by omega)))
    (fun _ => ownFrom_pure _ (fun _ => False))
    ⟨⟨_, bB, World.ownsRow_nil _ _ _ _, trivial⟩, hb0⟩
    (fun z a' W => ∃ Bx, w.heap.size < Bx ∧ At W Bx z.1 z.2 27 ∧ a' = { tmps := #[.slice none 0 0, .func (.func 196) #[] #[.pointer (some ⟨Bm, 0, none⟩)], .pointer (some ⟨w.heap.size, 0, none⟩), undef, .slice none 0 0, .pointer (some ⟨Bx, 0, none⟩), .func (.func 196) #[] #[.pointer (some ⟨Bm, 0, none⟩)], (.agg #[.int .i64 z.1, .int .i64 z.2]), undef, undef, undef, undef, undef], defers := [] })
    (fun z a' _ X Y row hs hg hr => by obtain ⟨Bx, e1, e2, e3⟩ := hs; exact ⟨Bx, e1, at_own _ _ _ _ _ () X Y row e2 hg hr, e3⟩)
    ?assign ?body ?done ?stop
  case assign =>
    rintro l pre z W K ⟨⟨v, bB4, own4, -⟩, hB4⟩ hK
    simp only [keyEnc]
    gi_wp2
    have hs4 := hB4.size
    have hb := below1 W (.cells #[.int .i64 z.1, .int .i64 z.2] 27)
    exact hK _ _ (keepsFrom_below hb) (keepsW_below hb) ⟨⟨v, boxed_on bB4 hb, own_below own4 hb, trivial⟩, hB4.trans (hb.mono hs4)⟩ ⟨W.heap.size, bB4.lt, at_new W z.1 z.2 27, rfl⟩
  case body =>
    rintro l pre ⟨px, py⟩ a' W hl2 hlp ⟨⟨v, bB4, own4, -⟩, hB4⟩ ⟨Bx, hBx, sX, rfl⟩ hlt
    have hs4 := hB4.size
    have c0 := sX.c0; have c1 := sX.c1
    have cB := bB4.cell
    have fB := bB4.frozen
    have hlb := sX.lt
    have hrw := fun k hk => (own4.lt k hk).1
    simp only at c0 c1
    gi_wp2_with (gi_at_builtin; refine wpListIn_append_own _ rfl _ _ 35 rfl (w.heap.size + 1) 27 i0 (.agg #[.int .i64 0, .int .i64 0]) 2 16 Try.underlying35 hi0 hz0 hz1 hz2 rfl (by decide) _ _ _ rfl (own4.alloc _) ⟨W.heap.size, 0, none⟩ 1 1 [.int .i64 px, .int .i64 py] rfl rfl ?d1 ?d2 ?d3 ?d4 ?d5 ?_)
    case d2 => simp [Value.oneCell']
    case d3 => unfold maxLen; omega
    case d4 => omega
    intro v' w6 own6 hgrow _
    obtain ⟨g6, cp6, rfl⟩ := ownsRow_succ own6
    obtain ⟨hv1, hv2, hr2, hk2, hb2⟩ := bB4.appended (by decide) (own_base own4 (show w.heap.size ≤ w.heap.size + 1 by omega)) hs4 (Nat.le_refl _) (own_base own6 (show w.heap.size ≤ w.heap.size + 1 by omega)) hgrow
    have hc6 := hv1.cell
    have hf6 := hv1.frozen
    have hv3 := hrow_other own6 0 (show w.heap.size < w.heap.size + 1 by omega) (.slice (some ⟨g6, 0, none⟩) (pre.length + 1) cp6)
    have hB7 := hB4.trans hb2
    have hF7 := hk2.from W0.heap.size
    have R := Lib.hid (And.intro hv2 (And.intro hv3 (And.intro hB7 (And.intro hF7 (keepsW_others hk2)))))
    clear hv2 hr2 hk2 hb2 hv3 hB7 hF7 hgrow own6 own4 cB fB c0 c1 sX bB4 hv1
    gi_wp2
    obtain ⟨r1, r2, r3, r4, r5⟩ := R.out
    refine ⟨r4, r5, ⟨⟨_, r1, ?_, trivial⟩, r3⟩⟩
    simp only [flat_append, List.length_append, List.length_cons, List.length_nil]
    exact r2
  case done =>
    rintro D ys W hD hp ⟨⟨v, bB4, own4, -⟩, hB4⟩ hK
    have cB := bB4.cell
    gi_wp2
    refine ⟨by simp, .inl ⟨_, _, rfl, run_takeDeferred hK, ?_⟩⟩
    have hBD := hB4.trans (belowK_b (w := w) (Nat.le_refl _) W D _ (.deferred none) (by omega) hK rfl rfl)
    refine ⟨_, results_tmp rfl _ _ _, v, ys, rfl, hp, ?_, hBD⟩
    have own5 := own4.kept (grownBy_putObj' W D (.deferred none)) (by
      cases hv : v.ownBlock with
      | none => exact .inl rfl
      | some k => exact .inr (fun e => by
          have e := Option.some.inj e
          subst e
          rcases own4.2 with ⟨h1, -⟩ | ⟨g, cap, cur, h1, -, hg, -⟩
          · rw [h1] at hv; cases hv
          · rw [h1] at hv; cases hv; rw [hg] at hK; cases hK))
    exact own_base own5 (by omega)
  case stop =>
    rintro D k pre W hD hpre h hK
    exact h.elim
end Go.Proofs.Ytbmeemmihkedoaa

/-! Shelf -/
namespace Go.Proofs
open Go.Shelf
def Try.laysSort_ren : Go.Shelf.Ren := ⟨fun | 6 => 161 | 15 => 185 | 14 => 184 | 28 => 208 | 29 => 209 | 20 => 200 | 21 => 201 | 22 => 202 | 23 => 203 | 24 => 204 | 25 => 205 | 26 => 206 | 27 => 207 | 46 => 222 | 47 => 223 | 48 => 224 | 49 => 225 | 50 => 226 | 57 => 230 | n => n, fun | 22 => 35 | 24 => 27 | 25 => 70 | 3 => 3 | 39 => 148 | 0 => 0 | 53 => 164 | 55 => 166 | 4 => 4 | 46 => 158 | 45 => 157 | 50 => 124 | 5 => 5 | 9 => 9 | 66 => 174 | 70 => 178 | 76 => 182 | 77 => 68 | n => n, fun | n => n⟩
theorem Try.laysSort : Go.Proofs.SlLaysF0.n6 Try.prog Try.laysSort_ren := {
  mixed := by kernel_rfl
  f6 := ⟨Try.f161.name, by decide, Try.func161.trans (congrArg some (by kernel_rfl))⟩
  f14 := ⟨Try.f184.name, by decide, Try.func184.trans (congrArg some (by kernel_rfl))⟩
  f15 := Try.func185.trans (congrArg some (by kernel_rfl))
  f20 := ⟨Try.f200.name, by decide, Try.func200.trans (congrArg some (by kernel_rfl))⟩
  f21 := ⟨Try.f201.name, by decide, Try.func201.trans (congrArg some (by kernel_rfl))⟩
  f22 := ⟨Try.f202.name, by decide, Try.func202.trans (congrArg some (by kernel_rfl))⟩
  f23 := ⟨Try.f203.name, by decide, Try.func203.trans (congrArg some (by kernel_rfl))⟩
  f24 := ⟨Try.f204.name, by decide, Try.func204.trans (congrArg some (by kernel_rfl))⟩
  f25 := ⟨Try.f205.name, by decide, Try.func205.trans (congrArg some (by kernel_rfl))⟩
  f26 := ⟨Try.f206.name, by decide, Try.func206.trans (congrArg some (by kernel_rfl))⟩
  f27 := ⟨Try.f207.name, by decide, Try.func207.trans (congrArg some (by kernel_rfl))⟩
  f28 := Try.func208.trans (congrArg some (by kernel_rfl))
  f29 := Try.func209.trans (congrArg some (by kernel_rfl))
  f46 := ⟨Try.f222.name, by decide, Try.func222.trans (congrArg some (by kernel_rfl))⟩
  f47 := Try.func223.trans (congrArg some (by kernel_rfl))
  f48 := Try.func224.trans (congrArg some (by kernel_rfl))
  f49 := ⟨Try.f225.name, by decide, Try.func225.trans (congrArg some (by kernel_rfl))⟩
  f50 := ⟨Try.f226.name, by decide, Try.func226.trans (congrArg some (by kernel_rfl))⟩
  f57 := ⟨Try.f230.name, by decide, Try.func230.trans (congrArg some (by kernel_rfl))⟩
  t0 := Try.underlying0
  a0 := Try.isAgg0
  z0 := Try.sizeOf0
  v0 := Try.zeroValue0
  t3 := Try.underlying3
  a3 := Try.isAgg3
  z3 := Try.sizeOf3
  v3 := Try.zeroValue3
  t4 := Try.underlying4
  a4 := Try.isAgg4
  z4 := Try.sizeOf4
  v4 := Try.zeroValue4
  t5 := Try.underlying5
  a5 := Try.isAgg5
  z5 := Try.sizeOf5
  v5 := Try.zeroValue5
  t9 := Try.underlying9
  a9 := Try.isAgg9
  z9 := Try.sizeOf9
  v9 := Try.zeroValue9
  t22 := Try.underlying35
  a22 := Try.isAgg35
  z22 := Try.sizeOf35
  v22 := Try.zeroValue35
  t25 := Try.underlying70
  a25 := Try.isAgg70
  z25 := Try.sizeOf70
  v25 := Try.zeroValue70
  t39 := Try.underlying148
  a39 := Try.isAgg148
  z39 := Try.sizeOf148
  v39 := Try.zeroValue148
  t45 := Try.underlying157
  a45 := Try.isAgg157
  z45 := Try.sizeOf157
  v45 := Try.zeroValue157
  t46 := Try.underlying158
  a46 := Try.isAgg158
  z46 := Try.sizeOf158
  v46 := Try.zeroValue158
  t50 := Try.underlying124
  a50 := Try.isAgg124
  z50 := Try.sizeOf124
  v50 := Try.zeroValue124
  t53 := Try.underlying164
  a53 := Try.isAgg164
  z53 := Try.sizeOf164
  v53 := Try.zeroValue164
  t55 := Try.underlying166
  a55 := Try.isAgg166
  z55 := Try.sizeOf166
  v55 := Try.zeroValue166
  t66 := Try.underlying174
  a66 := Try.isAgg174
  z66 := Try.sizeOf174
  v66 := Try.zeroValue174
  t70 := Try.underlying178
  a70 := Try.isAgg178
  z70 := Try.sizeOf178
  v70 := Try.zeroValue178
  t76 := Try.underlying182
  a76 := Try.isAgg182
  z76 := Try.sizeOf182
  v76 := Try.zeroValue182
  t77 := Try.underlying68
  a77 := Try.isAgg68
  z77 := Try.sizeOf68
  v77 := Try.zeroValue68 }
end Go.Proofs

/-! Sort -/
namespace Go.Proofs.Ytbmeemmihkedoaa
open Go.RowKit

theorem lt_cmp (a b : Int × Int) : ltOf cmpI a b = befP a b := by
  unfold ltOf cmpI
  cases h : befP a b
  · cases h2 : befP b a <;> rfl
  · rfl
theorem swo_bef : Go.Sort.SWO (ltOf cmpI) where
  irrefl x := by rw [lt_cmp, befP_no]; omega
  trans x y z h1 h2 := by rw [lt_cmp, befP_iff] at *; omega
  ntrans x y z h1 h2 := by rw [lt_cmp, befP_no] at *; omega

/-! ### slices.SortFunc -/
def encP (x : Int × Int) : List Value := [.int .i64 x.1, .int .i64 x.2]
theorem flat_get (L : List (Int × Int)) (j : Nat) (hj : j < L.length * 2) : (Go.Sort.flatK encP 2 L.toArray)[j]! = (flat L)[j]'(by rw [flat_len]; exact hj) := by
  rw [Go.Sort.get_flatK _ _ _ _ (by simpa using hj)]
  have hq : j / 2 < L.length := by omega
  have e1 : L.toArray[j / 2]! = L[j / 2] := by simp [hq]
  rw [e1]
  obtain ⟨f1, f2⟩ := flat_at L (j / 2) hq
  rcases Nat.mod_two_eq_zero_or_one j with h | h
  · have hj2 : j = j / 2 * 2 := by omega
    rw [h]
    have := List.getElem?_eq_some_iff.1 f1
    obtain ⟨h3, h4⟩ := this
    rw [show (flat L)[j]'(by rw [flat_len]; exact hj) = (flat L)[j / 2 * 2]'h3 from by congr 1, h4]
    rfl
  · have hj2 : j = j / 2 * 2 + 1 := by omega
    rw [h]
    have := List.getElem?_eq_some_iff.1 f2
    obtain ⟨h3, h4⟩ := this
    rw [show (flat L)[j]'(by rw [flat_len]; exact hj) = (flat L)[j / 2 * 2 + 1]'h3 from by congr 1, h4]
    rfl
/-- An owned list of points, as the sort asks for it. -/
theorem own_holds {w : World} {B g n cap : Nat} {L : List (Int × Int)} (h : w.ownsRow B 27 2 (.slice (some ⟨g, 0, none⟩) n cap) n (flat L)) (hl : L.length = n) : Go.Sort.HoldsK encP 2 w g 0 L.toArray := by
  intro j hj
  have hj' : j < L.length * 2 := by simpa using hj
  rw [Nat.zero_add]
  refine ⟨?_, h.frozenAt j⟩
  rw [h.cellAt j (by omega), List.getElem?_eq_getElem (by rw [flat_len]; exact hj')]
  have := flat_get L j hj'
  rw [this]; rfl
/-- What the sort leaves behind. -/
theorem sorted_own {w : World} {B g n cap : Nat} {L : List (Int × Int)} (h : w.ownsRow B 27 2 (.slice (some ⟨g, 0, none⟩) n cap) n (flat L)) (hl : L.length = n) (M : List (Int × Int)) (hM : M.length = n) (m : Nat) (os : Array Obj) :
    (sortWorldK encP 2 w g 0 m M.toArray os).ownsRow B 27 2 (.slice (some ⟨g, 0, none⟩) n cap) n (flat M) ∧ w.grownBy (sortWorldK encP 2 w g 0 m M.toArray os) (some g) := by
  rcases h.2 with ⟨h1, _⟩ | ⟨g', cap', cur, hv, hB, hg, hn, hc, hs, ht⟩
  · cases h1
  simp only [Value.slice.injEq, Option.some.injEq, Addr.mk.injEq, and_true, true_and] at hv
  obtain ⟨rfl, rfl⟩ := hv
  have hlt : g < w.heap.size := (Array.getElem?_eq_some_iff.1 hg).1
  have hsz : (Go.Sort.putRowK encP 2 (Go.Sort.ahead w m) g 0 M.toArray).heap.size = w.heap.size := by
    unfold Go.Sort.putRowK; simp [Go.Sort.ahead]
  have hblk : ∀ k, k < w.heap.size → (sortWorldK encP 2 w g 0 m M.toArray os).heap[k]? = (Go.Sort.putRowK encP 2 (Go.Sort.ahead w m) g 0 M.toArray).heap[k]? := fun k hk => by
    unfold sortWorldK
    exact Go.Sort.heap_grow_old _ _ (by rw [hsz]; exact hk)
  have hput : (Go.Sort.putRowK encP 2 (Go.Sort.ahead w m) g 0 M.toArray).heap[g]? = some (.cells (Go.Sort.putCells id 0 (Go.Sort.flatK encP 2 M.toArray) cur) 27 (0, 0)) := by
    unfold Go.Sort.putRowK Go.Sort.putRow Go.Sort.mapBlock
    simp only [Go.Sort.ahead, Array.getElem?_modify, if_true, hg, Option.map_some, Go.Sort.onCells]
  have hcs : (Go.Sort.putCells id 0 (Go.Sort.flatK encP 2 M.toArray) cur).size = cur.size := by simp [Go.Sort.putCells]
  have htk : (Go.Sort.putCells id 0 (Go.Sort.flatK encP 2 M.toArray) cur).toList.take (n * 2) = flat M := by
    apply List.ext_getElem?
    intro j
    rw [List.getElem?_take]
    by_cases hj : j < n * 2
    · rw [if_pos hj]
      have hjc : j < cur.size := by rw [hs]; omega
      have hjM : j < M.length * 2 := by omega
      have hr : (flat M)[j]? = some ((Go.Sort.flatK encP 2 M.toArray)[j]!) := by rw [List.getElem?_eq_getElem (by rw [flat_len]; exact hjM), ← flat_get M j hjM]
      rw [hr]
      have hin : 0 ≤ j ∧ j < 0 + (Go.Sort.flatK encP 2 M.toArray).size := ⟨Nat.zero_le _, by rw [Go.Sort.size_flatK]; simpa using hjM⟩
      simp only [Go.Sort.putCells, Array.getElem?_toList, Array.getElem?_mapIdx, Array.getElem?_eq_getElem hjc, Option.map_some, if_pos hin, Nat.sub_zero, id]
    · rw [if_neg hj, List.getElem?_eq_none (by rw [flat_len]; omega)]
  refine ⟨⟨by rw [flat_len]; omega, .inr ⟨g, cap, _, rfl, hB, (hblk g hlt).trans hput, hn, hc, hcs.trans hs, htk⟩⟩, ?_⟩
  refine ⟨rfl, rfl, rfl, ?_, fun k hk hne => (hblk k hk).trans ?_⟩
  · unfold sortWorldK; simp [Go.Sort.grow, hsz]
  · have hkg : k ≠ g := fun e => hne (by rw [e])
    unfold Go.Sort.putRowK Go.Sort.putRow Go.Sort.mapBlock
    simp only [Go.Sort.ahead, Array.getElem?_modify]
    rw [if_neg (fun e => hkg e.symm)]

def sortedP (M : List (Int × Int)) : Prop := ∀ i j, i < j → j < M.length → befP (gt M j) (gt M i) = false
theorem sort_any (B g n cap : Nat) (L : List (Int × Int)) (w : World) (own : w.ownsRow B 27 2 (.slice (some ⟨g, 0, none⟩) n cap) n (flat L)) (hl : L.length = n) (hn : n ≤ 1048576) :
    Calls Try.prog 161 #[.slice (some ⟨g, 0, none⟩) n cap, .func (.func 138) #[] #[]] w fun e w' => e = .returned (.tuple #[]) ∧ ∃ M : List (Int × Int), M.Perm L ∧ sortedP M ∧ w'.ownsRow B 27 2 (.slice (some ⟨g, 0, none⟩) n cap) n (flat M) ∧ w.grownBy w' (some g) := by
  have eg : ∀ args w, (callFunc 138 args).run Try.prog w = .ok (.enter 138 args) w := enters_of Try.func138 (by kernel_rfl) rfl
  have hlt : g < w.heap.size := (own.lt g rfl).2
  have hcmp : CmpLays Try.prog 138 #[] encP 2 cmpI g 0 L.toArray.size w := fun m os dk hs x y =>
    (cmp_any x.1 x.2 y.1 y.2 _).mono fun e w' ⟨he, os', hw⟩ => ⟨he, 0, os', hw⟩
  have hcon := AnyQ.slices_SortFunc Try.laysSort 2 Try.isAgg27 Try.sizeOf27 encP (fun _ => rfl) (fun x v hv => by simp [encP] at hv; rcases hv with rfl | rfl <;> rfl) cmpI swo_bef 138 #[] g 0 cap L.toArray w eg hcmp (own_holds own hl) hlt (by simp; omega)
  change Calls Try.prog 161 _ _ _ at hcon
  rw [List.size_toArray, hl] at hcon
  refine hcon.mono ?_
  rintro e w' ⟨rfl, d', m, os, ⟨hp1, _, hp2⟩, hs, rfl⟩
  have hsz : d'.size = n := by rw [hp1]; simpa using hl
  refine ⟨rfl, d'.toList, ?_, ?_, ?_⟩
  · have e1 : (d'.extract 0 n).toList = d'.toList := by
      rw [← hsz, Array.extract_size]
    have e2 : (L.toArray.extract 0 n).toList = L := by
      have hs2 : n = L.toArray.size := by simpa using hl.symm
      rw [hs2, Array.extract_size]
    rw [e1, e2] at hp2
    exact hp2
  · intro i j hij hj
    have hj' : j < d'.size := by simpa using hj
    have := hs i j (Nat.zero_le _) hij (by omega)
    rw [lt_cmp] at this
    have gi : ∀ k, k < d'.size → gt d'.toList k = d'[k]! := fun k hk => by
      rw [gt_at (by simpa using hk)]
      simp [hk]
    rw [gi j hj', gi i (by omega)]
    exact this
  · have := sorted_own own hl d'.toList (by simpa using hsz) m os
    simpa using this
end Go.Proofs.Ytbmeemmihkedoaa

/-! SortedM -/
namespace Go.Proofs.Ytbmeemmihkedoaa
open Go.RowKit Go.Shelf

set_option maxRecDepth 100000 in
theorem insP_nil (f : Value) (w : World) :
    Calls Try.prog 200 #[.slice none 0 0, .int .i64 0, .int .i64 0, f] w fun e w' => e = .returned (.tuple #[]) ∧ Below w.heap.size w w' := by
  go_enter Try.func200, Try.ntmps200
  go_wp2_with fail
  refine wp_loop_rounds 1 ?_
  rw [rounds_succ]
  go_wp2_with fail
  go_end0
  exact ⟨rfl, Below.refl _ _⟩
set_option maxRecDepth 100000 in
theorem pdqP_nil (f : Value) (w : World) :
    Calls Try.prog 184 #[.slice none 0 0, .int .i64 0, .int .i64 0, .int .i64 0, f] w fun e w' => e = .returned (.tuple #[]) ∧ Below w.heap.size w w' := by
  have HI := Lib.hid (insP_nil f w)
  go_enter Try.func184, Try.ntmps184
  go_wp2_with fail
  refine wp_loop_rounds 1 ?_
  rw [rounds_succ]
  go_wp2_with fail
  refine HI.out.mono ?_
  rintro e w2 ⟨rfl, hb⟩
  go_wp2_with fail
  refine bodyPost_ret (results_none rfl _ _ _) rfl ?_
  exact ⟨rfl, hb⟩
set_option maxRecDepth 100000 in
set_option maxHeartbeats 1000000 in
theorem sortP_nil (f : Value) (w : World) :
    Calls Try.prog 161 #[.slice none 0 0, f] w fun e w' => e = .returned (.tuple #[]) ∧ Below w.heap.size w w' := by
  have L := Try.laysSort
  have hl : Calls Try.prog 185 #[.int .u64 0] w fun e w' => e = .returned (.int .i64 0) ∧ w' = w := by
    have h := Any.bits_Len (SlLaysF0.n15.bits (P := Try.prog) (ρ := Try.laysSort_ren) { L with }) 0 w (by omega) (by omega)
    exact h
  have HL := Lib.hid hl
  have HP := Lib.hid (pdqP_nil f w)
  clear L hl
  go_enter Try.func161, Try.ntmps161
  go_wp2_with fail
  refine HL.out.mono ?_
  rintro e w1 ⟨rfl, rfl⟩
  go_wp2_with fail
  refine HP.out.mono ?_
  rintro e w2 ⟨rfl, hb⟩
  go_wp2_with fail
  go_end0
  exact ⟨rfl, hb⟩
theorem befZ_befP (a b : Int × Int) : befZ a b = befP a b := rfl
/-- A sorted list with the keys of an ordered list is that list. -/
theorem sorted_keys {M : Ms} (hM : OrdM M) {ks : List (Int × Int)} (hp : ks.Perm (M.map Prod.fst)) (hs : sortedP ks) : ks = M.map Prod.fst := by
  have h1 : ks.Pairwise (fun a b => befZ b a = false) := by
    rw [List.pairwise_iff_getElem]
    intro i j hi hj hij
    have := hs i j hij hj
    rw [gt_at hi, gt_at hj] at this
    exact this
  have h2 : (M.map Prod.fst).Pairwise (fun a b => befZ b a = false) := by
    rw [List.pairwise_map]
    refine hM.1.imp fun {a b} h => ?_
    rw [befZ_no]; rw [befZ_iff] at h; omega
  refine List.Perm.eq_of_pairwise (fun a b _ _ ha hb => ?_) h1 h2 hp
  rw [befZ_no] at ha hb
  exact Prod.ext (by omega) (by omega)
set_option maxRecDepth 100000 in
set_option maxHeartbeats 2000000 in
theorem sortedFn_any (Bm b n : Nat) (M : Ms) (w : World) (hM : OrdM M) (hBm : Bm < w.heap.size) (hm : w.cell? ⟨Bm, 0, none⟩ = some (.map (some b))) (hown : MapM w b M n) (hl : M.length ≤ 1000) :
    Calls Try.prog 177 #[.func (.func 196) #[] #[.pointer (some ⟨Bm, 0, none⟩)], .func (.func 138) #[] #[]] w fun e w' => ∃ v, e = .returned v ∧ w'.ownsRow w.heap.size 27 2 v M.length (flat (M.map Prod.fst)) ∧ Below w.heap.size w w' := by
  have HA := Lib.hid (appendSeq_any Bm b n M w hM hBm hm hown hl)
  have HCO : Hid (Calls Try.prog 195 #[.func (.func 196) #[] #[.pointer (some ⟨Bm, 0, none⟩)]] w fun e w' => ∃ v ks, e = .returned v ∧ ks.Perm (M.map Prod.fst) ∧ w'.ownsRow w.heap.size 27 2 v ks.length (flat ks) ∧ Below w.heap.size w w') := by
    show Calls _ _ _ _ _
    clear hown hm
    go_enter Try.func195, Try.ntmps195
    go_wp2_with fail
    refine HA.out.mono ?_
    rintro e w1 ⟨v, ks, rfl, hp, ho, hb⟩
    go_wp2_with fail
    go_ret
    exact ⟨_, _, rfl, hp, ho, hb⟩
  have HN := Lib.hid (fun W => sortP_nil (.func (.func 138) #[] #[]) W)
  clear hown hm HA
  go_enter Try.func177, Try.ntmps177
  go_wp2_with fail
  refine HCO.out.mono ?_
  rintro e w1 ⟨v, ks, rfl, hp, ho, hb1⟩
  have hkl : ks.length = M.length := by simpa using hp.length_eq
  have HP := Lib.hid hp
  have HKL := Lib.hid hkl
  clear hp HCO
  rcases ho.2 with ⟨rfl, h0⟩ | ⟨g, cap, cur, rfl, hg, -, -⟩
  · have hM0 : Hid (M.length = 0) := by show _ = _; omega
    clear ho hkl h0
    go_wp2_with fail
    refine (HN.out _).mono ?_
    rintro e w2 ⟨rfl, hb2⟩
    go_wp2_with fail
    go_ret
    have e0 : M = [] := List.eq_nil_of_length_eq_zero hM0.out
    subst e0
    exact ⟨_, rfl, World.ownsRow_nil _ _ _ _, below_on hb1 hb2⟩
  · rw [hkl] at ho
    have HS := Lib.hid (sort_any w.heap.size g M.length cap ks w1 ho hkl (by omega))
    clear ho hkl
    try rw [HKL.out]
    go_wp2_with fail
    refine HS.out.mono ?_
    rintro e w2 ⟨rfl, N, hp2, hs2, ho2, hg2⟩
    have hN : N = M.map Prod.fst := sorted_keys hM (hp2.trans HP.out) hs2
    subst hN
    have b2 := Lib.hid (hb1.grown hg2 hb1.size (fun j hj => by cases hj; exact hg))
    have HO := Lib.hid ho2
    clear ho2 hg2 hp2 hs2 HS
    go_wp2_with fail
    go_ret
    exact ⟨_, rfl, HO.out, b2.out⟩
set_option maxRecDepth 100000 in
theorem sortedKeys_any (b n : Nat) (M : Ms) (w : World) (hM : OrdM M) (hown : MapM w b M n) (hl : M.length ≤ 1000) :
    Calls Try.prog 137 #[.map (some b), .func (.func 138) #[] #[]] w fun e w' => ∃ v, e = .returned v ∧ w'.ownsRow w.heap.size 27 2 v M.length (flat (M.map Prod.fst)) ∧ Below w.heap.size w w' := by
  have hb0 := below1 w (.cells #[.map (some b)] 81)
  have HS := Lib.hid (sortedFn_any w.heap.size b n M (w.alloc (.cells #[.map (some b)] 81)) hM (by simp) (cell_of_row _ _ 0 _ _ _ (heap_alloc_new w _)) (hown.on hb0) hl)
  have HK := Lib.hid (keysM_any (some b) w)
  clear hown
  go_enter Try.func137, Try.ntmps137
  go_wp2_with fail
  refine HK.out.mono ?_
  rintro e w1 ⟨rfl, rfl⟩
  go_wp2_with fail
  refine HS.out.mono ?_
  rintro e w2 ⟨v, rfl, ho, hb2⟩
  go_wp2_with fail
  go_ret
  exact ⟨_, rfl, own_base ho (by simp), below_on hb0 hb2⟩
end Go.Proofs.Ytbmeemmihkedoaa

/-! ListM -/
namespace Go.Proofs.Ytbmeemmihkedoaa
open Go.RowKit
open Go.Maps (Keyed)
open Go.ChangeMaps Go.MapKept Go.WideShapes
attribute [local go_sem] quietB uponB

theorem rowsM_step {M : Ms} {j : Nat} (h : j < M.length) : rowsM (M.take (j + 1)) = rowsM (M.take j) ++ [[(M[j]).1.1, (M[j]).1.2, (M[j]).2]] := by
  unfold rowsM
  rw [List.take_succ_eq_append_getElem h, List.map_append]
  rfl
theorem gt_fst {M : Ms} {j : Nat} (h : j < M.length) : gt (M.map Prod.fst) j = (M[j]).1 := by
  rw [gt_at (by simpa using h)]; simp
set_option maxRecDepth 100000 in
set_option maxHeartbeats 4000000 in
theorem listM_any (b n : Nat) (M : Ms) (w : World) (hM : OrdM M) (hown : MapM w b M n) (hl : M.length ≤ 100) :
    Calls Try.prog 80 #[.map (some b)] w (ListsR w (rowsM M)) := by
  obtain ⟨i0, hi0, hz0, hz1, hz2⟩ := info_parts infoR
  have HK := Lib.hid (sortedKeys_any b n M w hM hown (by omega))
  obtain ⟨K, hK⟩ : ∃ K, K = M.map Prod.fst := ⟨_, rfl⟩
  have hKL : K.length = M.length := by rw [hK]; simp
  have HLK : Hid (∀ j, j < K.length → ∃ v : Int, (∀ W, Below w.heap.size w W → (Instr.lookup 81 (.map (some b)) (.agg #[.int .i64 (gt K j).1, .int .i64 (gt K j).2]) false).run Try.prog W = .ok (.int .i64 v) W) ∧ rowsM (M.take (j + 1)) = rowsM (M.take j) ++ [[(gt K j).1, (gt K j).2, v]]) := fun j hj => by
    have h : j < M.length := by omega
    refine ⟨(M[j]).2, fun W hb => ?_, ?_⟩
    · obtain ⟨D, hD⟩ := hown.on hb
      have hmem : (M[j]).1 ∈ M.map Prod.fst := List.mem_map_of_mem (List.getElem_mem h)
      obtain ⟨hx, hy⟩ := hD.wf _ hmem
      obtain ⟨v, hlk, hat, -⟩ := hD.own.lookup_int pt_keyed Try.underlying81 Try.underlying3 (zeroT W) (pt_key hx hy)
      have hv : v = (M[j]).2 := (litT_inj (hat.symm.trans (hD.at' _ _ hx hy))).trans (valM_mem hM (List.getElem_mem h))
      rw [hK, gt_fst h, ← hv]; exact hlk
    · rw [rowsM_step h, hK, gt_fst h]
  have HE : Hid (rowsM (M.take K.length) = rowsM M) := by
    show _ = _
    rw [hKL, List.take_of_length_le (Nat.le_refl _)]
  rw [← hK, ← hKL] at HK
  have HLE : Hid (∀ j (Rs : List Rw), Rs.map Rw.M = rowsM (M.take j) → Rs.length ≤ 100) := fun j Rs h => by
    have := congrArg List.length h
    rw [rowsM_len, List.length_map, List.length_take] at this
    omega
  have hkl : K.length ≤ 100 := by omega
  clear hown hKL hK hM
  go_enter Try.func80, Try.ntmps80
  go_wp2_with fail
  refine HK.out.mono ?_
  rintro e w1 ⟨v1, rfl, own1, hb1⟩
  obtain ⟨_, A1, c1, rfl, p1⟩ := own_pts own1
  have P1 := Lib.hid p1
  have HB1 := Lib.hid hb1
  clear own1 p1 hb1 HK
  go_wp2_with fail
  go_loopw [3, 9] (fun s i wr => ∃ (j : Nat) (Rs : List Rw), j ≤ K.length ∧ i = .int .i64 j ∧ Hid (Rs.map Rw.M = rowsM (M.take j)) ∧ Hid (RowsR wr w1.heap.size s Rs) ∧ Hid (Below w1.heap.size w1 wr)) (fun _ i _ => K.length - (intOf i).toNat)
  case atStart => exact ⟨0, [], Nat.zero_le _, rfl, rfl, rowsR_nil _ _, Below.refl _ _⟩
  case round =>
    obtain ⟨wo, rfl⟩ : ∃ wo : World, wo = wr := ⟨_, rfl⟩
    obtain ⟨j, Rs, hj, rfl, HRL, HR, HB⟩ := hrel
    by_cases hlt : j < K.length
    · obtain ⟨g, hA1, -⟩ := P1.out j hlt
      subst hA1
      obtain ⟨d5, d6⟩ := gt_cells (ptsA_on P1.out HB.out) hlt
      obtain ⟨v, hlk, hrow⟩ := HLK.out j hlt
      have HROW := Lib.hid hrow
      have hrl := HLE.out j Rs HRL.out
      obtain ⟨f1, f1'⟩ := k_w hj (by omega)
      have F1 := Lib.hid (And.intro f1 f1')
      clear hrow f1 f1'
      generalize (gt K j).1 = x at *
      generalize (gt K j).2 = y at *
      have n6 := at_new wo x y 27
      have c5 := n6.c0; have c6 := n6.c1
      have k5 := cell_regrown c5; have k6 := cell_regrown c6
      have b0 := below1 wo (.cells #[.int .i64 x, .int .i64 y] 27)
      have lk := fun d os => hlk _ (below_on HB1.out (below_on HB.out (below_on b0 (below_regrown (wo.alloc (.cells #[.int .i64 x, .int .i64 y] 27)) d os))))
      clear n6 hlk
      go_wp2_with fail
      refine region_move1 8 _ _ (by rfl) (by rfl) (by rfl) (fun _ _ d _ _ h => by cases d <;> exact h) (by kernel_rfl) (by kernel_rfl) ?_
      simp only [List.take_succ_cons, List.take_zero, List.drop_succ_cons, List.drop_zero]
      repeat (
        refine wpQuietB_step (fun K hK => ?_)
        go_simp
        first
          | (refine hK _ ?_; clear hK K)
          | (apply Exists.intro
             refine ⟨fun _ => ?_, hK _ ?_⟩
             ((fail))
             clear hK K))
      refine wpQuietB_nil ?_
      intro w7 hb7
      have b7 := below_on b0 hb7
      have HR7 := HR.out.below b7
      have B7 := Lib.hid (below_on HB.out b7)
      have hs7 := B7.out.size
      have hown := HR7.out
      clear k5 k6 c5 c6 d5 d6 lk hb7 b0 b7
      go_wp2_with (at_builtin; (refine wpList_append_own_at _ rfl _ _ 39 rfl w1.heap.size 24 i0 (.slice none 0 0) 1 24 Try.underlying39 hi0 hz0 hz1 hz2 rfl (by decide) _ _ _ rfl ((hown.alloc _).alloc _) ⟨w7.heap.size + 1, 0, none⟩ 1 1 [hdr (Rw.mk w7.heap.size 3 [x, y, v])] rfl rfl ?y1 ?y2 ?y3 ?y4 ?y5 ?_))
      case y1 =>
        have q1 := heap_alloc_new (w7.alloc (.cells #[.int .i64 x, .int .i64 y, .int .i64 v] 3)) (.cells #[hdr (Rw.mk w7.heap.size 3 [x, y, v])] 24)
        rw [size_alloc] at q1
        exact World.news_of_block (cs := #[hdr (Rw.mk w7.heap.size 3 [x, y, v])]) (t := 24) (fr := (0, 0)) q1
      case y2 => simp [hdr, Value.oneCell']
      case y3 => unfold maxLen; omega
      case y4 => omega
      case y5 => simp; omega
      intro v8 w8 own8 hg8 _ hloc8
      have hrw := fun k hk => (hown.lt k hk).1
      have R8 : Hid (RowsR w8 w1.heap.size v8 (Rs ++ [Rw.mk w7.heap.size 3 [x, y, v]])) :=
        HR7.snoc (World.grownBy_alloc w7 _ none) (World.ownsRow_lit w7 #[.int .i64 x, .int .i64 y, .int .i64 v] 3 hs7 (by decide) rfl) (Nat.le_refl _) (World.grownBy_alloc _ _ none) own8 hg8 (by rw [size_alloc, size_alloc]; exact hloc8)
      have B8 : Hid (Below w1.heap.size w1 w8) := ((B7.out.alloc hs7 _).alloc (by simp; omega) _).grown hg8 (by simp; omega) hrw
      have HT : Hid ((Rs ++ [Rw.mk w7.heap.size 3 [x, y, v]]).map Rw.M = rowsM (M.take (j + 1))) := by
        show _ = _
        rw [HROW.out, List.map_append, HRL.out]; rfl
      have f1 := F1.out.1; have f1' := F1.out.2
      clear own8 hg8 hloc8 hrw hown HR7 B7 HR HB
      go_wp2_with fail
      clear f1 f1'
      go_roundw
      case rel => exact ⟨j + 1, _, by omega, by go_num, HT, R8, B8⟩
      case measure => simp [intOf]; omega
    · have e : j = K.length := by omega
      have HQ : Hid (Rs.map Rw.M = rowsM M) := by
        show _ = _
        rw [HRL.out, e, HE.out]
      clear HRL e
      go_wp2_with fail
      go_ret
      exact ⟨_, Rs, rfl, HR.out.base HB1.out.size, HQ.out, below_on HB1.out HB.out⟩
end Go.Proofs.Ytbmeemmihkedoaa

/-! Law5F -/
namespace Go.Proofs.Ytbmeemmihkedoaa
open Go.RowKit

theorem RowsR.kept {w w' : World} {B : Nat} {v : Value} {Rs : List Rw} {row : Option Nat} (h : RowsR w B v Rs) (hg : w.grownBy w' row) (h1 : ∀ k, row = some k → v.ownBlock ≠ some k ∧ ∀ r ∈ Rs, r.g ≠ k) : RowsR w' B v Rs := by
  refine ⟨h.out.kept hg ?_, fun r hr => (h.row r hr).kept hg (.inr fun e => (h1 r.g (by rw [← e, hdr_own])).2 r hr rfl), h.far, h.nodup⟩
  cases hv : v.ownBlock with
  | none => exact .inl rfl
  | some b => exact .inr fun e => (h1 b e.symm).1 hv
theorem RowsR.but {w w' : World} {B N : Nat} {v : Value} {Rs Qs : List Rw} (h : RowsR w B v Rs) (hb : ButRows Qs w w') (hl : (∀ k, v.ownBlock = some k → k < N) ∧ ∀ r ∈ Rs, r.g < N) (hh : ∀ r ∈ Qs, N ≤ r.g) : RowsR w' B v Rs :=
  ⟨hb.own h.out (fun r hr e => by have := hl.1 _ e; have := hh r hr; omega), fun x hx => hb.own (h.row x hx) (fun r hr e => by have := hl.2 x hx; have := hh r hr; have e2 : x.g = r.g := Option.some.inj e; omega), h.far, h.nodup⟩
theorem RowsR.top {w : World} {B : Nat} {v : Value} {Rs : List Rw} (h : RowsR w B v Rs) : (∀ k, v.ownBlock = some k → k < w.heap.size) ∧ ∀ r ∈ Rs, r.g < w.heap.size :=
  ⟨fun k hk => (h.out.lt k hk).2, fun _ hr => (h.lt hr).2⟩
theorem RowsR.bottom {w : World} {B : Nat} {v : Value} {Rs : List Rw} (h : RowsR w B v Rs) : (∀ k, v.ownBlock = some k → B ≤ k) ∧ ∀ r ∈ Rs, B ≤ r.g :=
  ⟨fun k hk => (h.out.lt k hk).1, fun _ hr => (h.lt hr).1⟩
end Go.Proofs.Ytbmeemmihkedoaa

/-! Law7D -/
namespace Go.Proofs.Ytbmeemmihkedoaa
open Go.RowKit
theorem listsR_put {w w' : World} {M : Ms} {e : Ending} (h : PutR w w.heap.size M e w') : ListsR w (rowsM M) e w' := by
  obtain ⟨g, c, Qs, he, hR, hM, hb⟩ := h
  exact ⟨_, Qs, he, hR, hM, hb⟩
theorem ListsR.behind {w w1 w2 : World} {M : List (List Int)} {e : Ending} (hb : Below w.heap.size w w1) (h : ListsR w1 M e w2) : ListsR w M e w2 := by
  obtain ⟨v, Rs, he, hR, hM, hb2⟩ := h
  exact ⟨v, Rs, he, hR.base hb.size, hM, below_on hb hb2⟩
theorem measV_no {L : List (Int × Int)} (h : polyB L = false) : measV L = [] := by
  unfold measV leftV
  rw [h]; rfl
theorem spec_measOf (A : Option Addr) (c : Nat) (L : List (Int × Int)) (w : World) (hA : PtsA w A L) (hL : L.length ≤ 1048576) :
    Calls Try.prog 25 #[.slice A L.length c] w (ListsR w (rowsM (measV L))) := by
  have PC := Lib.hid (spec_poly A c L w hA hL)
  have HM := Lib.hid (fun hp W hb => allS_poly A c L W (ptsA_on hA hb) hp)
  clear hA
  cases hp : polyB L
  · rw [hp] at PC
    have HV : Hid (measV L = []) := measV_no hp
    go_enter Try.func25, Try.ntmps25
    go_wp2_with fail
    refine PC.out.mono ?_
    rintro e w1 ⟨rfl, hb1⟩
    go_wp2_with fail
    go_ret
    rw [HV.out]
    exact ⟨_, [], rfl, rowsR_nil _ _, rfl, hb1⟩
  · rw [hp] at PC
    have HP := Lib.hid hp
    go_enter Try.func25, Try.ntmps25
    go_wp2_with fail
    refine PC.out.mono ?_
    rintro e w1 ⟨rfl, hb1⟩
    go_wp2_with fail
    refine (HM.out HP.out _ hb1).mono ?_
    rintro e w2 ⟨g, cc, Qs, rfl, hR, hM, hb2⟩
    have HF := Lib.hid (ListsR.behind hb1 (listsR_put ⟨g, cc, Qs, rfl, hR, hM, hb2⟩))
    clear hR hM hb2
    go_wp2_with fail
    go_ret
    exact HF.out
theorem impl_measOf (A : Option Addr) (c : Nat) (L : List (Int × Int)) (w : World) (hA : PtsA w A L) (hL : L.length ≤ 1048576) (hT : TurnOk L) :
    Calls Try.prog 26 #[.slice A L.length c] w (ListsR w (rowsM (measV L))) := by
  have HM := Lib.hid (measIn_any A c L w hA hL hT)
  clear hA
  go_enter Try.func26, Try.ntmps26
  go_wp2_with fail
  refine HM.out.mono ?_
  rintro e w2 ⟨b, rfl, hb, hD, hb2⟩
  have HL := Lib.hid (listM_any b _ (measV L) w2 (measV_ord L) hD (by have := measV_len L; omega))
  clear hD
  go_wp2_with fail
  refine HL.out.mono ?_
  rintro e w3 h
  obtain ⟨v, Rs, rfl, hR, hMM, hb3⟩ := ListsR.behind hb2 h
  have HF := Lib.hid (And.intro hR (And.intro hMM hb3))
  clear hR hMM hb3 h
  go_wp2_with fail
  go_ret
  exact ⟨v, Rs, rfl, HF.out.1, HF.out.2.1, HF.out.2.2⟩
set_option maxRecDepth 100000 in
set_option maxHeartbeats 2000000 in
theorem law_measuresOf (A : Option Addr) (c : Nat) (L : List (Int × Int)) (M : List (List Int)) (q : Nat) (w : World) (hA : ArgA w A L) (hL : L.length ≤ maxLen)
    (SC : L.length ≤ 1048576 → ∀ A c w, PtsA w A L → Calls Try.prog 25 #[.slice A L.length c] w (ListsR w M))
    (IC : L.length ≤ 1048576 → ∀ A c w, PtsA w A L → Calls Try.prog 26 #[.slice A L.length c] w (ListsR w M)) (hM : M.length ≤ 1000) (hq : ∀ m ∈ M, m.length = q) (hq1 : q ≤ 1000) :
    Calls Try.prog 5 #[.slice A L.length c] w fun e w' => e = .returned (.bool true) ∧ Below w.heap.size w w' := by
  by_cases hs : L.length ≤ 1048576
  case neg =>
    clear SC IC hA
    have HZ := Lib.hid (sz_great A L.length c w (by omega) hL)
    go_enter Try.func5, Try.ntmps5
    go_wp2_with fail
    refine HZ.out.mono ?_
    rintro e w0 ⟨rfl, rfl⟩
    go_wp2_with fail
    go_ret
    exact ⟨rfl, Below.refl _ _⟩
  have HS : Hid (∀ A c w, PtsA w A L → Calls Try.prog 25 #[.slice A L.length c] w fun e w' => ∃ v Rs, e = .returned v ∧ RowsR w' w.heap.size v Rs ∧ Rs.map Rw.M = M ∧ Below w.heap.size w w') := SC hs
  have HI : Hid (∀ A c w, PtsA w A L → Calls Try.prog 26 #[.slice A L.length c] w fun e w' => ∃ v Rs, e = .returned v ∧ RowsR w' w.heap.size v Rs ∧ Rs.map Rw.M = M ∧ Below w.heap.size w w') := IC hs
  clear SC IC
  have HLE : Hid (∀ Rs : List Rw, Rs.map Rw.M = M → Rs.length ≤ 1000 ∧ (∀ r ∈ Rs, r.M.length = q)) := fun Rs e => by
    refine ⟨by rw [← e] at hM; simpa using hM, fun r hr => hq _ (by rw [← e]; exact List.mem_map_of_mem hr)⟩
  have HQ1 := Lib.hid hq1
  have HA := Lib.hid hA; clear hA
  have HM := Lib.hid hs
  have HZ := Lib.hid (sz_small A L.length c w hs)
  clear hM hq hq1
  go_enter Try.func5, Try.ntmps5
  go_wp2_with fail
  refine HZ.out.mono ?_
  rintro e w0 ⟨rfl, rfl⟩
  go_wp2_with fail
  refine (toS_any A c L _ HA.out HM.out).mono ?_
  rintro e w1 ⟨v1, rfl, own1, b1⟩
  obtain ⟨_, A1, c1, rfl, p1⟩ := own_pts own1
  clear own1
  go_wp2_with fail
  refine (HS.out A1 c1 w1 p1).mono ?_
  rintro e w2 ⟨v2, R2, rfl, own2, m2, hb2⟩
  have b2 := below_on b1 hb2
  have T2 := Lib.hid own2.top
  have M2 := Lib.hid m2
  clear hb2 b1 p1 m2
  go_wp2_with fail
  refine (toS_any A c L _ (HA.out.step b2) HM.out).mono ?_
  rintro e w3 ⟨v3, rfl, own3, hb3⟩
  have b3 := below_on b2 hb3
  replace own2 := own2.below hb3
  have hsz := Lib.hid hb3.size
  have hB2 := Lib.hid b2.size
  have T3 := Lib.hid own3.lt
  clear hb3 b2
  obtain ⟨_, A3, c3, rfl, p3⟩ := own_pts own3
  go_wp2_with fail
  refine (HI.out A3 c3 w3 p3).mono ?_
  rintro e w4 ⟨v4, R4, rfl, own4, m4, hb4⟩
  have b4 := below_on b3 hb4
  have M4 := Lib.hid m4
  have T4 := Lib.hid own4.bottom
  have hB3 := Lib.hid b3.size
  replace own2 := own2.below hb4
  replace own3 := own_below own3 hb4
  clear hb4 p3 b3 m4
  obtain ⟨l4, q4⟩ := HLE.out R4 M4.out
  obtain ⟨l2, q2⟩ := HLE.out R2 M2.out
  have Q4 := Lib.hid q4
  have Q2 := Lib.hid q2
  have E42 : Hid (R4.map Rw.M = R2.map Rw.M) := M4.out.trans M2.out.symm
  have E4 : Hid (∀ r ∈ R4, r.M.length ≤ 1048576) := fun r hr => by have := q4 r hr; have := HQ1.out; omega
  clear q4 q2
  go_wp2_with fail
  refine (eq_rows _ _ v4 v2 R4 R2 w4 own4 own2 E42.out (by omega) E4.out).mono ?_
  rintro e w5 ⟨rfl, hb5⟩
  have b5 := below_on b4 hb5
  replace own2 := own2.below hb5
  replace own3 := own_below own3 hb5
  replace own4 := own4.below hb5
  clear hb5 b4
  go_wp2_with fail
  refine (toS_any A c L _ (HA.out.step b5) HM.out).mono ?_
  rintro e w6 ⟨v6, rfl, own6, hb6⟩
  have b6 := below_on b5 hb6
  replace own2 := own2.below hb6
  replace own3 := own_below own3 hb6
  replace own4 := own4.below hb6
  obtain ⟨_, A6, c6, rfl, p6⟩ := own_pts own6
  have p3 := ptsA_of own3
  clear hb6 own6 b5
  go_wp2_with fail
  refine (eq_pts A3 A6 c3 c6 L w6 p3 p6 HM.out).mono ?_
  rintro e w7 ⟨rfl, hb7⟩
  have b7 := below_on b6 hb7
  replace own2 := own2.below hb7
  replace own3 := own_below own3 hb7
  replace own4 := own4.below hb7
  clear hb7 p3 p6 b6
  go_wp2_with fail
  refine (mark_pts _ _ _ _ w7 own3 HM.out).mono ?_
  rintro e w8 ⟨rfl, own3m, hg8⟩
  have b8 := b7.grown hg8 b7.size (fun k hk => Nat.le_trans hB2.out (T3.out k hk).1)
  replace own2 := own2.kept hg8 (fun k hk => ⟨fun e => by have := T2.out.1 k e; have := (T3.out k hk).1; omega, fun r hr e => by have := T2.out.2 r hr; have := (T3.out k hk).1; omega⟩)
  replace own4 := own4.kept hg8 (fun k hk => ⟨fun e => by have := T4.out.1 k e; have := (T3.out k hk).2; omega, fun r hr e => by have := T4.out.2 r hr; have := (T3.out k hk).2; omega⟩)
  clear hg8 own3 own3m b7
  go_wp2_with fail
  refine (eq_rows _ _ v4 v2 R4 R2 w8 own4 own2 E42.out (by omega) E4.out).mono ?_
  rintro e w9 ⟨rfl, hb9⟩
  have b9 := below_on b8 hb9
  replace own2 := own2.below hb9
  replace own4 := own4.below hb9
  clear hb9 b8
  go_wp2_with fail
  refine (mark_rows _ v4 R4 q w9 own4 Q4.out HQ1.out l4).mono ?_
  rintro e w10 ⟨rfl, own4m, hg10⟩
  have b10 := hg10.below b9 b9.size (fun r hr => Nat.le_trans hB3.out (T4.out.2 r hr))
  replace own2 := own2.but hg10 ⟨fun k hk => Nat.lt_of_lt_of_le (T2.out.1 k hk) hsz.out, fun r hr => Nat.lt_of_lt_of_le (T2.out.2 r hr) hsz.out⟩ T4.out.2
  clear hg10 own4 b9
  obtain ⟨m, hm⟩ : ∃ m, Hid (m = 1 + (q : Int) * (R4.length : Int)) := ⟨_, rfl⟩
  obtain ⟨z0, z1⟩ := row_w HQ1.out (Nat.le_refl R4.length) l4
  rw [← hm.out] at z0 z1
  have z2 : ¬ m < 0 := by omega
  have HELD := Lib.hid (fun W (o : RowsR W w3.heap.size v4 (mixR q R4 R4.length)) => held_rows _ v4 R4 q W o HQ1.out l4)
  simp only [← hm.out] at HELD
  rw [← hm.out]
  go_wp2_with fail
  refine (HELD.out w10 own4m).mono ?_
  rintro e w11 ⟨rfl, rfl⟩
  go_wp2_with fail
  refine (toS_any A c L _ (HA.out.step b10) HM.out).mono ?_
  rintro e w12 ⟨v12, rfl, own12, hb12⟩
  have b12 := below_on b10 hb12
  replace own2 := own2.below hb12
  replace own4m := own4m.below hb12
  obtain ⟨_, A12, c12, rfl, p12⟩ := own_pts own12
  clear hb12 own12 b10
  go_wp2_with fail
  refine (HI.out A12 c12 w12 p12).mono ?_
  rintro e w13 ⟨v13, R13, rfl, own13, m13, hb13⟩
  have b13 := below_on b12 hb13
  replace own2 := own2.below hb13
  replace own4m := own4m.below hb13
  have E13 : Hid (R13.map Rw.M = R2.map Rw.M) := m13.trans M2.out.symm
  obtain ⟨l13, q13⟩ := HLE.out R13 m13
  have E13' : Hid (∀ r ∈ R13, r.M.length ≤ 1048576) := fun r hr => by have := q13 r hr; have := HQ1.out; omega
  clear hb13 b12 p12 m13 q13
  go_wp2_with fail
  refine (eq_rows _ _ v13 v2 R13 R2 w13 own13 own2 E13.out (by omega) E13'.out).mono ?_
  rintro e w14 ⟨rfl, hb14⟩
  have b14 := below_on b13 hb14
  replace own4m := own4m.below hb14
  clear hb14 own2 own13 b13
  go_wp2_with fail
  refine (HELD.out w14 own4m).mono ?_
  rintro e w15 ⟨rfl, rfl⟩
  go_wp2_with fail
  go_ret
  exact ⟨rfl, b14⟩
theorem ex_measuresOf (A : Option Addr) (c : Nat) (L : List (Int × Int)) (w : World) (hA : ArgA w A L) (hL : L.length ≤ maxLen) :
    Calls Try.prog 5 #[.slice A L.length c] w fun e w' => e = .returned (.bool true) ∧ Below w.heap.size w w' :=
  law_measuresOf A c L (rowsM (measV L)) 3 w hA hL (fun h A c w hp => spec_measOf A c L w hp h) (fun h A c w hp => impl_measOf A c L w hp h (left_ok L)) (by rw [rowsM_len]; have := measV_len L; omega) (fun m hm => by obtain ⟨z, -, rfl⟩ := List.mem_map.1 hm; rfl) (by omega)
end Go.Proofs.Ytbmeemmihkedoaa
