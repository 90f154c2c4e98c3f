/-
  Walks and facts of this seat, part Na (merged by a script of this repo out of smaller texts).
-/
import Derived.Test.YtamchfdiehkloaaMa
/-! FstI9 -/
namespace Go.Proofs.Ytamchfdiehkloaa
open Go.RowKit Go.Sort
attribute [local go_sem] Oper.semAt_some

theorem run_var1 (w : World) (t : TypeId) (g : Nat) (v : Value) (ha : ∀ w, (isAgg t).run Try.prog w = .ok false w) (h : w.cell? ⟨g, 0, none⟩ = some v) : (loadVar t ⟨g, 0, none⟩).run Try.prog w = .ok v w := by
  simp [loadVar, Sem.run_bind, ha, go_sem, h, Result.andThen]
theorem results_cells2 {fn : Func} {p q : Tmp} (h : fn.results = #[.cell p 43, .cell q 4]) (tmps : Array Value) (w : World) (g1 g2 : Nat) (v u : Value) (hp : tmps.getD p undef = .pointer (some ⟨g1, 0, none⟩)) (hq : tmps.getD q undef = .pointer (some ⟨g2, 0, none⟩))
    (h1 : w.cell? ⟨g1, 0, none⟩ = some v) (h2 : w.cell? ⟨g2, 0, none⟩ = some u) : (results fn tmps).run Try.prog w = .ok (.tuple #[v, u]) w := by
  have hp' : tmps[p]?.getD undef = .pointer (some ⟨g1, 0, none⟩) := by simpa using hp
  have hq' : tmps[q]?.getD undef = .pointer (some ⟨g2, 0, none⟩) := by simpa using hq
  have e1 := run_var1 w 43 g1 v (by intro w; simp [isAgg, go_sem, Try.underlying43]) h1
  have e2 := run_var1 w 4 g2 u (by intro w; simp [isAgg, go_sem, Try.underlying4]) h2
  simp [results, h, hp', hq', asAddr, Sem.run_bind, e1, e2, Result.andThen]
theorem RowAt.own {W : World} {x : Rw} {B : Nat} (h : RowAt W x) (hB : B ≤ x.g) : W.ownsRow B 3 1 (hdr x) x.M.length (Go.Proofs.Ytamchfdiehkloaa.ints x.M) := by
  rcases h.2 with ⟨h1, _⟩ | ⟨g, cap, cur, hv, hg, r⟩
  · cases h1
  · have : x.g = g := by
      have := congrArg Value.ownBlock hv
      simpa [hdr, Value.ownBlock] using this
    exact ⟨h.1, .inr ⟨g, cap, cur, hv, by omega, r⟩⟩
/-- The first of a list of lists, and whether there is one. -/
def headV : List (List Int) → List Int × Bool
  | [] => ([], false)
  | x :: _ => (x, true)
/-- What FirstCut answers. -/
def FirstP (w h M K : Int) (V : List Int × Bool) : Prop := (∀ wh, IsWh w h M wh → V = headV (listsC w h M K wh)) ∧ V.1.length ≤ 9
theorem FirstP.uniq {w h M K : Int} {V V' : List Int × Bool} (h1 : FirstP w h M K V) (h2 : FirstP w h M K V') : V = V' := by
  obtain ⟨wh, hw⟩ := isWh_ex w h M
  rw [h1.1 wh hw, h2.1 wh hw]
theorem listsC_mem {w h M K : Int} {wh : List Int → Bool} : ∀ c ∈ listsC w h M K wh, c.length ≤ 9 := by
  unfold listsC
  cases hB : okC w h M
  · intro c hc; cases hc
  · obtain ⟨q, hcl, hl1, hl9⟩ := okC_len hB
    obtain ⟨a, b, m, n, rfl, rfl, rfl, _, _, _, _, _, _, _, hix, _, h1, h9, _⟩ := okC_nat hB
    intro c hc
    simp only [cond_true] at hc
    obtain ⟨C, hC, rfl⟩ := List.mem_map.1 (List.mem_filter.1 hc).1
    rw [castL_len, (numsD_mem _ _ _ hC).1, hix]
    exact h9
theorem headV_len {L : List (List Int)} (h : ∀ c ∈ L, c.length ≤ 9) : (headV L).1.length ≤ 9 := by
  cases L with
  | nil => simp [headV]
  | cons x L => exact h x (by simp)
theorem firstP_of {w h M K : Int} {wh : List Int → Bool} (hw : IsWh w h M wh) : FirstP w h M K (headV (listsC w h M K wh)) := ⟨fun wh' h' => by rw [listsC_same h' hw], headV_len listsC_mem⟩
def FirstQ (P : List Int × Bool → Prop) (W : World) (e : Ending) (w' : World) : Prop := ∃ V v, e = .returned (.tuple #[v, .bool V.2]) ∧ P V ∧ w'.ownsRow W.heap.size 3 1 v V.1.length (ints V.1) ∧ Below W.heap.size W w'
set_option maxRecDepth 100000 in
set_option maxHeartbeats 4000000 in
theorem impl_first (w h M K : Int) (W : World) : Calls Try.prog 51 #[.int .i64 w, .int .i64 h, .int .i64 M, .int .i64 K] W (FirstQ (FirstP w h M K) W) := by
  obtain ⟨wh, hwh⟩ := isWh_ex w h M
  have HWH := Lib.hid hwh
  have HFP := Lib.hid (firstP_of (K := K) hwh)
  clear hwh
  refine (callsIn_wide (n := 9)).1 ?_
  refine callsIn_of_wp_marks Try.func51 rfl trivial ?_ rfl
  simp only [Try.ntmps51, List.size_toArray, List.length_cons, List.length_nil, Nat.reduceAdd, Nat.reduceSub, Array.replicate_succ, Array.replicate_zero, List.push_toArray, List.append_toArray, List.nil_append, List.cons_append]
  have bA := (Boxed.new W 43 (.slice none 0 0)).alloc (.cells #[.bool false] 4)
  have bB := Boxed.new (W.alloc (.cells #[.slice none 0 0] 43)) 4 (.bool false)
  rw [size_alloc] at bB
  have hb1 : Below W.heap.size W ((W.alloc (.cells #[.slice none 0 0] 43)).alloc (.cells #[.bool false] 4)) := ((Below.refl _ W).alloc (Nat.le_refl _) _).alloc (by simp) _
  gi_wp2
  refine ⟨trivial, (wide0.calls (cutsInto_any w h M K _)).mono ?_⟩
  rintro e w3 ⟨rfl, rfl⟩
  obtain ⟨wC, hwC⟩ : ∃ wC, (W.alloc (.cells #[.slice none 0 0] 43)).alloc (.cells #[.bool false] 4) = wC := ⟨_, rfl⟩
  have hsC : wC.heap.size = W.heap.size + 2 := by rw [← hwC]; simp
  rw [hwC] at bA bB hb1 ⊢
  obtain ⟨bN, hbN⟩ : ∃ bN, bN = wC.heap.size := ⟨_, rfl⟩
  rw [← hbN]
  have n1 := (((Boxed.new wC 3 (.int .i64 w)).alloc (.cells #[.int .i64 h] 3)).alloc (.cells #[.int .i64 M] 3)).alloc (.cells #[.int .i64 K] 3)
  have n2 := ((Boxed.new (wC.alloc (.cells #[.int .i64 w] 3)) 3 (.int .i64 h)).alloc (.cells #[.int .i64 M] 3)).alloc (.cells #[.int .i64 K] 3)
  have n3 := (Boxed.new ((wC.alloc (.cells #[.int .i64 w] 3)).alloc (.cells #[.int .i64 h] 3)) 3 (.int .i64 M)).alloc (.cells #[.int .i64 K] 3)
  have n4 := Boxed.new (((wC.alloc (.cells #[.int .i64 w] 3)).alloc (.cells #[.int .i64 h] 3)).alloc (.cells #[.int .i64 M] 3)) 3 (.int .i64 K)
  have hbD : Below wC.heap.size wC ((((wC.alloc (.cells #[.int .i64 w] 3)).alloc (.cells #[.int .i64 h] 3)).alloc (.cells #[.int .i64 M] 3)).alloc (.cells #[.int .i64 K] 3)) := ((((Below.refl _ wC).alloc (Nat.le_refl _) _).alloc (by simp) _).alloc (by simp; omega) _).alloc (by simp; omega) _
  simp only [World.size_alloc] at n2 n3 n4
  rw [← hbN] at n1 n2 n3 n4
  obtain ⟨W0, hW0⟩ : ∃ W0, (((wC.alloc (.cells #[.int .i64 w] 3)).alloc (.cells #[.int .i64 h] 3)).alloc (.cells #[.int .i64 M] 3)).alloc (.cells #[.int .i64 K] 3) = W0 := ⟨_, rfl⟩
  have hs0 : W0.heap.size = bN + 4 := by rw [← hW0, hbN]; simp
  rw [hW0] at hbD n1 n2 n3 n4 ⊢
  have c0 : Boxed W0 W.heap.size 43 (.slice none 0 0) := boxed_as bA (hbD.block _ bA.lt)
  have c1 : Boxed W0 (W.heap.size + 1) 4 (.bool false) := boxed_as bB (hbD.block _ bB.lt)
  have hb3 := below_on hb1 hbD
  have hlt1 : W.heap.size + 1 < bN := by omega
  have hlt2 : bN + 1 + 1 + 1 < W0.heap.size := by omega
  have HS := Lib.hid (seqCuts bN (bN + 1) (bN + 1 + 1) (bN + 1 + 1 + 1) w h M K wh HWH.out W0 n1 n2 n3 n4)
  generalize listsC w h M K wh = LL at *
  clear hwC hW0 hbD n1 n2 n3 n4 bA bB hsC hbN hs0 hb1 HWH
  gi_wp2
  refine wpIn_rangeG (n := 9) (by decide) (gf := 149) (lb := #[.pointer (some ⟨bN, 0, none⟩), .pointer (some ⟨bN + 1, 0, none⟩), .pointer (some ⟨bN + 1 + 1, 0, none⟩), .pointer (some ⟨bN + 1 + 1 + 1, 0, none⟩)]) rfl (enters_of Try.func149 (by kernel_rfl) rfl)
    HS.out (Below.refl _ _) rfl (fun k => k = W.heap.size ∨ k = W.heap.size + 1) (fun k hk => by omega) (fun k hk => ⟨fun h => by omega, by omega⟩)
    (fun pre W' => pre = [] ∧ Boxed W' W.heap.size 43 (.slice none 0 0) ∧ Boxed W' (W.heap.size + 1) 4 (.bool false) ∧ Below W.heap.size W W')
    (fun cd pre W' => cd = .ret ∧ ∃ x, pre = [x] ∧ W0.heap.size + 2 ≤ x.g ∧ RowAt W' x ∧ Boxed W' W.heap.size 43 (hdr x) ∧ Boxed W' (W.heap.size + 1) 4 (.bool true) ∧ Below W.heap.size W W')
    (fun s X Y hs hk => ⟨hs.1, boxed_as hs.2.1 (hk.block _ hs.2.1.lt (.inl (by omega))), boxed_as hs.2.2.1 (hk.block _ hs.2.2.1.lt (.inl (by omega))), hs.2.2.2.trans ⟨hk.os, hk.tape, hk.output, hk.size, fun k hk1 => hk.block k (Nat.lt_of_lt_of_le hk1 hs.2.2.2.size) (.inl (by omega))⟩⟩)
    (fun cd s X Y hs hk => by
      obtain ⟨h1, x, h2, h3, h4, h5, h6, h7⟩ := hs
      refine ⟨h1, x, h2, h3, h4.on (hk.block _ h4.lt (.inr ⟨x, by rw [h2]; simp, rfl⟩)), boxed_as h5 (hk.block _ h5.lt (.inl (by omega))), boxed_as h6 (hk.block _ h6.lt (.inl (by omega))), h7.trans ⟨hk.os, hk.tape, hk.output, hk.size, fun k hk1 => hk.block k (Nat.lt_of_lt_of_le hk1 h7.size) (.inl (by omega))⟩⟩)
    ⟨rfl, c0, c1, hb3⟩
    (fun x => { tmps := #[.int .i64 w, .int .i64 h, .int .i64 M, .int .i64 K, undef, undef, undef, undef, .pointer (some ⟨W.heap.size, 0, none⟩), .pointer (some ⟨W.heap.size + 1, 0, none⟩), hdr x, .int .i64 w, .int .i64 h, .int .i64 M, .int .i64 K, .func (.func 149) #[] #[.pointer (some ⟨bN, 0, none⟩), .pointer (some ⟨bN + 1, 0, none⟩), .pointer (some ⟨bN + 1 + 1, 0, none⟩), .pointer (some ⟨bN + 1 + 1 + 1, 0, none⟩)], hdr x, undef], defers := [] }) ?assign ?body ?done ?stop
  case assign =>
    intro l2 x W2 K2 hK2
    gi_wp2
    simpa using hK2
  case body =>
    rintro l2 pre x W2 ⟨rfl, h0, h1, hb⟩ hx - -
    have v0 := h0.cell; have v1 := h1.cell
    have f0 := h0.frozen; have f1 := h1.frozen
    have hg := hx.far
    have hat := hx.at_
    have k0 := h0.set (.slice (some ⟨x.g, 0, none⟩) x.M.length x.cap)
    have k1 : Boxed (W2.setCell ⟨W.heap.size, 0, none⟩ (.slice (some ⟨x.g, 0, none⟩) x.M.length x.cap)) (W.heap.size + 1) 4 (.bool false) := boxed_as h1 (Below.heap_setCell W2 ⟨W.heap.size, 0, none⟩ (.slice (some ⟨x.g, 0, none⟩) x.M.length x.cap) _ (by simp))
    have hb5 : Below W.heap.size W ((W2.setCell ⟨W.heap.size, 0, none⟩ (.slice (some ⟨x.g, 0, none⟩) x.M.length x.cap)).setCell ⟨W.heap.size + 1, 0, none⟩ (.bool true)) := (hb.setCell (p := ⟨W.heap.size, 0, none⟩) (Nat.le_refl _) _).setCell (p := ⟨W.heap.size + 1, 0, none⟩) (Nat.le_succ _) _
    have R : Hid (∀ a0, postG (fun k => k = W.heap.size ∨ k = W.heap.size + 1) (fun pre W' => pre = [] ∧ Boxed W' W.heap.size 43 (.slice none 0 0) ∧ Boxed W' (W.heap.size + 1) 4 (.bool false) ∧ Below W.heap.size W W')
        (fun cd pre W' => cd = .ret ∧ ∃ x, pre = [x] ∧ W0.heap.size + 2 ≤ x.g ∧ RowAt W' x ∧ Boxed W' W.heap.size 43 (hdr x) ∧ Boxed W' (W.heap.size + 1) 4 (.bool true) ∧ Below W.heap.size W W') ([] ++ [x]) W2 .ret a0 ((W2.setCell ⟨W.heap.size, 0, none⟩ (.slice (some ⟨x.g, 0, none⟩) x.M.length x.cap)).setCell ⟨W.heap.size + 1, 0, none⟩ (.bool true))) := fun a0 =>
      ⟨((ButT.refl _ W2).setCell (p := ⟨W.heap.size, 0, none⟩) (.inl rfl) _).setCell (p := ⟨W.heap.size + 1, 0, none⟩) (.inr rfl) _, rfl, x, rfl, hg,
        hat.on ((Below.heap_setCell _ ⟨W.heap.size + 1, 0, none⟩ (.bool true) _ (by simp only [ne_eq]; omega)).trans (Below.heap_setCell W2 ⟨W.heap.size, 0, none⟩ (.slice (some ⟨x.g, 0, none⟩) x.M.length x.cap) _ (by simp only [ne_eq]; omega))), boxed_as k0 (Below.heap_setCell _ ⟨W.heap.size + 1, 0, none⟩ (.bool true) _ (by simp)), k1.set _, hb5⟩
    have v1' := k1.cell; have f1' := k1.frozen
    clear h0 h1 hb hx hat k0 k1 hb5
    have hh : hdr x = .slice (some ⟨x.g, 0, none⟩) x.M.length x.cap := rfl
    rw [hh]
    clear hh
    gi_wp2
    exact R.out _
  case done =>
    rintro D xs W7 hD hxs ⟨rfl, h0, h1, hb⟩ hK
    have v0 := h0.cell; have v1 := h1.cell
    have f0 := h0.frozen; have f1 := h1.frozen
    have hV : headV LL = ([], false) := by rw [← hxs]; rfl
    have k0 := h0.set (.slice none 0 0)
    have k1 : Boxed (W7.setCell ⟨W.heap.size, 0, none⟩ (.slice none 0 0)) (W.heap.size + 1) 4 (.bool false) := boxed_as h1 (Below.heap_setCell W7 ⟨W.heap.size, 0, none⟩ (.slice none 0 0) _ (by simp))
    have v1' := k1.cell; have f1' := k1.frozen
    have k2 := k1.set (.bool false)
    have k3 := boxed_as k0 (Below.heap_setCell (W7.setCell ⟨W.heap.size, 0, none⟩ (.slice none 0 0)) ⟨W.heap.size + 1, 0, none⟩ (.bool false) _ (by simp))
    have hb5 : Below W.heap.size W ((W7.setCell ⟨W.heap.size, 0, none⟩ (.slice none 0 0)).setCell ⟨W.heap.size + 1, 0, none⟩ (.bool false)) := (hb.setCell (p := ⟨W.heap.size, 0, none⟩) (Nat.le_refl _) _).setCell (p := ⟨W.heap.size + 1, 0, none⟩) (Nat.le_succ _) _
    have hK5 : ((W7.setCell ⟨W.heap.size, 0, none⟩ (.slice none 0 0)).setCell ⟨W.heap.size + 1, 0, none⟩ (.bool false)).heap[D]? = some (.deferred (some [])) := ((Below.heap_setCell _ ⟨W.heap.size + 1, 0, none⟩ (.bool false) _ (by simp only [ne_eq]; omega)).trans (Below.heap_setCell W7 ⟨W.heap.size, 0, none⟩ (.slice none 0 0) _ (by simp only [ne_eq]; omega))).trans hK
    obtain ⟨W8, hW8⟩ : ∃ W8, W8 = (W7.setCell ⟨W.heap.size, 0, none⟩ (.slice none 0 0)).setCell ⟨W.heap.size + 1, 0, none⟩ (.bool false) := ⟨_, rfl⟩
    have q0 : Boxed (W8.putObj D (.deferred none)) W.heap.size 43 (.slice none 0 0) := boxed_as (by rw [hW8]; exact k3) (World.putObj_heap_other (by omega))
    have q1 : Boxed (W8.putObj D (.deferred none)) (W.heap.size + 1) 4 (.bool false) := boxed_as (by rw [hW8]; exact k2) (World.putObj_heap_other (by omega))
    rw [← hW8] at hb5 hK5
    have hb7 : Below W.heap.size W (W8.putObj D (.deferred none)) := ⟨hb5.os, hb5.tape, hb5.output, by simpa using hb5.size, fun k hk => (World.putObj_heap_other (by omega)).trans (hb5.block k hk)⟩
    have RR : Hid (FirstQ (FirstP w h M K) W (.returned (.tuple #[.slice none 0 0, .bool false])) (W8.putObj D (.deferred none))) := ⟨([], false), _, rfl, by rw [← hV]; exact HFP.out, World.ownsRow_nil _ _ _ _, hb7⟩
    have u0 := q0.cell; have u1 := q1.cell
    clear h0 h1 hb k0 k1 k2 k3 hb5 hb7 hV hxs q0 q1 v1 f1 hK
    gi_wp2
    rw [← hW8]
    clear hW8
    refine ⟨by simp, .inl ⟨_, _, rfl, run_takeDeferred hK5, ?_⟩⟩
    refine ⟨_, results_cells2 rfl _ _ _ _ _ _ rfl rfl u0 u1, ?_⟩
    exact RR.out
  case stop =>
    rintro D cd pre W7 hD hpre ⟨rfl, x, rfl, hg, hat, h0, h1, hb⟩ hK
    have k0 : Boxed (W7.putObj D (.deferred none)) W.heap.size 43 (hdr x) := boxed_as h0 (World.putObj_heap_other (by omega))
    have k1 : Boxed (W7.putObj D (.deferred none)) (W.heap.size + 1) 4 (.bool true) := boxed_as h1 (World.putObj_heap_other (by omega))
    have hat7 : RowAt (W7.putObj D (.deferred none)) x := hat.on (World.putObj_heap_other (by omega))
    have hb7 : Below W.heap.size W (W7.putObj D (.deferred none)) := ⟨hb.os, hb.tape, hb.output, by simpa using hb.size, fun k hk => (World.putObj_heap_other (by omega)).trans (hb.block k hk)⟩
    have hV : headV LL = (x.M, true) := by
      obtain ⟨t, ht⟩ := hpre
      rw [← ht]; rfl
    have RR : Hid (FirstQ (FirstP w h M K) W (.returned (.tuple #[hdr x, .bool true])) (W7.putObj D (.deferred none))) := ⟨(x.M, true), hdr x, rfl, by rw [← hV]; exact HFP.out, hat7.own (by have := hb3.size; omega), hb7⟩
    have v0 := k0.cell; have v1 := k1.cell
    clear h0 h1 hb k0 k1 hat7 hb7 hV hat hpre
    gi_wp2
    refine ⟨by simp, .inl ⟨_, _, rfl, run_takeDeferred hK, ?_⟩⟩
    refine ⟨_, results_cells2 rfl _ _ _ _ _ _ rfl rfl v0 v1, ?_⟩
    exact RR.out
end Go.Proofs.Ytamchfdiehkloaa

/-! FstS9 -/
namespace Go.Proofs.Ytamchfdiehkloaa
open Go.RowKit

set_option maxRecDepth 100000 in
set_option maxHeartbeats 4000000 in
theorem spec_first (w h M K : Int) (W : World) : Calls Try.prog 50 #[.int .i64 w, .int .i64 h, .int .i64 M, .int .i64 K] W (FirstQ (FirstP w h M K) W) := by
  have HO := Lib.hid (fun W => specOk_any w h M W)
  obtain ⟨wh, hwh⟩ := isWh_ex w h M
  have HF := Lib.hid (firstP_of (K := K) hwh)
  cases hB : okC w h M
  · rw [hB] at HO
    have hz : listsC w h M K wh = [] := by unfold listsC; rw [hB]; rfl
    have R : Hid (FirstQ (FirstP w h M K) W (.returned (.tuple #[.slice none 0 0, .bool false])) W) := ⟨([], false), _, rfl, by have := HF.out; rw [hz] at this; exact this, World.ownsRow_nil _ _ _ _, Below.refl _ _⟩
    clear hB hwh hz HF
    go_enter Try.func50, Try.ntmps50
    go_wp2_with fail
    refine (HO.out _).mono ?_
    rintro e w1 ⟨rfl, rfl⟩
    go_wp2_with fail
    go_ret2
    exact R.out
  · rw [hB] at HO
    have HAL := Lib.hid (fun (k : Nat) (hk : k ≤ 9) W => specAll_any w h M k wh hwh hB hk W)
    have HNO := Lib.hid (fun q h1 h2 h3 => listsC_none (K := K) (wh := wh) (q := q) hB h1 h2 h3)
    obtain ⟨m, q, rfl, hm64, hpc, hq, hq1, hq9⟩ := okC_pc hB
    have HNS := Lib.hid (fun W => ones_any m W (by omega))
    rw [hpc] at HNS
    have HI := Lib.hid (fun w => in_any K 1 q w)
    cases hin : inB K 1 (q : Int)
    · rw [hin] at HI
      have hz := HNO.out q hq hq1 hin
      have R : Hid (FirstQ (FirstP w h m K) W (.returned (.tuple #[.slice none 0 0, .bool false])) W) := ⟨([], false), _, rfl, by have := HF.out; rw [hz] at this; exact this, World.ownsRow_nil _ _ _ _, Below.refl _ _⟩
      clear hB hwh hq hz hpc hin hm64 HF
      go_enter Try.func50, Try.ntmps50
      go_wp2_with fail
      refine (HO.out _).mono ?_
      rintro e w1 ⟨rfl, rfl⟩
      go_wp2_with fail
      refine (HNS.out _).mono ?_
      rintro e w1 ⟨rfl, rfl⟩
      go_wp2_with fail
      refine (HI.out _).mono ?_
      rintro e w1 ⟨rfl, rfl⟩
      go_wp2_with fail
      go_ret2
      exact R.out
    · rw [hin] at HI
      obtain ⟨k, rfl, hk9, -⟩ := inB_K hin hq9
      have HA := Lib.hid (fun W => HAL.out k hk9 W)
      generalize listsC w h m k wh = LL at *
      clear hB hwh hq hpc hin hm64
      go_enter Try.func50, Try.ntmps50
      go_wp2_with fail
      refine (HO.out _).mono ?_
      rintro e w1 ⟨rfl, rfl⟩
      go_wp2_with fail
      refine (HNS.out _).mono ?_
      rintro e w1 ⟨rfl, rfl⟩
      go_wp2_with fail
      refine (HI.out _).mono ?_
      rintro e w1 ⟨rfl, rfl⟩
      go_wp2_with fail
      refine (HA.out _).mono ?_
      rintro e w2 ⟨v, Rs, rfl, hR, hM, hb⟩
      obtain ⟨A, c, rfl, hat⟩ := hR.form
      cases Rs with
      | nil =>
        have R : Hid (FirstQ (FirstP w h m k) w1 (.returned (.tuple #[.slice none 0 0, .bool false])) w2) := ⟨([], false), _, rfl, by have := HF.out; rw [← hM] at this; exact this, World.ownsRow_nil _ _ _ _, hb⟩
        clear hR hM hb hat
        go_wp2_with fail
        go_ret2
        exact R.out
      | cons r Rs =>
        obtain ⟨g, rfl, hc0⟩ := hat 0 (by simp)
        have hrow := hR.row r (by simp)
        have R : Hid (FirstQ (FirstP w h m k) w1 (.returned (.tuple #[hdr r, .bool true])) w2) := ⟨(r.M, true), _, rfl, by have := HF.out; rw [← hM] at this; exact this, hrow, hb⟩
        have hc : w2.cell? ⟨g, 0, none⟩ = some (.slice (some ⟨r.g, 0, none⟩) r.M.length r.cap) := hc0
        have hl : (((r :: Rs).length : Int) == 0) = false := by rw [beq_eq_false_iff_ne]; simp only [List.length_cons]; omega
        have hl2 : 0 < (r :: Rs).length := by simp
        clear hR hM hb hat hc0 hrow
        generalize (r :: Rs).length = q2 at *
        go_wp2_with fail
        go_ret2
        exact R.out

set_option maxRecDepth 100000 in
set_option maxHeartbeats 2000000 in
theorem ex_first (w h M K : Int) (W : World) : Calls Try.prog 8 #[.int .i64 w, .int .i64 h, .int .i64 M, .int .i64 K] W fun e w' => e = .returned (.bool true) ∧ Below W.heap.size W w' := by
  have HS := Lib.hid (fun W => spec_first w h M K W)
  have HI := Lib.hid (fun W => impl_first w h M K W)
  go_enter Try.func8, Try.ntmps8
  go_wp2_with fail
  refine (HS.out _).mono ?_
  rintro e w2 ⟨⟨L, y⟩, v2, rfl, hL, own2, b2⟩
  simp only at own2
  have HL := Lib.hid hL
  have HMM : Hid (L.length ≤ 1048576) := by
    show _ ≤ _
    have := hL.2
    simp only at this
    omega
  clear hL
  go_wp2_with fail
  refine (HI.out w2).mono ?_
  rintro e w4 ⟨⟨L', y'⟩, v4, rfl, hL', own4, hb4⟩
  simp only at own4
  have hq := HL.out.uniq hL'
  simp only [Prod.mk.injEq] at hq
  obtain ⟨rfl, rfl⟩ := hq
  have b4 := below_on b2 hb4
  have ap24 := own_apart_g own2 (Nat.le_refl _) own4
  replace own2 := own_below own2 hb4
  replace own4 := own_base own4 b2.size
  clear hb4 b2 hL'
  obtain ⟨_, A4, c4, rfl, p4⟩ := own_ints own4
  obtain ⟨_, A2, c2, rfl, p2⟩ := own_ints own2
  go_wp2_with fail
  refine (eq_ints A4 A2 c4 c2 L w4 p4 p2 HMM.out).mono ?_
  rintro e w9 ⟨rfl, hb9⟩
  have b9 := below_on b4 hb9
  replace own2 := own_below own2 hb9
  replace own4 := own_below own4 hb9
  clear hb9 p4 p2 b4
  go_wp2_with fail
  refine (mark_ints _ _ _ _ w9 own4 HMM.out).mono ?_
  rintro e w10 ⟨rfl, own4m, hg10⟩
  have b10 := b9.grown hg10 b9.size (fun k hk => (own4.lt k hk).1)
  replace own2 := own2.kept hg10 ap24
  clear hg10 own4 ap24 b9
  go_wp2_with fail
  refine (held_ints _ _ _ w10 own4m HMM.out).mono ?_
  rintro e w11 ⟨rfl, rfl⟩
  go_wp2_with fail
  refine (HI.out w11).mono ?_
  rintro e w13 ⟨⟨L', y'⟩, v13, rfl, hL', own13, hb13⟩
  simp only at own13
  have hq := HL.out.uniq hL'
  simp only [Prod.mk.injEq] at hq
  obtain ⟨rfl, rfl⟩ := hq
  have b13 := below_on b10 hb13
  replace own2 := own_below own2 hb13
  replace own4m := own_below own4m hb13
  obtain ⟨_, A13, c13, rfl, p13⟩ := own_ints own13
  have p2 := intsA_of own2
  clear hb13 own13 b10 hL'
  go_wp2_with fail
  refine (eq_ints A13 A2 c13 c2 L w13 p13 p2 HMM.out).mono ?_
  rintro e w14 ⟨rfl, hb14⟩
  have b14 := below_on b13 hb14
  replace own4m := own_below own4m hb14
  clear hb14 own2 p2 p13 b13
  go_wp2_with fail
  refine (held_ints _ _ _ w14 own4m HMM.out).mono ?_
  rintro e w15 ⟨rfl, rfl⟩
  go_wp2_with fail
  go_ret
  exact ⟨rfl, b14⟩
end Go.Proofs.Ytamchfdiehkloaa
