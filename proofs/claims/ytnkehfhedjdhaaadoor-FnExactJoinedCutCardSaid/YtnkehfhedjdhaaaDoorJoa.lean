/-
  Walks and facts of this seat, part Joa (merged by a script of this repo out of smaller texts).
-/
import Derived.Test.YtnkehfhedjdhaaaDoorCoc
import Derived.Laws.AppendOwnNone
import Derived.RangeFuncNested
import Derived.RangeFuncLeaves
import Derived.Maps.AppendAt
import Derived.WalkKit
import Derived.OwnWalkIn
import Derived.TacticsInMore
/-! Pcs9 -/
namespace Go.Proofs.YtnkehfhedjdhaaaDoor
open Go.RowKit

def PV (w h M : Int) (cut L : List Int) : Prop := (CutP w h M cut ∧ L = pieV w h M cut) ∨ (¬ CutP w h M cut ∧ L = [])
theorem PV.uniq {w h M : Int} {cut L L' : List Int} (h1 : PV w h M cut L) (h2 : PV w h M cut L') : L = L' := by
  rcases h1 with ⟨a, rfl⟩ | ⟨a, rfl⟩ <;> rcases h2 with ⟨b, rfl⟩ | ⟨b, rfl⟩
  · rfl
  · exact absurd a b
  · exact absurd b a
  · rfl
/-- What is known where a cut is one. -/
structure CutAt (w h M : Int) (cut : List Int) (a b m n : Nat) (C : List Nat) : Prop where
  ew : w = a
  eh : h = b
  em : M = m
  ec : cut = castL C
  en : n = a * b
  a6 : 1 ≤ a ∧ a ≤ 6
  b6 : 1 ≤ b ∧ b ≤ 6
  lt : m < 2 ^ n
  n36 : n ≤ 36
  ix : idxV w h M = idxL m n
  len : (idxL m n).length = C.length
  l1 : 1 ≤ C.length
  l9 : C.length ≤ 9
  num : numF 0 C = true
  pc : pc 64 m = C.length
  shape : shapeB a b m = true
theorem cutAt_of {w h M : Int} {cut : List Int} (hc : CutP w h M cut) : ∃ a b m n C, CutAt w h M cut a b m n C := by
  obtain ⟨h1, h2, h3, h4⟩ := hc
  obtain ⟨a, b, m, n, rfl, rfl, rfl, hab, ha1, ha2, hb1, hb2, hm, hn36, hix, hpc, hl1, hl9, hS⟩ := okC_nat h1
  obtain ⟨C, rfl, hC, hCl⟩ := numV_some h3
  rw [castL_len, hix] at h2
  exact ⟨a, b, m, n, C, rfl, rfl, rfl, rfl, hab, ⟨ha1, ha2⟩, ⟨hb1, hb2⟩, hm, hn36, hix, h2.symm, by omega, by omega, hC, by omega, hS⟩
theorem CutAt.pie {w h M : Int} {cut : List Int} {a b m n : Nat} {C : List Nat} (k : CutAt w h M cut a b m n C) : pieV w h M cut = castL (uniF [] (idxL m n) C) := by
  rw [k.ec, pieV_cast, k.ix]
theorem CutAt.le {w h M : Int} {cut : List Int} {a b m n : Nat} {C : List Nat} (k : CutAt w h M cut a b m n C) : (uniF [] (idxL m n) C).length ≤ 9 := by
  have := uni_ge k.len k.num
  have := k.l9
  omega
theorem CutAt.plt {w h M : Int} {cut : List Int} {a b m n : Nat} {C : List Nat} (k : CutAt w h M cut a b m n C) : ∀ p ∈ uniF [] (idxL m n) C, p < 2 ^ n := uni_lt k.len k.num
/-- The pieces as whole numbers, each a shape of the table. -/
def PVN (w h M : Int) (cut : List Int) (P : List Nat) : Prop := PV w h M cut (castL P) ∧ P.length ≤ 9 ∧ ∀ p ∈ P, shapeB w h (p : Nat) = true
theorem pvn_of {w h M : Int} {cut L : List Int} (hL : PV w h M cut L) : ∃ P, L = castL P ∧ PVN w h M cut P := by
  rcases hL with ⟨hc, rfl⟩ | ⟨hc, rfl⟩
  · obtain ⟨a, b, m, n, C, k⟩ := cutAt_of hc
    refine ⟨_, k.pie, .inl ⟨hc, k.pie.symm⟩, k.le, fun p hp => ?_⟩
    rw [k.ew, k.eh]
    exact shape_of_lt k.en k.a6 k.b6 p (k.plt p hp)
  · exact ⟨[], rfl, .inr ⟨hc, rfl⟩, by simp, fun p hp => by cases hp⟩
def PieQ (w h M : Int) (cut : List Int) (W : World) (e : Ending) (w' : World) : Prop := ∃ P, PVN w h M cut P ∧ ListsI W (castL P) e w'

set_option maxRecDepth 100000 in
set_option maxHeartbeats 2000000 in
theorem impl_pieces (w h M : Int) (A : Option Addr) (c : Nat) (cut : List Int) (W : World) (hA : IntsA W A cut) (hL : cut.length ≤ 1048576) :
    Calls Tryd.prog 10 #[.int .i64 w, .int .i64 h, .int .i64 M, .slice A cut.length c] W (PieQ w h M cut W) := by
  have HC := Lib.hid (impl_cutOk w h M A c cut W hA hL)
  have R0 : Hid (∀ w1, Below W.heap.size W w1 → ¬ CutP w h M cut → PieQ w h M cut W (.returned (.slice none 0 0)) w1) := fun w1 hb hn => ⟨[], ⟨.inr ⟨hn, rfl⟩, by simp, fun p hp => by cases hp⟩, _, rfl, World.ownsRow_nil _ _ _ _, hb⟩
  by_cases hc : CutP w h M cut
  · have HTO := Lib.hid (fun W => cellsTo_any w h M W)
    obtain ⟨a, b, m, n, C, k⟩ := cutAt_of hc
    have R1 : Hid (∀ e w1 w2, Below W.heap.size W w1 → ListsI w1 (castL (uniF [] (idxL m n) C)) e w2 → PieQ w h M cut W e w2) := fun e w1 w2 hb hl => ⟨uniF [] (idxL m n) C, by
      obtain ⟨P, hP, hPV⟩ := pvn_of (.inl ⟨hc, rfl⟩ : PV w h M cut (pieV w h M cut))
      rw [k.pie] at hP
      rw [castL_inj hP]; exact hPV, by
      obtain ⟨v, rfl, own, hb2⟩ := hl
      exact ⟨v, rfl, own_base own hb.size, below_on hb hb2⟩⟩
    have HU := Lib.hid (fun A1 c1 W h1 h2 => unite_any A1 A c1 c (idxL m n) C W h1 h2 k.len k.l9 (idx36 k.n36) k.num)
    have hcc : cutCells w h M = castL ((idxL m n).map (2 ^ ·)) := by unfold cutCells; rw [hc.1, k.ix]; rfl
    rw [hcc] at HTO
    have hkk : (castL ((idxL m n).map (2 ^ ·))).length = cut.length := by rw [castL_len, List.length_map, k.len, k.ec, castL_len]
    have HCQ := Lib.hid hc
    obtain ⟨kw, kh, km, kc⟩ := And.intro k.ew (And.intro k.eh (And.intro k.em k.ec))
    have hlen : cut.length = C.length := by rw [kc, castL_len]
    rw [← hlen, ← kc] at HU
    subst kw; subst kh; subst km
    have HA := Lib.hid hA
    clear hA hc k kc hlen hcc R0
    go_enter Tryd.func10, Tryd.ntmps10
    go_wp2_with fail
    refine HC.out.mono ?_
    rintro e w1 ⟨v, rfl, hv, hb⟩
    obtain rfl := hv.2 HCQ.out
    clear hv
    go_wp2_with fail
    refine (HTO.out _).mono ?_
    rintro e w2 ⟨v, rfl, own, hb2⟩
    rw [hkk] at own
    obtain ⟨A1, c1, rfl⟩ : ∃ A1 c1, v = .slice A1 cut.length c1 := by
      obtain ⟨A1, c1, e⟩ := own_castL own
      exact ⟨A1, c1, e⟩
    have hb3 := below_on hb hb2
    have H1 := Lib.hid (HU.out A1 c1 w2 (intsA_of own) (intsA_on HA.out hb3))
    have HB := Lib.hid hb3
    clear hb hb2 hb3 own
    go_wp2_with fail
    refine H1.out.mono ?_
    intro e w3 hl
    have RR := Lib.hid (R1.out _ _ _ HB.out hl)
    obtain ⟨v, rfl, -, -⟩ := hl
    go_wp2_with fail
    go_ret
    exact RR.out
  · have HCQ := Lib.hid hc
    clear hA hc
    go_enter Tryd.func10, Tryd.ntmps10
    go_wp2_with fail
    refine HC.out.mono ?_
    rintro e w1 ⟨v, rfl, hv, hb⟩
    obtain rfl : v = false := by
      cases v
      · rfl
      · exact absurd (hv.1 rfl) HCQ.out
    have RR := Lib.hid (R0.out _ hb HCQ.out)
    clear hv hb
    go_wp2_with fail
    go_ret
    exact RR.out
end Go.Proofs.YtnkehfhedjdhaaaDoor

/-! PcsL10 -/
namespace Go.Proofs.YtnkehfhedjdhaaaDoor
open Go.RowKit

theorem spec_l09 {w h M : Int} {cut : List Int} (hc : CutP w h M cut) : (pieV w h M cut).length ≤ 9 ∧ ∀ W A c, IntsA W A cut → Calls Tryd.prog 57 #[.int .i64 w, .int .i64 M, .slice A cut.length c] W (ListsI W (pieV w h M cut)) := by
  obtain ⟨a, b, m, n, C, k⟩ := cutAt_of hc
  rw [k.pie]
  refine ⟨by rw [castL_len]; exact k.le, fun W A c hA => ?_⟩
  have hlen : cut.length = C.length := by rw [k.ec, castL_len]
  rw [k.ew, k.em, hlen]
  rw [k.ec] at hA
  exact specPieces_any a m n A c C W k.a6 k.lt k.n36 hA k.len k.l9 k.num
theorem impl_l09 {w h M : Int} {cut : List Int} (hc : CutP w h M cut) (hL : cut.length ≤ 1048576) : ∀ W A c, IntsA W A cut → Calls Tryd.prog 10 #[.int .i64 w, .int .i64 h, .int .i64 M, .slice A cut.length c] W (ListsI W (pieV w h M cut)) := fun W A c hA => by
  refine (impl_pieces w h M A c cut W hA hL).mono ?_
  rintro e w1 ⟨P, hP, hl⟩
  have := hP.1.uniq (.inl ⟨hc, rfl⟩ : PV w h M cut (pieV w h M cut))
  rw [this] at hl
  exact hl
theorem pie_nat {w h M : Int} {cut : List Int} (hc : CutP w h M cut) : ∃ P : List Nat, pieV w h M cut = castL P ∧ P.length ≤ 9 ∧ (∀ p ∈ P, p < 2 ^ 36) ∧ ∀ p ∈ P, shapeB w h (p : Nat) = true := by
  obtain ⟨a, b, m, n, C, k⟩ := cutAt_of hc
  refine ⟨_, k.pie, k.le, fun p hp => Nat.lt_of_lt_of_le (k.plt p hp) (Nat.pow_le_pow_right (by omega) k.n36), fun p hp => ?_⟩
  rw [k.ew, k.eh]
  exact shape_of_lt k.en k.a6 k.b6 p (k.plt p hp)
end Go.Proofs.YtnkehfhedjdhaaaDoor

/-! JoinP10 -/
namespace Go.Proofs.YtnkehfhedjdhaaaDoor
open Go.RowKit

theorem castL_one10 {P : List Nat} {k : Nat} (h : k < P.length) : (castL P)[k]'(by rw [castL_len]; exact h) = ((P[k] : Nat) : Int) := by simp [castL]
def CatP (w h : Int) : List Nat → List Int → Prop
  | [], X => X = []
  | r :: R, X => ∃ L Y, PartsV w h (r : Nat) L ∧ CatP w h R Y ∧ X = L ++ Y
theorem CatP.snoc {w h : Int} {r : Nat} {L : List Int} (hL : PartsV w h (r : Nat) L) : ∀ {R : List Nat} {X : List Int}, CatP w h R X → CatP w h (R ++ [r]) (X ++ L)
  | [], X, hX => by
    have e : X = [] := hX
    rw [e]
    exact ⟨L, [], hL, rfl, by simp⟩
  | q :: R, X, hX => by
    obtain ⟨K, Y, h1, h2, rfl⟩ := hX
    exact ⟨K, Y ++ L, h1, CatP.snoc hL h2, by simp⟩
theorem CatP.uniq {w h : Int} : ∀ {R : List Nat} {X X' : List Int}, CatP w h R X → CatP w h R X' → X = X'
  | [], X, X', h1, h2 => by
    have e1 : X = [] := h1
    have e2 : X' = [] := h2
    rw [e1, e2]
  | r :: R, X, X', h1, h2 => by
    obtain ⟨K, Y, a1, a2, rfl⟩ := h1
    obtain ⟨K', Y', b1, b2, rfl⟩ := h2
    rw [a1.uniq b1, CatP.uniq a2 b2]
theorem partsR_le {A : Nat → Nat → Prop} {m : Nat} {L : List Nat} (h : PartsR A m L) : ∀ p ∈ L, p ≤ m := by
  induction h with
  | none => intro p hp; simp at hp
  | more _ _ hp _ ih =>
    intro q hq
    rcases List.mem_cons.1 hq with rfl | hq
    · exact hp.sub.le
    · have := ih q hq; omega
theorem partsV_range {w h : Int} {r : Nat} {L : List Int} (hL : PartsV w h (r : Nat) L) : ∀ x ∈ L, 0 ≤ x ∧ x ≤ r := by
  rcases hL with ⟨_, rfl⟩ | ⟨a, b, m, K, _, _, _, e, p, rfl⟩
  · intro x hx; simp at hx
  · intro x hx
    obtain ⟨k, hk, rfl⟩ := List.mem_map.1 hx
    have := partsR_le p k hk
    omega
theorem CatP.range {w h : Int} {n : Nat} : ∀ {R : List Nat} {X : List Int}, CatP w h R X → (∀ r ∈ R, r < n) → ∀ x ∈ X, 0 ≤ x ∧ x < n
  | [], X, h1, _ => by
    have e : X = [] := h1
    rw [e]; intro x hx; simp at hx
  | r :: R, X, h1, hR => by
    obtain ⟨K, Y, a1, a2, rfl⟩ := h1
    intro x hx
    rcases List.mem_append.1 hx with hx | hx
    · have := partsV_range a1 x hx; have := hR r (by simp); omega
    · exact CatP.range a2 (fun q hq => hR q (List.mem_cons_of_mem _ hq)) x hx
def crossL (P Q : List Nat) : List Nat := P.flatMap fun p => Q.map fun q => p &&& q
theorem crossL_step {P Q : List Nat} {k : Nat} (hk : k < P.length) : crossL (P.take (k + 1)) Q = crossL (P.take k) Q ++ Q.map (fun q => P[k] &&& q) := by
  rw [List.take_succ_eq_append_getElem hk]
  unfold crossL
  rw [List.flatMap_append, List.flatMap_cons, List.flatMap_nil, List.append_nil]
theorem map_step10 {Q : List Nat} {f : Nat → Nat} {j : Nat} (hj : j < Q.length) : (Q.take (j + 1)).map f = (Q.take j).map f ++ [f Q[j]] := by
  rw [List.take_succ_eq_append_getElem hj, List.map_append]; rfl
theorem crossL_lt {P Q : List Nat} {n : Nat} (hP : ∀ p ∈ P, p < n) : ∀ r ∈ crossL P Q, r < n := fun r hr => by
  obtain ⟨p, hp, hq⟩ := List.mem_flatMap.1 hr
  obtain ⟨q, _, rfl⟩ := List.mem_map.1 hq
  exact Nat.lt_of_le_of_lt Nat.and_le_left (hP p hp)
def JoinP (w h M : Int) (X Y : List Int) (V : List Int × Bool) : Prop :=
  (¬ (CutP w h M X ∧ CutP w h M Y) ∧ V = ([], false)) ∨ ((CutP w h M X ∧ CutP w h M Y) ∧ ∃ P Q Z, pieV w h M X = castL P ∧ pieV w h M Y = castL Q ∧ CatP w h (crossL P Q) Z ∧ CofP w h M Z V)
theorem JoinP.uniq {w h M : Int} {X Y : List Int} {V V' : List Int × Bool} (h1 : JoinP w h M X Y V) (h2 : JoinP w h M X Y V') : V = V' := by
  rcases h1 with ⟨n1, rfl⟩ | ⟨c1, P, Q, Z, p1, q1, z1, v1⟩ <;> rcases h2 with ⟨n2, rfl⟩ | ⟨c2, P', Q', Z', p2, q2, z2, v2⟩
  · rfl
  · exact absurd c2 n1
  · exact absurd c1 n2
  · obtain rfl := castL_inj (p1.symm.trans p2)
    obtain rfl := castL_inj (q1.symm.trans q2)
    obtain rfl := z1.uniq z2
    exact v1.uniq v2
theorem JoinP.len {w h M : Int} {X Y : List Int} {V : List Int × Bool} (h1 : JoinP w h M X Y V) : V.1.length ≤ 1048576 := by
  rcases h1 with ⟨_, rfl⟩ | ⟨_, P, Q, Z, _, _, _, v1⟩
  · simp
  · exact v1.len
theorem wf_small {x : Int} (h0 : 0 ≤ x) (h : x < 2 ^ 36) : (Lit.int .i64 x).wf = true := by
  simp [Lit.wf, IntKind.min, IntKind.max, IntKind.signed, IntKind.bits]
  omega
/-! ### An append of no cells -/
theorem run_append_zero10 {P : Program} {w : World} (base : Nat) (t ty e : TypeId) (i : TypeInfo) (size : Nat) (ht : P.underlying t = some (.slice e)) (hi : P.info? e = some i)
    (v : Value) (n : Nat) (xs : List Value) (hown : w.ownsRow base e size v n xs) (ad : Addr) (c : Nat) :
    (Builtin.append_ #[t, t] ty #[v, .slice (some ad) 0 c]).run P w = .ok v w := by
  have h0 : Sem.run P (loadCells ad 0) w = .ok #[] w := by first | rfl | simp [loadCells]
  rcases hown.2 with ⟨rfl, rfl⟩ | ⟨g, cap, cur, rfl, _, _, hnc, _⟩
  · simp [Builtin.append_, run_underlying ht, sizeOf, typeInfo, hi, Builtin.lenOf, Builtin.firstCells, h0, Result.andThen]
  · simp [Builtin.append_, run_underlying ht, sizeOf, typeInfo, hi, Builtin.lenOf, Builtin.firstCells, hnc, storeCells, h0, Result.andThen]
theorem wpList_append_zero10 {P : Program} {w : World} {ops : Array Oper} {rest : List Oper} {o : Oper} {a : Act} {Q : Exit → Act → World → Prop} (hgd : o.guard = none) (s x : Operand) (t : TypeId)
    (ho : o.op = .call { callee := .builtin .append, args := #[s, x], argTypes := #[t, t] })
    (base : Nat) (e : TypeId) (i : TypeInfo) (size : Nat) (ht : P.underlying t = some (.slice e)) (hi : P.info? e = some i)
    (v : Value) (n : Nat) (xs : List Value) (hs : a.eval s = v) (hown : w.ownsRow base e size v n xs) (A : Option Addr) (c : Nat) (hA : A = none → c = 0) (hx : a.eval x = .slice A 0 c)
    (h : wpList P ops Q rest (a.put o.dst v) w) : wpList P ops Q (o :: rest) a w := by
  cases A with
  | none =>
    obtain rfl := hA rfl
    exact wpList_append_own_none hgd s x t ho base e i size ht hi v n xs hs hown hx h
  | some ad =>
    refine wpList_plain hgd fun K hK => ?_
    have hrun := run_append_zero10 (P := P) (w := w) base t o.type e i size ht hi v n xs hown ad c
    unfold Oper.wp
    simp [execOp, ho, resolve, invoke, builtin, hs, hx, hrun, Result.andThen]
    exact hK _ _ h
theorem own_zero {w : World} {B n : Nat} {e : TypeId} {A : Option Addr} {m c : Nat} {xs : List Value} (h : w.ownsRow B e 1 (.slice A m c) n xs) : A = none → c = 0 := fun hA => by
  rcases h.2 with ⟨h1, _⟩ | ⟨g, cap, cur, h1, _⟩
  · simp only [Value.slice.injEq] at h1; exact h1.2.2
  · subst hA; simp at h1
end Go.Proofs.YtnkehfhedjdhaaaDoor

/-! Give9 -/
namespace Go.Proofs.YtnkehfhedjdhaaaDoor
open Go.RowKit

/-- The types of what the iterators over lists of ints write: ints, slices of ints, and their closures. -/
def ownT (t : TypeId) : Prop := t = 3 ∨ t = 27 ∨ t = 65 ∨ t = 64 ∨ t = 102
/-- A block of another type: no iterator over lists of ints writes it. -/
def ForeignO (o : Option Obj) : Prop := ∃ cs t fr, o = some (.cells cs t fr) ∧ ¬ ownT t
theorem box_nf {W : World} {p : Nat} {t : TypeId} {v : Value} (hb : Boxed W p t v) (ht : ownT t) : ¬ ForeignO W.heap[p]? := fun ⟨cs, t', fr, h1, h2⟩ => by
  have h4 : W.heap[p]? = some (.cells #[v] t (0, 0)) := hb
  rw [h4] at h1
  simp only [Option.some.injEq, Obj.cells.injEq] at h1
  exact h2 (by rw [← h1.2.1]; exact ht)
theorem row_nf {W : World} {B n g : Nat} {v : Value} {xs : List Value} (ow : W.ownsRow B 3 1 v n xs) (hg : v.ownBlock = some g) : ¬ ForeignO W.heap[g]? := fun ⟨cs, t, fr, h1, h2⟩ => by
  rcases ow.2 with ⟨h3, _⟩ | ⟨g', cap, cur, hv, _, hh, _⟩
  · subst h3; cases hg
  · subst hv
    have e' : g' = g := by simpa [Value.ownBlock] using hg
    subst e'
    rw [hh] at h1
    simp only [Option.some.injEq, Obj.cells.injEq] at h1
    exact h2 (by rw [← h1.2.1]; exact .inl rfl)
theorem no_foreign {W : World} {l : Nat} {o : Obj} (h : W.heap[l]? = some o) (ho : ∀ cs t fr, o ≠ .cells cs t fr) : ¬ ForeignO W.heap[l]? := fun ⟨cs, t, fr, h1, _⟩ => by
  rw [h] at h1
  exact ho cs t fr (Option.some.inj h1)
/-- What an iterator keeps between two rounds: all that lay below B, the blocks of G, and whatever is foreign to it. -/
structure KeepG (B : Nat) (G : Nat → Prop) (W W' : World) : Prop where
  os : W'.os = W.os
  tape : W'.tape = W.tape
  output : W'.output = W.output
  size : W.heap.size ≤ W'.heap.size
  block : ∀ k, k < W.heap.size → (k < B ∨ G k) → W'.heap[k]? = W.heap[k]?
  foreign : ∀ k, k < W.heap.size → ForeignO W.heap[k]? → W'.heap[k]? = W.heap[k]?
theorem KeepG.refl (B : Nat) (G : Nat → Prop) (W : World) : KeepG B G W W := ⟨rfl, rfl, rfl, Nat.le_refl _, fun _ _ _ => rfl, fun _ _ _ => rfl⟩
theorem KeepG.trans {B : Nat} {G : Nat → Prop} {X Y Z : World} (h : KeepG B G X Y) (k : KeepG B G Y Z) : KeepG B G X Z :=
  ⟨k.os.trans h.os, k.tape.trans h.tape, k.output.trans h.output, Nat.le_trans h.size k.size, fun i hi hg => (k.block i (Nat.lt_of_lt_of_le hi h.size) hg).trans (h.block i hi hg), fun i hi hf => (k.foreign i (Nat.lt_of_lt_of_le hi h.size) (by rw [h.foreign i hi hf]; exact hf)).trans (h.foreign i hi hf)⟩
theorem KeepG.less {B B' : Nat} {G : Nat → Prop} {W W' : World} (h : KeepG B' G W W') (hB : B ≤ B') : KeepG B G W W' :=
  ⟨h.os, h.tape, h.output, h.size, fun k hk hg => h.block k hk (hg.imp (fun h => Nat.lt_of_lt_of_le h hB) id), h.foreign⟩
theorem KeepG.of_below {B : Nat} {G : Nat → Prop} {W W' : World} (h : Below W.heap.size W W') : KeepG B G W W' := ⟨h.os, h.tape, h.output, h.size, fun k hk _ => h.block k hk, fun k hk _ => h.block k hk⟩
theorem KeepG.alloc (B : Nat) (G : Nat → Prop) (W : World) (o : Obj) : KeepG B G W (W.alloc o) := KeepG.of_below ((Below.refl _ W).alloc (Nat.le_refl _) o)
theorem KeepG.putObj {B : Nat} {G : Nat → Prop} (W : World) (l : Nat) (o : Obj) (hB : B ≤ l) (hG : ¬ G l) (hF : ¬ ForeignO W.heap[l]?) : KeepG B G W (W.putObj l o) :=
  ⟨rfl, rfl, rfl, by simp, fun k _ hg => World.putObj_heap_other (fun e => by subst e; exact hg.elim (fun h => absurd h (by omega)) hG), fun k _ hf => World.putObj_heap_other (fun e => by subst e; exact hF hf)⟩
/-- A round's word: all but the blocks of T lie as they lay. -/
structure ButT (T : Nat → Prop) (W W' : World) : Prop where
  size : W.heap.size ≤ W'.heap.size
  block : ∀ k, k < W.heap.size → ¬ T k → ¬ ForeignO W.heap[k]? → W'.heap[k]? = W.heap[k]?
theorem ButT.refl (T : Nat → Prop) (W : World) : ButT T W W := ⟨Nat.le_refl _, fun _ _ _ _ => rfl⟩
theorem ButT.trans {T : Nat → Prop} {X Y Z : World} (h : ButT T X Y) (k : ButT T Y Z) : ButT T X Z := ⟨Nat.le_trans h.size k.size, fun i hi ht hf => (k.block i (Nat.lt_of_lt_of_le hi h.size) ht (by rw [h.block i hi ht hf]; exact hf)).trans (h.block i hi ht hf)⟩
theorem ButT.more {T T' : Nat → Prop} {W W' : World} (h : ButT T W W') (hT : ∀ k, T k → T' k) : ButT T' W W' := ⟨h.size, fun k hk ht hf => h.block k hk (fun h => ht (hT k h)) hf⟩
theorem ButT.of_below {T : Nat → Prop} {W W' : World} (h : Below W.heap.size W W') : ButT T W W' := ⟨h.size, fun k hk _ _ => h.block k hk⟩
theorem ButT.putObj {T : Nat → Prop} (W : World) (l : Nat) (o : Obj) (hT : T l) : ButT T W (W.putObj l o) := ⟨by simp, fun _ _ ht _ => World.putObj_heap_other (fun e => ht (by rw [e]; exact hT))⟩
theorem ButT.setCell {T : Nat → Prop} {X W : World} (h : ButT T X W) {p : Addr} (hT : T p.block) (v : Value) : ButT T X (W.setCell p v) :=
  ⟨by rw [show (W.setCell p v).heap.size = W.heap.size from by show (W.heap.modify _ _).size = _; rw [Array.size_modify]]; exact h.size, fun k hk ht hf => (Below.heap_setCell W p v k (fun e => ht (by rw [e]; exact hT))).trans (h.block k hk ht hf)⟩
def AbG (B : Nat) (J : List Rw → World → Prop) : Prop := ∀ s W W', J s W → KeepG B (fun k => ∃ x ∈ s, x.g = k) W W' → J s W'
theorem AbG.less {B B' : Nat} {J : List Rw → World → Prop} (h : AbG B J) (hB : B ≤ B') : AbG B' J := fun s W W' hs hk => h s W W' hs (hk.less hB)
/-- A list lies in a block of its own. -/
def RowAt (W : World) (x : Rw) : Prop := W.ownsRow 0 3 1 (hdr x) x.M.length (ints x.M)
theorem RowAt.lt {W : World} {x : Rw} (h : RowAt W x) : x.g < W.heap.size := (World.ownsRow.lt h x.g rfl).2
theorem RowAt.on {W W' : World} {x : Rw} (h : RowAt W x) (hb : W'.heap[x.g]? = W.heap[x.g]?) : RowAt W' x := by
  rcases h.2 with ⟨h1, _⟩ | ⟨g, cap, cur, hv, hg, hh, hr⟩
  · cases h1
  · have : x.g = g := by
      have := congrArg Value.ownBlock hv
      simpa [hdr, Value.ownBlock] using this
    subst this
    exact ⟨h.1, .inr ⟨x.g, cap, cur, hv, hg, hb.trans hh, hr⟩⟩
theorem RowAt.below {W W' : World} {x : Rw} (h : RowAt W x) (hb : Below W.heap.size W W') : RowAt W' x := h.on (hb.block _ h.lt)
theorem RowAt.ints {W : World} {x : Rw} (h : RowAt W x) : IntsA W (some ⟨x.g, 0, none⟩) x.M := intsA_of h
/-- A new list that a round is handed. -/
structure NewRow (S : List (List Int)) (B : Nat) (pre : List Rw) (x : Rw) (W : World) : Prop where
  at_ : RowAt W x
  next : pre.map Rw.M ++ [x.M] <+: S
  far : B ≤ x.g
  apart : ∀ y ∈ pre, y.g ≠ x.g

/-- **The contract of such an iterator**: the value '.func (.func g) #[] lb', made in w0; S: the lists that it hands to its rounds, in that order; Cp: the blocks that it must find as they were. -/
def SeqG (P : Program) (gf : Nat) (lb : Array Value) (S : List (List Int)) (Cp : Nat → Prop) (w0 : World) : Prop :=
  ∀ (l : Nat) (T : Nat → Prop) (J Jx : List Rw → World → Prop) (W : World), Below w0.heap.size w0 W → (∀ b, T b → b < W.heap.size) → (∀ b, Cp b → ¬ T b) → AbG W.heap.size J → AbG W.heap.size Jx →
    (∀ m pre x W1, J pre W1 → NewRow S W.heap.size pre x W1 → YieldAt Fence.wide m P l #[hdr x] W1 fun e W' =>
      (e = .returned (.bool true) ∧ J (pre ++ [x]) W' ∧ ButT T W1 W') ∨ (e = .returned (.bool false) ∧ Jx (pre ++ [x]) W' ∧ ButT T W1 W')) →
    J [] W →
    ∀ n, CallsIn Fence.wide n P gf (#[.func (.yield l) #[] #[]] ++ lb) W fun e W' => (∃ v, e = .returned v) ∧ ((∃ ys, ys.map Rw.M = S ∧ J ys W') ∨ (∃ pre, pre.map Rw.M <+: S ∧ Jx pre W'))

/-- Where a body's walk ends. -/
def postG (T : Nat → Prop) (I : List Rw → World → Prop) (Ix : Code → List Rw → World → Prop) (xs : List Rw) (W : World) : Exit → Act → World → Prop
  | .normal, _, W' => ButT T W W' ∧ I xs W'
  | .ret, _, W' => ButT T W W' ∧ Ix .ret xs W'
  | .exit id, _, W' => ButT T W W' ∧ Ix (.exit id) xs W'
  | .goto t, _, W' => ButT T W W' ∧ Ix (.goto t) xs W'
  | .panic _, _, _ => False
  | .outgrown, _, _ => False

variable {P : Program}
/-- **The loop over such an iterator.** -/
theorem wpIn_rangeG {g : Operand} {ps : Array Tmp} {assign body : Code} {Q : Exit → Act → World → Prop} {a : Act} {w : World} {n : Nat} (h1 : 1 ≤ n)
    {gf : Nat} {lb : Array Value} (hg : a.eval g = .func (.func gf) #[] lb) (eg : ∀ args w, (callFunc gf args).run P w = .ok (.enter gf args) w)
    {S : List (List Int)} {Cp : Nat → Prop} {w0 : World} (hseq : SeqG P gf lb S Cp w0) (hb0 : Below w0.heap.size w0 w) (hps : ps.size = 1)
    (T : Nat → Prop) (hT : ∀ b, T b → b < w.heap.size) (hC : ∀ b, Cp b → ¬ T b ∧ b < w.heap.size)
    (I : List Rw → World → Prop) (Ix : Code → List Rw → World → Prop) (hI : AbG w.heap.size I) (hIx : ∀ c, AbG w.heap.size (Ix c)) (h0 : I [] w) (a₁ : Rw → Act)
    (hassign : ∀ (l : Nat) (x : Rw) (W : World) (K : Act → World → Prop), K (a₁ x) W →
      assign.wpIn (Fence.wide.inRound l) (n - 1 - 1) P (Exit.then K (fun _ _ _ => False)) { tmps := (ps.zip #[hdr x]).foldl (fun t (p, v) => t.setIfInBounds p v) a.tmps, defers := [] } W)
    (hbody : ∀ (l : Nat) (pre : List Rw) (x : Rw) (W : World), I pre W → NewRow S (w.heap.size + 2) pre x W → (∀ y ∈ pre, w.heap.size + 2 ≤ y.g) → (l = w.heap.size + 1 ∧ l < W.heap.size) →
      body.wpIn (Fence.wide.inRound l) (n - 1 - 1) P (postG T I Ix (pre ++ [x]) W) (a₁ x) W)
    (hdone : ∀ (D : Nat) (xs : List Rw) (W : World), D = w.heap.size → xs.map Rw.M = S → I xs W → W.heap[D]? = some (.deferred (some [])) → Q .normal { a with defers := { target := .collected D, args := #[] } :: a.defers } W)
    (hstop : ∀ (D : Nat) (c : Code) (pre : List Rw) (W : World), D = w.heap.size → pre.map Rw.M <+: S → Ix c pre W → W.heap[D]? = some (.deferred (some [])) → c.wpIn Fence.wide n P Q { a with defers := { target := .collected D, args := #[] } :: a.defers } W) :
    (Code.rangeFunc g ps assign body).wpIn Fence.wide n P Q a w := by
  refine wpIn_rangeFunc ?_
  intro fn hfn
  obtain ⟨D, hD⟩ : ∃ D, D = w.heap.size := ⟨_, rfl⟩
  obtain ⟨rc, hrc⟩ : ∃ rc : LoopState → Option Code → Loop, rc = fun st pe => { state := st, pending := pe, fn, tmps := a.tmps, params := ps, assign, body, defers := D } := ⟨_, rfl⟩
  obtain ⟨W1, hW1⟩ : ∃ W1, W1 = (w.alloc (.deferred (some []))).alloc (.loop (rc .ready none)) := ⟨_, rfl⟩
  have hs1 : W1.heap.size = D + 2 := by rw [hW1, hD]; simp
  have hbl : Below w.heap.size w W1 := by rw [hW1]; exact ((Below.refl _ w).alloc (Nat.le_refl _) _).alloc (by simp) _
  have hL : W1.heap[D + 1]? = some (.loop (rc .ready none)) := by
    have := World.alloc_heap_new (w.alloc (.deferred (some []))) (.loop (rc .ready none))
    rw [World.size_alloc] at this
    rw [hW1, hD]; exact this
  have hK : W1.heap[D]? = some (.deferred (some [])) := by
    rw [hW1, hD]; exact (Below.heap_alloc _ _ _ (by simp)).trans (World.alloc_heap_new w _)
  have hI1 : I [] W1 := hI _ _ _ h0 (KeepG.of_below hbl)
  refine ⟨D + 1, [{ target := .collected D, args := #[] }], W1, { target := .fn (.func gf) lb, args := #[.func (.yield (D + 1)) #[] #[]] }, W1, gf, #[.func (.yield (D + 1)) #[] #[]] ++ lb, W1, ?_, ?_, ?_, ?_, fun _ => h1, ?_⟩
  · rw [hW1, hrc, hD]; exact run_enterLoop_outer _ _ _ _ _
  · simp only [resolve, hg]
    simp [go_sem]
  · intro f' hf'; trivial
  · simp [invoke, go_sem, eg]
  · -- the two blocks of the loop's own, beside the caller's invariant
    obtain ⟨Bk, hBk⟩ : ∃ Bk : List Rw → World → Prop, Bk = fun pre W => W.heap[D]? = some (.deferred (some [])) ∧ ∀ y ∈ pre, D + 2 ≤ y.g := ⟨_, rfl⟩
    have keep2 : ∀ {pre : List Rw} {X Y : World}, KeepG W1.heap.size (fun k => ∃ x ∈ pre, x.g = k) X Y → ∀ k o, k < D + 2 → X.heap[k]? = some o → Y.heap[k]? = some o := fun hk k o hlt ho => (hk.block k (Array.getElem?_eq_some_iff.1 ho).1 (.inl (by rw [hs1]; exact hlt))).trans ho
    have put2 : ∀ {pre : List Rw} (X : World) (o : Obj) (L : Loop), X.heap[D + 1]? = some (.loop L) → (∀ y ∈ pre, D + 2 ≤ y.g) → KeepG w.heap.size (fun k => ∃ x ∈ pre, x.g = k) X (X.putObj (D + 1) o) := fun X o L hX hy => KeepG.putObj X _ o (by omega) (fun ⟨x, hx, e⟩ => by have := hy x hx; omega) (no_foreign hX (fun _ _ _ e => by cases e))
    refine (hseq (D + 1) (fun b => T b ∨ b = D + 1)
      (fun pre W => I pre W ∧ W.heap[D + 1]? = some (.loop (rc .ready none)) ∧ Bk pre W)
      (fun pre W => ∃ c, Ix c pre W ∧ W.heap[D + 1]? = some (.loop (rc .done (some c))) ∧ Bk pre W)
      W1 (hb0.trans (hbl.mono hb0.size)) (fun b hb => hb.elim (fun h => by have := hT b h; omega) (fun h => by omega)) (fun b hb hn => hn.elim (hC b hb).1 (fun h => by have := (hC b hb).2; omega))
      (fun s X Y hs hk => ⟨hI _ _ _ hs.1 (hk.less hbl.size), keep2 hk _ _ (by omega) hs.2.1, by
        have := hs.2.2
        rw [hBk] at this ⊢
        exact ⟨keep2 hk _ _ (by omega) this.1, this.2⟩⟩)
      (fun s X Y hs hk => by
        obtain ⟨c, q1, q2, q3⟩ := hs
        rw [hBk] at q3
        exact ⟨c, hIx c _ _ _ q1 (hk.less hbl.size), keep2 hk _ _ (by omega) q2, by rw [hBk]; exact ⟨keep2 hk _ _ (by omega) q3.1, q3.2⟩⟩)
      ?_ ⟨hI1, hL, by rw [hBk]; exact ⟨hK, fun y hy => by cases hy⟩⟩ (n - 1)).mono ?_
    · rintro m pre x W ⟨hi, hl, hk⟩ hx
      rw [hBk] at hk
      obtain ⟨hk, hyg⟩ := hk
      have hxg : D + 2 ≤ x.g := by rw [← hs1]; exact hx.far
      have hlt : D + 1 < W.heap.size := (Array.getElem?_eq_some_iff.1 hl).1
      have hy := run_yield (P := P) (args := #[hdr x]) hl (by rw [hrc]; exact hps.symm)
      have hr : RoundIn Fence.wide (n - 1 - 1) P (D + 1) fn ((ps.zip #[hdr x]).foldl (fun t (p, v) => t.setIfInBounds p v) a.tmps) assign body W (fun e W' => (e = .returned (.bool true) ∧ (I (pre ++ [x]) W' ∧ W'.heap[D + 1]? = some (.loop (rc .ready none)) ∧ Bk (pre ++ [x]) W') ∧ ButT (fun b => T b ∨ b = D + 1) W W') ∨ (e = .returned (.bool false) ∧ (∃ c, Ix c (pre ++ [x]) W' ∧ W'.heap[D + 1]? = some (.loop (rc .done (some c))) ∧ Bk (pre ++ [x]) W') ∧ ButT (fun b => T b ∨ b = D + 1) W W')) := by
        refine roundIn_of_wpIn hfn (hassign _ x W _ ?_)
        refine ⟨_, run_beginRound hl (by rw [hrc]), ?_⟩
        obtain ⟨W2, hW2⟩ : ∃ W2, W2 = W.putObj (D + 1) (.loop { rc .ready none with state := .busy }) := ⟨_, rfl⟩
        rw [← hW2]
        have b2 : ButT (fun b => T b ∨ b = D + 1) W W2 := by rw [hW2]; exact ButT.putObj _ _ _ (.inr rfl)
        have i2 : I pre W2 := by rw [hW2]; exact hI _ _ _ hi (put2 W _ _ hl hyg)
        have l2 : W2.heap[D + 1]? = some (.loop { rc .ready none with state := .busy }) := by rw [hW2]; exact World.putObj_heap_same hlt
        have k2 : W2.heap[D]? = some (.deferred (some [])) := by rw [hW2]; exact (World.putObj_heap_other (by omega)).trans hk
        have x2 : NewRow S (w.heap.size + 2) pre x W2 := ⟨hx.at_.on (by rw [hW2]; exact World.putObj_heap_other (by omega)), hx.next, by omega, hx.apart⟩
        have hs2 : D + 1 < W2.heap.size := (Array.getElem?_eq_some_iff.1 l2).1
        refine wpIn_mono (hbody (D + 1) pre x W2 i2 x2 (fun y hy => by have := hyg y hy; omega) ⟨by omega, hs2⟩) ?_
        have hyg2 : ∀ y ∈ pre ++ [x], D + 2 ≤ y.g := fun y hy => by
          rcases List.mem_append.1 hy with h | h
          · exact hyg y h
          · simp only [List.mem_singleton] at h; rw [h]; exact hxg
        have l3f : ∀ W3, ButT T W2 W3 → W3.heap[D + 1]? = some (.loop { rc .ready none with state := .busy }) := fun W3 hb => (hb.block _ hs2 (fun h => by have := hT _ h; omega) (no_foreign l2 (fun _ _ _ e => by cases e))).trans l2
        have fin : ∀ (jump : Option Code) (W3 : World), ButT T W2 W3 →
            (Instr.endRound (D + 1) jump).run P W3 = .ok (.bool jump.isNone) (W3.putObj (D + 1) (.loop (rc (if jump.isNone then .ready else .done) jump))) ∧
            (W3.putObj (D + 1) (.loop (rc (if jump.isNone then .ready else .done) jump))).heap[D + 1]? = some (.loop (rc (if jump.isNone then .ready else .done) jump)) ∧
            Bk (pre ++ [x]) (W3.putObj (D + 1) (.loop (rc (if jump.isNone then .ready else .done) jump))) := fun jump W3 hb => by
          have l3 := (hb.block _ hs2 (fun h => by have := hT _ h; omega) (no_foreign l2 (fun _ _ _ e => by cases e))).trans l2
          have k3 := (hb.block D (by omega) (fun h => by have := hT _ h; omega) (no_foreign k2 (fun _ _ _ e => by cases e))).trans k2
          have e := run_endRound (P := P) jump l3
          refine ⟨?_, World.putObj_heap_same (Array.getElem?_eq_some_iff.1 l3).1, ?_⟩
          · rw [hrc] at e ⊢; exact e
          · rw [hBk]; exact ⟨(World.putObj_heap_other (by omega)).trans k3, hyg2⟩
        rintro e a3 W3 hp
        cases e with
        | normal =>
          obtain ⟨hb3, hi3⟩ := hp
          obtain ⟨e1, e2, e3⟩ := fin none W3 hb3
          exact ⟨_, _, e1, .inl ⟨rfl, ⟨hI _ _ _ hi3 (put2 W3 _ _ (l3f W3 hb3) hyg2), e2, e3⟩, b2.trans ((hb3.more fun _ h => .inl h).trans (ButT.putObj _ _ _ (.inr rfl)))⟩⟩
        | ret =>
          obtain ⟨hb3, hi3⟩ := hp
          obtain ⟨e1, e2, e3⟩ := fin (some .ret) W3 hb3
          exact ⟨_, _, e1, .inr ⟨rfl, ⟨.ret, hIx _ _ _ _ hi3 (put2 W3 _ _ (l3f W3 hb3) hyg2), e2, e3⟩, b2.trans ((hb3.more fun _ h => .inl h).trans (ButT.putObj _ _ _ (.inr rfl)))⟩⟩
        | exit id =>
          obtain ⟨hb3, hi3⟩ := hp
          obtain ⟨e1, e2, e3⟩ := fin (some (.exit id)) W3 hb3
          exact ⟨_, _, e1, .inr ⟨rfl, ⟨.exit id, hIx _ _ _ _ hi3 (put2 W3 _ _ (l3f W3 hb3) hyg2), e2, e3⟩, b2.trans ((hb3.more fun _ h => .inl h).trans (ButT.putObj _ _ _ (.inr rfl)))⟩⟩
        | goto t =>
          obtain ⟨hb3, hi3⟩ := hp
          obtain ⟨e1, e2, e3⟩ := fin (some (.goto t)) W3 hb3
          exact ⟨_, _, e1, .inr ⟨rfl, ⟨.goto t, hIx _ _ _ _ hi3 (put2 W3 _ _ (l3f W3 hb3) hyg2), e2, e3⟩, b2.trans ((hb3.more fun _ h => .inl h).trans (ButT.putObj _ _ _ (.inr rfl)))⟩⟩
        | panic ch => exact hp.elim
        | outgrown => exact hp.elim
      refine ⟨fn, _, assign, body, by rw [hy, hrc], ⟨hr.1, fun c cs _ => hr.2 c cs (fun d h => by cases h)⟩⟩
    · rintro e W2 ⟨⟨v, rfl⟩, (⟨xs, hS, hi, hl, hk⟩ | ⟨pre, hSp, c, hi, hl, hk⟩)⟩
      · rw [hBk] at hk
        refine ⟨none, _, by have := run_endLoop (P := P) hl (by rw [hrc]; simp); rw [hrc] at this; exact this, ?_⟩
        exact hdone D xs _ hD hS (hI _ _ _ hi (put2 W2 _ _ hl hk.2)) ((World.putObj_heap_other (by omega)).trans hk.1)
      · rw [hBk] at hk
        refine ⟨some c, _, by have := run_endLoop (P := P) hl (by rw [hrc]; simp); rw [hrc] at this; exact this, ?_⟩
        exact hstop D c pre _ hD hSp (hIx c _ _ _ hi (put2 W2 _ _ hl hk.2)) ((World.putObj_heap_other (by omega)).trans hk.1)
end Go.Proofs.YtnkehfhedjdhaaaDoor

/-! Maker -/
namespace Go.Proofs.YtnkehfhedjdhaaaDoor
open Go.Sort Go.RowKit

/-- No way but the normal one. -/
def Bot : Exit → Act → World → Prop := fun _ _ _ => False
def pureOpB : Op → Bool
  | .move _ | .load _ _ | .fieldAddr _ _ _ | .indexAddr _ _ _ => true
  | _ => false
theorem value_only (P : Program) (s : Sem Value) (w w' : World) (x : Next) (h : (do pure (Next.value (← s)) : Sem Next).run P w = .ok x w') : ∃ u, x = .value u := by
  rw [Sem.run_bind] at h
  cases hs : s.run P w with
  | ok v w1 =>
    rw [hs] at h
    simp only [Result.andThen, Sem.run_pure, Result.ok.injEq] at h
    exact ⟨v, h.1.symm⟩
  | halt y w1 => rw [hs] at h; simp [Result.andThen] at h
theorem pure_value (P : Program) (o : Oper) (a : Act) (w w' : World) (x : Next) (hp : pureOpB o.op = true) (h : (execOp a.eval o).run P w = .ok x w') : ∃ u, x = .value u := by
  unfold execOp at h
  revert hp h
  cases o.op <;> intro hp h <;> first
    | (simp [pureOpB] at hp; done)
    | exact value_only _ _ _ _ _ h
    | (simp only [Sem.run_pure, Result.ok.injEq] at h; exact ⟨_, h.1.symm⟩)
theorem pure_upon {P : Program} {C : World → Prop} {o : Oper} (hp : pureOpB o.op = true) {a : Act} {w : World} {v : Value} (h : o.quietAt P a C w v) : (execOp a.eval o).run P w = .ok (.value v) w := by
  have hv := fun x w' => pure_value P o a w w' x hp
  unfold Oper.quietAt at h
  generalize (execOp a.eval o).run P w = r at *
  cases r with
  | ok x w' =>
    obtain ⟨u, rfl⟩ := hv _ _ rfl
    simp only [Oper.quietUpon] at h
    obtain ⟨rfl, rfl⟩ := h; rfl
  | halt x w' => simp only [Oper.quietUpon] at h

section
variable {F : Fence} {n : Nat} {P : Program} {ops : Array Oper} {md : Region.Mode} {C : World → Prop} {Q : Exit → Act → World → Prop}

theorem oper_bot {o : Oper} {a : Act} {w : World} {K K' K1 : Act → World → Prop} (h : ∀ a w, K a w → K' a w) (hh : o.wpIn F n P a w K (Exit.then K1 Bot)) : o.wpIn F n P a w K' Q := by
  unfold Oper.wpIn at *
  refine ⟨hh.1, ?_⟩
  have hh := hh.2
  generalize (o.semAt F.round a.eval).run P w = r at *
  cases r with
  | ok x w' =>
    cases x <;> simp only [Oper.uponIn] at hh ⊢ <;>
      first
        | exact h _ _ hh
        | exact ⟨hh.1, RowsIn.mono hh.2 (fun _ _ he => h _ _ he)⟩
        | exact ⟨hh.1, CallsIn.mono hh.2 (fun e w'' he => by cases e <;> first | exact h _ _ he | exact False.elim he | (obtain ⟨_, _, he⟩ := he; exact False.elim he))⟩
        | exact ⟨hh.1, RoundIn.mono hh.2 (fun e w'' he => by cases e <;> first | exact h _ _ he | exact False.elim he | (obtain ⟨_, _, he⟩ := he; exact False.elim he))⟩
  | halt x w' => cases x <;> simp only [Oper.uponIn] at hh ⊢ <;> first | exact hh | exact False.elim hh

def wpAnyC (F : Fence) (n : Nat) (P : Program) (md : Region.Mode) (ops : Array Oper) (C : World → Prop) (K : Act → World → Prop) (q : Nat) : Nat → Array Bool → Act → World → Prop
  | 0, listed, a, w => Region.ready md ops listed = [] ∧ K a w
  | fuel + 1, listed, a, w =>
    (Region.ready md ops listed = [] → K a w) ∧
    ∀ i ∈ Region.ready md ops listed, wpOpIn F n P ops (Exit.then K Bot) i (fun a' w' => (i < q → C w') ∧ wpAnyC F n P md ops C K q fuel (listed.setIfInBounds i true) a' w') a w

theorem wpAnyC_any {K : Act → World → Prop} {q : Nat} : ∀ (fuel : Nat) (listed : Array Bool) (a : Act) (w : World), wpAnyC F n P md ops C K q fuel listed a w → wpAnyIn F n P md ops (Exit.then K Bot) fuel listed a w
  | 0, _, _, _, h => h
  | fuel + 1, _, _, _, h => ⟨h.1, fun i hi => wpOpIn_mono (fun a' w' h' => wpAnyC_any fuel _ a' w' h'.2) (h.2 i hi)⟩

/-- In every world of the class the operation yields v and nothing else happens. -/
def PureAt (P : Program) (ops : Array Oper) (C : World → Prop) (o : Oper) (v : Value) (a : Act) : Prop :=
  (Region.wanted o (yielded ops a.tmps) = true ∧ ∀ w, C w → (execOp a.eval o).run P w = .ok (.value v) w) ∨ (Region.wanted o (yielded ops a.tmps) = false ∧ v = undef)
theorem PureAt.of_same {o : Oper} {v : Value} {a a' : Act} (hy : PureAt P ops C o v a) (he : execOp a'.eval o = execOp a.eval o)
    (hw : Region.wanted o (yielded ops a'.tmps) = Region.wanted o (yielded ops a.tmps)) : PureAt P ops C o v a' := by
  unfold PureAt at *
  rw [he, hw]; exact hy
theorem PureAt.step {i : Nat} {o : Oper} {v : Value} {a : Act} {w : World} {K : Act → World → Prop} (hF : IsWide F) (hd : noDeferB ops = true) (hi : ops[i]? = some o) (hC : C w) (hy : PureAt P ops C o v a) (h : K (a.put o.dst v) w) : wpOpIn F n P ops Q i K a w := by
  unfold Go.wpOpIn
  simp only [hi]
  rcases hy with ⟨hw, hv⟩ | ⟨hw, rfl⟩
  · simp only [hw, if_true, Oper.wpIn, semAt_any (noDefer_at hd hi), hv w hC, Oper.uponIn]; exact ⟨fun f _ => hF.fn f, h⟩
  · simp only [hw, Bool.false_eq_true, if_false]; exact ⟨fun f _ => hF.fn f, h⟩

theorem op_putC {j : Nat} {oi oj : Oper} {v : Value} {K0 : Act → World → Prop} (hF : IsWide F) (hd : noDeferB ops = true) (hj : ops[j]? = some oj) (hap : oi.apart ops oj = true)
    (hsi : ∀ cs b, oi.op ≠ .select cs b) (hsj : ∀ cs b, oj.op ≠ .select cs b) {K : Act → World → Prop} {a : Act} {w : World}
    (hy : PureAt P ops C oi v a) (h : wpOpIn F n P ops (Exit.then K0 Bot) j K (a.put oi.dst v) w) :
    wpOpIn F n P ops (Exit.then K0 Bot) j (fun a' w' => PureAt P ops C oi v a' ∧ K (a'.put oi.dst v) w') a w := by
  obtain ⟨h1, h2, h3⟩ := Oper.apart_spec hap
  have keep : ∀ (a : Act), PureAt P ops C oi v a → ∀ u, PureAt P ops C oi v (a.put oj.dst u) := fun a hy u =>
    hy.of_same (execOp_put oi hsi a oj.dst u h3) (wanted_put oi a oj.dst u h3)
  have keepD : ∀ d, PureAt P ops C oi v { a with defers := d :: a.defers } := fun d => hy.of_same rfl rfl
  have hnd := noDefer_at hd hj
  unfold wpOpIn at *
  simp only [hj] at h ⊢
  rw [wanted_put oj a oi.dst v h1] at h
  split
  · rename_i hw
    simp only [hw, if_true] at h
    unfold Oper.wpIn at *
    refine ⟨fun f _ => hF.fn f, ?_⟩
    have h := h.2
    rw [semAt_any hnd, execOp_put oj hsj a oi.dst v h1] at h
    rw [semAt_any hnd]
    generalize (execOp a.eval oj).run P w = r at *
    cases r with
    | ok x w' =>
      cases x <;> simp only [Oper.uponIn] at h ⊢
      case value u => exact ⟨keep a hy u, by rw [← Act.put_comm a v u h2]; exact h⟩
      case skip => exact ⟨keep a hy _, by rw [← Act.put_comm a v undef h2]; exact h⟩
      case defer d =>
        refine ⟨keep _ (keepD d) _, ?_⟩
        rw [← Act.put_comm _ v undef h2, ← Act.put_defers]
        exact h
      case enter f args =>
        refine ⟨h.1, CallsIn.mono h.2 fun e w'' he => ?_⟩
        cases e with
        | returned u => exact ⟨keep a hy u, by rw [← Act.put_comm a v u h2]; exact he⟩
        | panicked c => exact False.elim he
        | outgrown => obtain ⟨_, _, he⟩ := he; exact False.elim he
      case row row args => exact ⟨h.1, RowsIn.mono h.2 fun u w'' he => ⟨keep a hy u, by rw [← Act.put_comm a v u h2]; exact he⟩⟩
      case round l f tmps assign body =>
        refine ⟨h.1, RoundIn.mono h.2 fun e w'' he => ?_⟩
        cases e with
        | returned u => exact ⟨keep a hy u, by rw [← Act.put_comm a v u h2]; exact he⟩
        | panicked c => exact False.elim he
        | outgrown => obtain ⟨_, _, he⟩ := he; exact False.elim he
    | halt x w' =>
      cases x <;> simp only [Oper.uponIn] at h ⊢
      case panic u => exact False.elim h
  · rename_i hw
    simp only [hw] at h
    exact ⟨fun f _ => hF.fn f, keep a hy _, by rw [← Act.put_comm a v undef h2]; exact h.2⟩

theorem firstC {i q : Nat} {oi : Oper} {v : Value} {K0 : Act → World → Prop} (hF : IsWide F) (hd : noDeferB ops = true) (hi : ops[i]? = some oi) (hsel : ∀ (j : Nat) (o : Oper) cs b, ops[j]? = some o → o.op ≠ .select cs b)
    (hs : Region.sinkB md ops q = true) (hc : Region.chainB md ops q = true) (hn : q < ops.size) (hin : i < q) :
    ∀ (fuel : Nat) (listed : Array Bool) (a : Act) (w : World), HeadInv md ops q listed →
      (∀ j oj, ops[j]? = some oj → j ≠ i → listed.getD j true = false → (∀ e ∈ oj.after, Region.binds md e = true → e.on ≠ i) → oi.apart ops oj = true) →
      i ∈ Region.ready md ops listed → PureAt P ops C oi v a → C w →
      wpAnyC F n P md ops C K0 q fuel (listed.setIfInBounds i true) (a.put oi.dst v) w → wpAnyC F n P md ops C K0 q (fuel + 1) listed a w := by
  intro fuel
  induction fuel with
  | zero =>
    intro listed a w inv _ hr hy hC H
    have hun := (mem_ready.1 hr).1
    refine ⟨fun h => (by rw [h] at hr; cases hr), fun j hj => ?_⟩
    by_cases hji : j = i
    · subst hji; exact hy.step hF hd hi hC ⟨fun _ => hC, H⟩
    · have := ready_mono hj hji
      rw [H.1] at this
      cases this
  | succ fuel ih =>
    intro listed a w inv hfree hr hy hC H
    have hun := (mem_ready.1 hr).1
    refine ⟨fun h => (by rw [h] at hr; cases hr), fun j hj => ?_⟩
    have hjn : j < q := by
      rcases Nat.lt_or_ge j q with h | h
      · exact h
      · exact absurd hj (tail_waits hs hc hn inv _ i rfl hin hun j h)
    by_cases hji : j = i
    · subst hji; exact hy.step hF hd hi hC ⟨fun _ => hC, H⟩
    · have h1 := H.2 j (ready_mono hj hji)
      obtain ⟨hjun, oj, hoj, hall⟩ := mem_ready.1 hj
      have hnot : ∀ e ∈ oj.after, Region.binds md e = true → e.on ≠ i := fun e he hb heq => by
        have h1 := hall e he hb
        rw [heq, getD_both hun] at h1
        cases h1
      have h2 := op_putC hF hd hoj (hfree j oj hoj hji hjun hnot) (fun cs b => hsel i oi cs b hi) (fun cs b => hsel j oj cs b hoj) hy h1
      have hfree' : ∀ k ok, ops[k]? = some ok → k ≠ i → (listed.setIfInBounds j true).getD k true = false →
          (∀ e ∈ ok.after, Region.binds md e = true → e.on ≠ i) → oi.apart ops ok = true := fun k ok hk hki hun hno => by
        refine hfree k ok hk hki ?_ hno
        by_cases hjk : j = k
        · subst hjk; exact hjun
        · rw [getD_set_ne true hjk] at hun; exact hun
      refine wpOpIn_mono (fun a' w' h3 => ⟨h3.2.1, ih (listed.setIfInBounds j true) a' w' (inv.set hj hjn) hfree' (ready_mono hr (Ne.symm hji)) h3.1 (h3.2.1 hjn) ?_⟩) h2
      rw [Array.setIfInBounds_comm _ _ hji]
      exact h3.2.2

theorem lexC {m q g : Nat} {K0 : Act → World → Prop} {Lq : Act → Prop} (hF : IsWide F) (hd : noDeferB ops = true) (hsel : Region.noSelect ops = true) (hs : Region.sinkB md ops q = true) (hc : Region.chainB md ops q = true) (hn : q < ops.size) (hmq : m ≤ q)
    (hT : ∀ listed a w, C w → Region.seqB md ops g m listed = true → Lq a → wpAnyC F n P md ops C K0 q g listed a w) :
    ∀ (l : List Oper) (k : Nat) (listed : Array Bool) (a : Act) (w : World), (∀ j, j < l.length → l[j]? = ops[k + j]?) → k + l.length = m → HeadInv md ops q listed →
    Region.lexHead md ops g l.length k listed = true → (l.all fun o => pureOpB o.op) = true → C w → wpQuiet P ops C Lq l a → wpAnyC F n P md ops C K0 q (l.length + g) listed a w
  | [], k, listed, a, w, _, hk, _, hB, _, hC, h => by
    have : k = m := by simpa using hk
    subst this
    rw [List.length_nil, Nat.zero_add]
    exact hT listed a w hC (by simpa [Region.lexHead] using hB) h
  | o :: l, k, listed, a, w, hl, hk, inv, hB, hp, hC, h => by
    have h0 : ops[k]? = some o := by simpa using (hl 0 (by simp)).symm
    simp only [List.length_cons, Region.lexHead, Bool.and_eq_true] at hB
    obtain ⟨⟨hr, hf⟩, hB'⟩ := hB
    simp only [List.all_cons, Bool.and_eq_true] at hp
    have hkn : k < m := by simp only [List.length_cons] at hk; omega
    have hr' : k ∈ Region.ready md ops listed := by simpa using hr
    have hy : ∃ v, PureAt P ops C o v a ∧ wpQuiet P ops C Lq l (a.put o.dst v) := by
      unfold wpQuiet at h
      cases hw : Region.wanted o (yielded ops a.tmps)
      · rw [hw] at h
        exact ⟨undef, .inr ⟨hw, rfl⟩, by simpa using h⟩
      · rw [hw] at h
        simp only [if_true] at h
        obtain ⟨v, hv, hK⟩ := h
        exact ⟨v, .inl ⟨hw, fun w' hw' => pure_upon hp.1 (hv w' hw')⟩, hK⟩
    obtain ⟨v, hy, hK⟩ := hy
    rw [List.length_cons, show l.length + 1 + g = (l.length + g) + 1 by omega]
    exact firstC hF hd h0 (Region.noSelect_spec hsel) hs hc hn (by omega) _ listed a w inv (Region.free_spec h0 hf) hr' hy hC
      (lexC hF hd hsel hs hc hn hmq hT l (k + 1) _ _ w (fun j hj => by have := hl (j + 1) (by simp; omega); simpa [Nat.add_assoc, Nat.add_comm 1 j] using this) (by simp only [List.length_cons] at hk; omega) (inv.set hr' (by omega)) hB' hp.2 hC hK)

theorem seqC {q : Nat} {K0 : Act → World → Prop} : ∀ (l : List Oper) (k : Nat) (listed : Array Bool) (a : Act) (w : World), q ≤ k → (∀ j, l[j]? = ops[k + j]?) →
    Region.seqB md ops l.length k listed = true → wpListIn F n P ops (Exit.then K0 Bot) l a w → wpAnyC F n P md ops C K0 q l.length listed a w
  | [], _, _, _, _, _, _, hB, h => ⟨by simpa [Region.seqB] using hB, h⟩
  | o :: l, k, listed, a, w, hq, hl, hB, h => by
    have h0 : ops[k]? = some o := by simpa using (hl 0).symm
    simp only [List.length_cons, Region.seqB, Bool.and_eq_true, decide_eq_true_eq] at hB
    refine ⟨fun h1 => (by rw [hB.1] at h1; cases h1), fun i hi => ?_⟩
    rw [hB.1] at hi
    have hik : i = k := by simpa using hi
    subst hik
    have hw : wpOpIn F n P ops (Exit.then K0 Bot) i (wpListIn F n P ops (Exit.then K0 Bot) l) a w := by unfold wpOpIn; simp only [h0]; exact h
    exact wpOpIn_mono (fun a' w' h' => ⟨fun h1 => by omega, seqC l (i + 1) _ a' w' (by omega) (fun j => by have := hl (j + 1); simpa [Nat.add_assoc, Nat.add_comm 1 j] using this) hB.2 h'⟩) hw

/-- One operation that is ready alone, behind which the class still holds. -/
theorem oneC {q g : Nat} {K0 K1 : Act → World → Prop} {o : Oper} {k : Nat} {listed : Array Bool} {a : Act} {w : World} (h0 : ops[k]? = some o)
    (hB : Region.seqB md ops (g + 1) k listed = true) (h : wpListIn F n P ops (Exit.then K1 Bot) [o] a w)
    (hK : ∀ listed' a' w', Region.seqB md ops g (k + 1) listed' = true → K1 a' w' → C w' ∧ wpAnyC F n P md ops C K0 q g listed' a' w') : wpAnyC F n P md ops C K0 q (g + 1) listed a w := by
  simp only [Region.seqB, Bool.and_eq_true, decide_eq_true_eq] at hB
  refine ⟨fun h1 => (by rw [hB.1] at h1; cases h1), fun i hi => ?_⟩
  rw [hB.1] at hi
  have hik : i = k := by simpa using hi
  subst hik
  unfold wpOpIn
  simp only [h0]
  unfold wpListIn at h
  split
  · rename_i hw
    rw [if_pos hw] at h
    exact oper_bot (fun a' w' h' => by
      obtain ⟨h1, h2⟩ := hK _ a' w' hB.2 h'
      exact ⟨fun _ => h1, h2⟩) h
  · rename_i hw
    rw [if_neg hw] at h
    refine ⟨h.1, ?_⟩
    obtain ⟨h1, h2⟩ := hK _ _ w hB.2 h.2
    exact ⟨fun _ => h1, h2⟩

def makeB (md : Region.Mode) (ops : Array Oper) (m : Nat) : Bool :=
  Region.noSelect ops && decide (m + 2 < ops.size) && Region.sinkB md ops (m + 2) && Region.chainB md ops (m + 2) && Region.lexHead md ops (ops.size - m) m 0 (Array.replicate ops.size false) && ((ops.toList.take m).all fun o => pureOpB o.op)

/-- **m operations that only look, a call, a maker, a tail in sequence.** -/
theorem region_make_in {id : Nat} {a : Act} {w : World} {l : List Oper} (m : Nat) (hF : IsWide F) (hd : noDeferB l.toArray = true) (hm : P.follows .mixedOrders = true) (hB : makeB .any l.toArray m = true)
    (h : wpQuiet P l.toArray (fun w' => ∃ p : Regrown, w' = grow (redrawn w p.d) p.os) (fun a' => ∀ w', (∃ p : Regrown, w' = grow (redrawn w p.d) p.os) →
      wpListIn F n P l.toArray (Exit.then (fun a1 w1 => Below w.heap.size w w1 ∧ wpListIn F n P l.toArray (Exit.then (fun a2 w2 => Below w.heap.size w w2 ∧ wpListIn F n P l.toArray (Exit.then (Q .normal) Bot) (l.drop (m + 2)) a2 w2) Bot) ((l.drop (m + 1)).take 1) a1 w1) Bot) ((l.drop m).take 1) a' w') (l.take m) a) :
    (Code.region id l.toArray true).wpIn F n P Q a w := by
  simp only [makeB, Bool.and_eq_true, decide_eq_true_eq] at hB
  obtain ⟨⟨⟨⟨⟨hsel, hn⟩, hs⟩, hc⟩, hlex⟩, hpu⟩ := hB
  have hn' : m + 2 < l.length := by simpa using hn
  have htl : (l.take m).length = m := by simp; omega
  have inv0 : HeadInv .any l.toArray (m + 2) (Array.replicate l.toArray.size false) :=
    ⟨by simp, fun j oj _ hl => (by rw [getD_replicate_false] at hl; cases hl), fun t _ ht => getD_in (by simpa using ht) (getD_replicate_false _ _)⟩
  have hC : ∃ p : Regrown, ({ w with drawn := w.drawn + 1 } : World) = grow (redrawn w p.d) p.os := ⟨⟨w.drawn + 1, #[]⟩, by rw [grow_empty]; rfl⟩
  obtain ⟨g, hg⟩ : ∃ g, l.toArray.size - m = g + 1 + 1 := ⟨l.toArray.size - m - 2, by simp; omega⟩
  have e0 : (l.drop m).take 1 = [l[m]'(by omega)] := by rw [List.drop_eq_getElem_cons (by omega)]; rfl
  have e1 : (l.drop (m + 1)).take 1 = [l[m + 1]'(by omega)] := by rw [List.drop_eq_getElem_cons (by omega)]; rfl
  have hdl : (l.drop (m + 2)).length = g := by simp at hg ⊢; omega
  have H := lexC (md := .any) (P := P) (F := F) (n := n) (C := fun w' => ∃ p : Regrown, w' = grow (redrawn w p.d) p.os) (K0 := Q .normal) (m := m) (q := m + 2) (g := l.toArray.size - m) hF hd hsel hs hc hn (by omega)
    (fun listed a' w' hC' hseq hL => by
      rw [hg] at hseq ⊢
      have h1 := hL w' hC'
      rw [e0] at h1
      refine oneC (k := m) (by simp) hseq h1 fun listed1 a1 w1 hseq1 ⟨hb1, h2⟩ => ⟨regrown_of_below hb1, ?_⟩
      rw [e1] at h2
      refine oneC (k := m + 1) (by simp) hseq1 h2 fun listed2 a2 w2 hseq2 ⟨hb2, h3⟩ => ⟨regrown_of_below hb2, ?_⟩
      have := seqC (md := .any) (C := fun w' => ∃ p : Regrown, w' = grow (redrawn w p.d) p.os) (q := m + 2) (l.drop (m + 2)) (m + 2) listed2 a2 w2 (Nat.le_refl _) (fun j => by simp [List.getElem?_drop]) (by rw [hdl]; exact hseq2) h3
      rwa [hdl] at this)
    (l.take m) 0 _ a _ (fun j hj => by
      have hj' : j < m := by rw [htl] at hj; exact hj
      simp [hj']) (by simpa using htl) inv0 (by rw [htl]; exact hlex) (by simpa using hpu) hC h
  rw [htl, show m + (l.toArray.size - m) = l.toArray.size by simp at hn ⊢; omega] at H
  refine Go.wpIn_mono (wpIn_region_any hm (wpAnyC_any _ _ _ _ H)) ?_
  intro e a' w' h'
  cases e <;> first | exact h' | exact False.elim h'
end
end Go.Proofs.YtnkehfhedjdhaaaDoor

/-! Lev9 -/
namespace Go.Proofs.YtnkehfhedjdhaaaDoor
open Go.RowKit

/-- What a beginning with u pieces becomes with the number k, left cells being left behind it. -/
def ext1 (K left : Nat) (s : List Nat × Nat) (k : Nat) : List (List Nat × Nat) := if K ≤ max s.2 (k + 1) + left then [(s.1 ++ [k], max s.2 (k + 1))] else []
def extT (K left : Nat) (s : List Nat × Nat) (t : Nat) : List (List Nat × Nat) := (List.range t).flatMap (ext1 K left s)
theorem extT_zero (K left : Nat) (s : List Nat × Nat) : extT K left s 0 = [] := rfl
theorem extT_succ (K left : Nat) (s : List Nat × Nat) (t : Nat) : extT K left s (t + 1) = extT K left s t ++ ext1 K left s t := by
  unfold extT; rw [List.range_succ, List.flatMap_append]; simp
def extA (K left : Nat) (s : List Nat × Nat) : List (List Nat × Nat) := extT K left s (min (s.2 + 1) K)
def levT (K left : Nat) (S : List (List Nat × Nat)) (t : Nat) : List (List Nat × Nat) := (S.take t).flatMap (extA K left)
theorem levT_zero (K left : Nat) (S : List (List Nat × Nat)) : levT K left S 0 = [] := rfl
theorem levT_succ (K left : Nat) {S : List (List Nat × Nat)} {t : Nat} (h : t < S.length) : levT K left S (t + 1) = levT K left S t ++ extA K left S[t] := by
  unfold levT; rw [take_snoc h, List.flatMap_append]; simp
def levA (K left : Nat) (S : List (List Nat × Nat)) : List (List Nat × Nat) := S.flatMap (extA K left)
theorem levT_all (K left : Nat) (S : List (List Nat × Nat)) : levT K left S S.length = levA K left S := by unfold levT levA; rw [List.take_length]
def levN (K n : Nat) : Nat → List (List Nat × Nat)
  | 0 => [([], 0)]
  | i + 1 => levA K (n - 1 - i) (levN K n i)
theorem numsD_none {K left bg : Nat} (h : bg + left < K) : numsD K left bg = [] := by
  cases left with
  | zero => simp only [numsD]; rw [if_pos (by omega)]
  | succ n => simp only [numsD]; rw [if_pos h]
theorem ext1_nums (K left : Nat) (s : List Nat × Nat) (k : Nat) : (ext1 K left s k).flatMap (fun s' => (numsD K left s'.2).map (s'.1 ++ ·)) = ((numsD K left (max s.2 (k + 1))).map (k :: ·)).map (s.1 ++ ·) := by
  unfold ext1
  split
  · simp
  · rename_i h
    rw [numsD_none (by omega)]; rfl
theorem extA_nums (K left : Nat) (s : List Nat × Nat) : (extA K left s).flatMap (fun s' => (numsD K left s'.2).map (s'.1 ++ ·)) = (numsD K (left + 1) s.2).map (s.1 ++ ·) := by
  unfold extA extT
  rw [List.flatMap_assoc]
  simp only [ext1_nums, numsD]
  split
  · rename_i h
    rw [List.map_nil, List.flatMap_eq_nil_iff]
    intro k hk
    have hk' : k < min (s.2 + 1) K := by simpa using hk
    rw [numsD_none (by omega)]; rfl
  · rw [List.map_flatMap]
theorem lev_nums {K n : Nat} : ∀ i, i ≤ n → numsD K n 0 = (levN K n i).flatMap (fun s => (numsD K (n - i) s.2).map (s.1 ++ ·))
  | 0, _ => by simp [levN]
  | i + 1, h => by
    rw [lev_nums i (by omega)]
    simp only [levN, levA]
    rw [List.flatMap_assoc]
    congr 1
    funext s
    rw [show n - (i + 1) = n - 1 - i by omega, extA_nums, show n - 1 - i + 1 = n - i by omega]
theorem lev_mem {K n : Nat} : ∀ (i : Nat) (s : List Nat × Nat), i ≤ n → s ∈ levN K n i → s.1.length = i ∧ s.2 ≤ i ∧ (1 ≤ i → K ≤ s.2 + (n - i))
  | 0, s, _, h => by simp [levN] at h; subst h; exact ⟨rfl, Nat.le_refl _, by omega⟩
  | i + 1, s, hi, h => by
    simp only [levN, levA] at h
    obtain ⟨s', h1, h2⟩ := List.mem_flatMap.1 h
    obtain ⟨k, h3, h4⟩ := List.mem_flatMap.1 h2
    obtain ⟨h5, h6, _⟩ := lev_mem i s' (by omega) h1
    have hk : k < min (s'.2 + 1) K := by simpa using h3
    unfold ext1 at h4
    split at h4
    · simp only [List.mem_singleton] at h4
      subst h4
      refine ⟨by simp [h5], by simp only; omega, fun _ => by simp only; omega⟩
    · cases h4
theorem lev_fst {K n : Nat} (h1 : 1 ≤ n) : (levN K n n).map (·.1) = numsD K n 0 := by
  rw [lev_nums n (Nat.le_refl _), Nat.sub_self]
  have : ∀ s ∈ levN K n n, (numsD K 0 s.2).map (s.1 ++ ·) = [s.1] := fun s hs => by
    have := (lev_mem n s (Nat.le_refl _) hs).2.2 h1
    simp only [numsD]
    rw [if_neg (by omega)]; simp
  generalize levN K n n = S at this
  induction S with
  | nil => rfl
  | cons s S ih =>
    rw [List.map_cons, List.flatMap_cons, this s (by simp), ← ih (fun s hs => this s (List.mem_cons_of_mem _ hs))]; rfl
def facN : Nat → Nat
  | 0 => 1
  | n + 1 => (n + 1) * facN n
theorem extT_len (K left : Nat) (s : List Nat × Nat) : ∀ t, (extT K left s t).length ≤ t
  | 0 => Nat.le_refl _
  | t + 1 => by
    rw [extT_succ, List.length_append]
    have := extT_len K left s t
    have : (ext1 K left s t).length ≤ 1 := by unfold ext1; split <;> simp
    omega
theorem levT_len {K left i : Nat} {S : List (List Nat × Nat)} (h : ∀ s ∈ S, s.2 ≤ i) : ∀ t, t ≤ S.length → (levT K left S t).length ≤ (i + 1) * t
  | 0, _ => Nat.zero_le _
  | t + 1, ht => by
    have hlt : t < S.length := by omega
    rw [levT_succ _ _ hlt, List.length_append]
    have h1 := levT_len (K := K) (left := left) h t (by omega)
    have h2 := extT_len K left S[t] (min ((S[t]).2 + 1) K)
    have h3 := h _ (List.getElem_mem hlt)
    unfold extA
    rw [Nat.mul_succ]
    omega
theorem levN_len {K n : Nat} : ∀ i, i ≤ n → (levN K n i).length ≤ facN i
  | 0, _ => by simp [levN, facN]
  | i + 1, hi => by
    have h1 := levN_len (K := K) (n := n) i (by omega)
    have h2 := levT_len (K := K) (left := n - 1 - i) (i := i) (fun s hs => (lev_mem i s (by omega) hs).2.1) _ (Nat.le_refl (levN K n i).length)
    rw [levT_all] at h2
    simp only [levN, facN]
    exact Nat.le_trans h2 (Nat.mul_le_mul_left _ h1)
theorem facN_le {i : Nat} (h : i ≤ 9) : facN i ≤ 362880 := by
  rcases (show i = 0 ∨ i = 1 ∨ i = 2 ∨ i = 3 ∨ i = 4 ∨ i = 5 ∨ i = 6 ∨ i = 7 ∨ i = 8 ∨ i = 9 by omega) with rfl | rfl | rfl | rfl | rfl | rfl | rfl | rfl | rfl | rfl <;> decide
theorem numsD_len {K n : Nat} (h1 : 1 ≤ n) (h9 : n ≤ 9) : (numsD K n 0).length ≤ 362880 := by
  rw [← lev_fst h1, List.length_map]
  exact Nat.le_trans (levN_len n (Nat.le_refl _)) (facN_le h9)
end Go.Proofs.YtnkehfhedjdhaaaDoor

/-! Nums9 -/
namespace Go.Proofs.YtnkehfhedjdhaaaDoor
open Go.RowKit Go.Sort

theorem ints_one9 (M : List Int) : ∀ u ∈ ints M, u.oneCell' = true := by
  intro u hu
  obtain ⟨x, _, rfl⟩ := List.mem_map.1 hu
  rfl
theorem intsA_news9 {w : World} {g : Nat} {M : List Int} (h : IntsA w (some ⟨g, 0, none⟩) M) : ∀ j u, (ints M)[j]? = some u → w.cell? (Addr.add ⟨g, 0, none⟩ j) = some u := by
  intro j u hu
  have hj : j < M.length := by
    rcases Nat.lt_or_ge j M.length with h1 | h1
    · exact h1
    · rw [List.getElem?_eq_none (by rw [ints_len]; exact h1)] at hu; cases hu
  obtain ⟨g', e, hc⟩ := h j hj
  cases e
  have e1 : (ints M)[j]? = some (.int .i64 M[j]) := by simp [ints, hj]
  rw [e1] at hu
  cases hu
  by_cases h0 : j = 0
  · subst h0; simpa [Addr.add] using hc
  · simpa [Addr.add, h0] using hc
set_option maxRecDepth 100000 in
set_option maxHeartbeats 1000000 in
theorem cloneI_any (A : Option Addr) (c : Nat) (M : List Int) (w : World) (hA : IntsA w A M) (h1 : 1 ≤ M.length) (h2 : M.length ≤ 1048576) :
    Calls Tryd.prog 92 #[.slice A M.length c] w (ListsI w M) := by
  obtain ⟨i0, hi0, hz0, hz1, hz2⟩ := info_parts infoI
  obtain ⟨g, rfl, -⟩ := hA 0 h1
  have HU : Hid (ListsI w M = fun e w' => ∃ v, e = .returned v ∧ w'.ownsRow w.heap.size 3 1 v M.length (ints M) ∧ Below w.heap.size w w') := rfl
  have hn := Lib.run_eql_slice_nil (P := Tryd.prog)
  have own0 := World.ownsRow_lit (base := w.heap.size) (e := 3) (size := 1) w #[] 0 (Nat.le_refl _) (by unfold maxLen; omega) (by rfl)
  have hb0 := below1 w (.cells #[] 3)
  have HN := Lib.hid (intsA_news9 (intsA_on hA hb0))
  have hlen : (ints M).length = M.length * 1 := by rw [ints_len, Nat.mul_one]
  clear hA
  go_enter Tryd.func92, Tryd.ntmps92
  go_wp2_with (at_builtin; refine wpList_append_own _ rfl _ _ 27 rfl w.heap.size 3 i0 (.int .i64 0) 1 8 Tryd.underlying27 hi0 hz0 hz1 hz2 rfl (by decide) _ _ _ rfl own0 ⟨g, 0, none⟩ M.length c (ints M) rfl hlen HN.out (ints_one9 M) ?d3 ?d4 (by simp) ?_)
  case d3 => unfold maxLen; omega
  case d4 => omega
  intro v' w6 own6 hgrow _
  have R : Hid (w6.ownsRow w.heap.size 3 1 v' M.length (ints M) ∧ Below w.heap.size w w6) :=
    ⟨by simpa using own6, hb0.grown hgrow (by simp) (fun k hk => (own0.lt k hk).1)⟩
  clear own0 own6 hgrow hb0 hlen
  go_wp2_with fail
  go_ret
  rw [HU.out]
  exact ⟨_, rfl, R.out.1, R.out.2⟩

/-! ### What the iterator has in memory -/
def ptr0 (b : Nat) : Value := .pointer (some ⟨b, 0, none⟩)
/-- Blocks: bc, bp: the numbers of cells and of pieces; y: yield; l: the list; f: fill; u: put. -/
structure Bl where
  bc : Nat
  bp : Nat
  y : Nat
  l : Nat
  f : Nat
  u : Nat
def fillV (b : Bl) : Value := .func (.func 91) #[] #[.pointer (some ⟨b.bc, 0, none⟩), .pointer (some ⟨b.l, 0, none⟩), .pointer (some ⟨b.bp, 0, none⟩), .pointer (some ⟨b.y, 0, none⟩), .pointer (some ⟨b.u, 0, none⟩)]
def putV (b : Bl) : Value := .func (.func 90) #[] #[.pointer (some ⟨b.l, 0, none⟩), .pointer (some ⟨b.f, 0, none⟩)]
structure BlOk (b : Bl) (B : Nat) : Prop where
  c : b.bc < B
  p : b.bp < B
  y : B ≤ b.y
  l : b.y < b.l
  f : b.l < b.f
  u : b.f < b.u
structure St (b : Bl) (lp B n : Nat) (K : Int) (c : List Nat) (pre : List Rw) (W : World) : Prop where
  c0 : Boxed W b.bc 3 (.int .i64 n)
  p0 : Boxed W b.bp 3 (.int .i64 K)
  y0 : Boxed W b.y 65 (.func (.yield lp) #[] #[])
  f0 : Boxed W b.f 64 (fillV b)
  u0 : Boxed W b.u 102 (putV b)
  ls : ∃ v, Boxed W b.l 27 v ∧ W.ownsRow B 3 1 v c.length (ints (castL c)) ∧ ∀ x ∈ pre, v.ownBlock ≠ some x.g
  gs : ∀ x ∈ pre, b.u < x.g ∧ x.g < W.heap.size
theorem boxed_as {W W' : World} {B : Nat} {t : TypeId} {v : Value} (h : Boxed W B t v) (hb : W'.heap[B]? = W.heap[B]?) : Boxed W' B t v := hb.trans h
theorem own_as {W W' : World} {B n s : Nat} {e : TypeId} {v : Value} {xs : List Value} (h : W.ownsRow B e s v n xs) (hb : ∀ g, v.ownBlock = some g → W'.heap[g]? = W.heap[g]?) : W'.ownsRow B e s v n xs := by
  rcases h.2 with ⟨rfl, h0⟩ | ⟨g, cap, cur, rfl, hg, hh, hr⟩
  · exact ⟨h.1, .inl ⟨rfl, h0⟩⟩
  · exact ⟨h.1, .inr ⟨g, cap, cur, rfl, hg, (hb g rfl).trans hh, hr⟩⟩
/-- A round that keeps its word leaves it as it was. -/
theorem St.but {b : Bl} {lp B n : Nat} {K : Int} {c : List Nat} {pre : List Rw} {W W' : World} {T : Nat → Prop} (h : St b lp B n K c pre W) (hk : ButT T W W') (ho : BlOk b B) (hT : ∀ k, T k → k < B) (h1 : ¬ T b.bc) (h2 : ¬ T b.bp) : St b lp B n K c pre W' := by
  have hy := ho.y; have hl := ho.l; have hf := ho.f; have hu := ho.u
  have up : ∀ k, B ≤ k → ¬ T k := fun k hk h => by have := hT k h; omega
  obtain ⟨v, q1, q2, q3⟩ := h.ls
  exact ⟨boxed_as h.c0 (hk.block _ h.c0.lt h1 (box_nf h.c0 (.inl rfl))), boxed_as h.p0 (hk.block _ h.p0.lt h2 (box_nf h.p0 (.inl rfl))), boxed_as h.y0 (hk.block _ h.y0.lt (up _ hy) (box_nf h.y0 (.inr (.inr (.inl rfl))))), boxed_as h.f0 (hk.block _ h.f0.lt (up _ (by omega)) (box_nf h.f0 (.inr (.inr (.inr (.inl rfl)))))), boxed_as h.u0 (hk.block _ h.u0.lt (up _ (by omega)) (box_nf h.u0 (.inr (.inr (.inr (.inr rfl)))))),
    ⟨v, boxed_as q1 (hk.block _ q1.lt (up _ (by omega)) (box_nf q1 (.inr (.inl rfl)))), own_as q2 (fun g hg => hk.block g (q2.lt g hg).2 (up g (q2.lt g hg).1) (row_nf q2 hg)), q3⟩, fun x hx => ⟨(h.gs x hx).1, Nat.lt_of_lt_of_le (h.gs x hx).2 hk.size⟩⟩
theorem St.below {b : Bl} {lp B n : Nat} {K : Int} {c : List Nat} {pre : List Rw} {W W' : World} (h : St b lp B n K c pre W) (hk : Below W.heap.size W W') : St b lp B n K c pre W' := by
  obtain ⟨v, q1, q2, q3⟩ := h.ls
  exact ⟨boxed_as h.c0 (hk.block _ h.c0.lt), boxed_as h.p0 (hk.block _ h.p0.lt), boxed_as h.y0 (hk.block _ h.y0.lt), boxed_as h.f0 (hk.block _ h.f0.lt), boxed_as h.u0 (hk.block _ h.u0.lt),
    ⟨v, boxed_as q1 (hk.block _ q1.lt), own_as q2 (fun g hg => hk.block g (q2.lt g hg).2), q3⟩, fun x hx => ⟨(h.gs x hx).1, Nat.lt_of_lt_of_le (h.gs x hx).2 hk.size⟩⟩
theorem St.more {b : Bl} {lp B n : Nat} {K : Int} {c : List Nat} {pre : List Rw} {x : Rw} {W : World} (h : St b lp B n K c pre W) (h1 : b.u < x.g ∧ x.g < W.heap.size) (h2 : ∀ v, Boxed W b.l 27 v → v.ownBlock ≠ some x.g) : St b lp B n K c (pre ++ [x]) W := by
  obtain ⟨v, q1, q2, q3⟩ := h.ls
  refine ⟨h.c0, h.p0, h.y0, h.f0, h.u0, ⟨v, q1, q2, fun z hz => ?_⟩, fun z hz => ?_⟩ <;> rcases List.mem_append.1 hz with hz | hz
  · exact q3 z hz
  · simp only [List.mem_singleton] at hz; rw [hz]; exact h2 v q1
  · exact h.gs z hz
  · simp only [List.mem_singleton] at hz; rw [hz]; exact h1
/-- What the two closures promise: so many lists L have come, or a part of them. -/
def FillP (J Jx : List Rw → World → Prop) (st : List Rw → World → Prop) (L : List (List Int)) (pre : List Rw) (e : Ending) (W' : World) : Prop :=
  (∃ news, e = .returned (.bool true) ∧ news.map Rw.M = L ∧ J (pre ++ news) W' ∧ st (pre ++ news) W') ∨ (∃ q, e = .returned (.bool false) ∧ q.map Rw.M <+: L ∧ Jx (pre ++ q) W' ∧ st (pre ++ q) W')
def numsL (K left bg : Nat) (c : List Nat) : List (List Int) := (numsD K left bg).map fun d => castL (c ++ d)
theorem numsL_cons (K left bg : Nat) (c : List Nat) (k : Nat) : numsL K left bg (c ++ [k]) = ((numsD K left bg).map (k :: ·)).map fun d => castL (c ++ d) := by
  unfold numsL
  rw [List.map_map]
  refine List.map_congr_left fun d _ => ?_
  simp
end Go.Proofs.YtnkehfhedjdhaaaDoor

/-! JoinS10 -/
namespace Go.Proofs.YtnkehfhedjdhaaaDoor
open Go.RowKit

set_option maxRecDepth 100000 in
set_option maxHeartbeats 8000000 in
theorem spec_joined (w h M : Int) (AX : Option Addr) (cX : Nat) (X : List Int) (AY : Option Addr) (cY : Nat) (Y : List Int) (W : World) (hX : IntsA W AX X) (hY : IntsA W AY Y) (lX : X.length ≤ 1048576) (lY : Y.length ≤ 1048576) :
    Calls Tryd.prog 27 #[.int .i64 w, .int .i64 h, .int .i64 M, .slice AX X.length cX, .slice AY Y.length cY] W (ResQ (JoinP w h M X Y) W) := by
  obtain ⟨i0, hi0, hz0, hz1, hz2⟩ := info_parts infoI10
  have H1 := Lib.hid (spec_cutOk w h M AX cX X W hX lX)
  have H2 := Lib.hid (fun W hY => spec_cutOk w h M AY cY Y W hY lY)
  have HX := Lib.hid hX
  have HY := Lib.hid hY
  have RN : Hid (¬ (CutP w h M X ∧ CutP w h M Y) → ∀ w', Below W.heap.size W w' → ResQ (JoinP w h M X Y) W (.returned (.tuple #[.slice none 0 0, .bool false])) w') := fun hn w' hb => ⟨([], false), _, rfl, .inl ⟨hn, rfl⟩, World.ownsRow_nil _ _ _ _, hb⟩
  by_cases hcX : CutP w h M X
  case neg =>
    have R := Lib.hid (RN.out (fun d => hcX d.1))
    have HC := Lib.hid hcX
    clear hX hY hcX RN
    go_enter Tryd.func27, Tryd.ntmps27
    go_wp2_with fail
    refine H1.out.mono ?_
    rintro e w1 ⟨v, rfl, hv, hb⟩
    obtain rfl : v = false := by
      cases v
      · rfl
      · exact absurd (hv.1 rfl) HC.out
    have R2 := Lib.hid (R.out w1 hb)
    clear hv R hb
    go_wp2_with fail
    go_ret2
    exact R2.out
  by_cases hcY : CutP w h M Y
  case neg =>
    have R := Lib.hid (RN.out (fun d => hcY d.2))
    have HCX := Lib.hid hcX
    have HC := Lib.hid hcY
    clear hX hY hcX hcY RN
    go_enter Tryd.func27, Tryd.ntmps27
    go_wp2_with fail
    refine H1.out.mono ?_
    rintro e w1 ⟨v, rfl, hv, hb⟩
    obtain rfl := hv.2 HCX.out
    have H2' := Lib.hid (H2.out w1 (intsA_on HY.out hb))
    have HB := Lib.hid hb
    clear hv hb
    go_wp2_with fail
    refine H2'.out.mono ?_
    rintro e w2 ⟨v, rfl, hv, hb2⟩
    obtain rfl : v = false := by
      cases v
      · rfl
      · exact absurd (hv.1 rfl) HC.out
    have R2 := Lib.hid (R.out w2 (below_on HB.out hb2))
    clear hv hb2 R
    go_wp2_with fail
    go_ret2
    exact R2.out
  obtain ⟨P, hP, lP, P36, -⟩ := pie_nat hcX
  obtain ⟨Q, hQ, lQ, Q36, -⟩ := pie_nat hcY
  have HEND : Hid (∀ Z V, CatP w h (crossL P Q) Z → CofP w h M Z V → JoinP w h M X Y V) := fun Z V h1 h2 => .inr ⟨⟨hcX, hcY⟩, P, Q, Z, hP, hQ, h1, h2⟩
  have P1 := Lib.hid (spec_l09 hcX).2
  have P2 := Lib.hid (spec_l09 hcY).2
  rw [hP] at P1
  rw [hQ] at P2
  have HCX := Lib.hid hcX
  have HCY := Lib.hid hcY
  have HP36 := Lib.hid P36
  have HQ36 := Lib.hid Q36
  have HPT := Lib.hid (fun r W => spec_parts w h r W)
  have HCO := Lib.hid (fun A c Z W' (hz : IntsA W' A Z) (hl : Z.length ≤ 1048576) (hw : ∀ x ∈ Z, (Lit.int .i64 x).wf = true) (_ : Below W.heap.size W W') => spec_cutOf w h M A c Z W' hz hl hw)
  unfold PartsP ListsI at HPT
  clear hX hY hcX hcY hP hQ P36 Q36 RN
  go_enter Tryd.func27, Tryd.ntmps27
  go_wp2_with fail
  refine H1.out.mono ?_
  rintro e w1 ⟨v, rfl, hv, hb⟩
  obtain rfl := hv.2 HCX.out
  have H2' := Lib.hid (H2.out w1 (intsA_on HY.out hb))
  have HB := Lib.hid hb
  clear hv hb H1
  go_wp2_with fail
  refine H2'.out.mono ?_
  rintro e w2 ⟨v, rfl, hv, hb2⟩
  obtain rfl := hv.2 HCY.out
  have HB2 := Lib.hid (below_on HB.out hb2)
  have own0 := World.ownsRow_lit (base := w2.heap.size) (e := 3) (size := 1) w2 #[] 0 (Nat.le_refl _) (by decide) (by rfl)
  have HB3 := Lib.hid (HB2.out.alloc HB2.out.size (.cells #[] 3))
  have P1' := Lib.hid (P1.out _ AX cX (intsA_on HX.out HB3.out))
  clear hv hb2 HB H2' H2
  go_wp2_with fail
  refine P1'.out.mono ?_
  rintro e w3 ⟨v3, rfl, own3, hb3⟩
  have HBW := Lib.hid (below_on HB3.out hb3)
  have ap3 := own_apart_g own0 (Nat.le_refl _) own3
  have own1 := own_below own0 hb3
  clear own0
  rw [castL_len] at own3
  obtain ⟨-, A3, c3, hv3, -⟩ := own_ints own3
  rw [castL_len] at hv3
  subst hv3
  have ownP := own_base own3 (Nat.zero_le _)
  have hw3 : w2.heap.size ≤ w3.heap.size := by first | exact hb3.size | (have := hb3.size; simp at this; omega)
  have hW2 := HB2.out.size
  clear hb3 P1' own3
  go_wp2_with fail
  go_loopw [12, 14, 16, 37] (fun s _ _ i wr => ∃ (k : Nat) (Z : List Int), k ≤ P.length ∧ i = .int .i64 k ∧ Hid (CatP w h (crossL (P.take k) Q) Z ∧ Z.length ≤ 324 * k) ∧ wr.ownsRow w2.heap.size 3 1 s Z.length (ints Z) ∧
      (s.ownBlock = none ∨ s.ownBlock ≠ (Value.slice A3 P.length c3).ownBlock) ∧ wr.ownsRow 0 3 1 (.slice A3 P.length c3) P.length (ints (castL P)) ∧ Below W.heap.size W wr ∧ w2.heap.size ≤ wr.heap.size) (fun _ _ _ i _ => P.length - (intOf i).toNat)
  case atStart => exact ⟨0, [], Nat.zero_le _, rfl, ⟨rfl, by simp⟩, own1, ap3, ownP, HBW.out, hw3⟩
  case round =>
    obtain ⟨wo, rfl⟩ : ∃ wo : World, wo = wr := ⟨_, rfl⟩
    clear own1 ap3 ownP
    obtain ⟨k, Z, hk, rfl, HZ, own, ap, ownP, hb, hw2⟩ := hrel
    by_cases hlt : k < P.length
    · obtain ⟨g, rfl, hc⟩ := intsA_of ownP k (by rw [castL_len]; exact hlt)
      rw [castL_one10 hlt] at hc
      have HST := Lib.hid (crossL_step (Q := Q) hlt)
      have hp36 := Lib.hid (HP36.out _ (List.getElem_mem hlt))
      generalize P[k] = p at *
      have HC := Lib.hid (P2.out wo AY cY (intsA_on HY.out hb))
      have OO := Lib.hid (And.intro own (And.intro ap (And.intro ownP hb)))
      clear own ap ownP hb
      go_wp2_with fail
      refine HC.out.mono ?_
      rintro e w5 ⟨v5, rfl, own5, hb5⟩
      rw [castL_len] at own5
      obtain ⟨-, A5, c5, hv5, -⟩ := own_ints own5
      rw [castL_len] at hv5
      subst hv5
      have apQ := own_apart_g OO.out.1 (Nat.le_refl _) own5
      have own := own_below OO.out.1 hb5
      have ap := OO.out.2.1
      have ownP := own_below OO.out.2.2.1 hb5
      have hB5 := below_on OO.out.2.2.2 hb5
      have ownQ := own_base own5 (Nat.zero_le _)
      have hw5 : w2.heap.size ≤ w5.heap.size := Nat.le_trans hw2 hb5.size
      clear hb5 own5 hc HC OO hw2
      go_wp2_with fail
      go_loopw [12, 16, 46] (fun s _ i wr => ∃ (j : Nat) (Z : List Int), j ≤ Q.length ∧ i = .int .i64 j ∧ Hid (CatP w h (crossL (P.take k) Q ++ (Q.take j).map (fun q => p &&& q)) Z ∧ Z.length ≤ 324 * k + 36 * j) ∧ wr.ownsRow w2.heap.size 3 1 s Z.length (ints Z) ∧
          (s.ownBlock = none ∨ s.ownBlock ≠ (Value.slice (some ⟨g, 0, none⟩) P.length c3).ownBlock) ∧ (s.ownBlock = none ∨ s.ownBlock ≠ (Value.slice A5 Q.length c5).ownBlock) ∧ wr.ownsRow 0 3 1 (.slice (some ⟨g, 0, none⟩) P.length c3) P.length (ints (castL P)) ∧ wr.ownsRow 0 3 1 (.slice A5 Q.length c5) Q.length (ints (castL Q)) ∧ Below W.heap.size W wr ∧ w2.heap.size ≤ wr.heap.size) (fun _ _ i _ => Q.length - (intOf i).toNat)
      case atStart => exact ⟨0, Z, Nat.zero_le _, rfl, by show _ ∧ _; simpa using HZ.out, own, ap, apQ, ownP, ownQ, hB5, hw5⟩
      case round =>
        obtain ⟨wi, rfl⟩ : ∃ wi : World, wi = wr := ⟨_, rfl⟩
        clear own ap apQ ownP ownQ hB5 hw5 HZ Z
        obtain ⟨j, Z, hj, rfl, HZ, own, ap, apQ, ownP, ownQ, hb, hw2⟩ := hrel
        by_cases hjt : j < Q.length
        · obtain ⟨gq, rfl, hcq⟩ := intsA_of ownQ j (by rw [castL_len]; exact hjt)
          rw [castL_one10 hjt] at hcq
          have HMS := Lib.hid (map_step10 (f := fun q => p &&& q) hjt)
          have hq36 := HQ36.out _ (List.getElem_mem hjt)
          generalize Q[j] = q at *
          have ha := and_nat (a := p) (b := q) (by have := hp36.out; omega) (by omega)
          have HRQ : Hid (∃ r, r = p &&& q) := ⟨_, rfl⟩
          obtain ⟨r, hr⟩ := HRQ.out
          have HR := Lib.hid hr
          rw [← hr] at ha
          have HC := Lib.hid (HPT.out r wi)
          have OO := Lib.hid (And.intro own (And.intro ap (And.intro apQ (And.intro ownP (And.intro ownQ hb)))))
          clear own ap apQ ownP ownQ hb hr HRQ hq36
          go_wp2_with fail
          refine HC.out.mono ?_
          rintro e w7 ⟨L, hL, l36, v7, rfl, own7, hb7⟩
          obtain ⟨o1, o2, o3, o4, o5, o6⟩ := OO.out
          have own := own_below o1 hb7
          have ownP := own_below o4 hb7
          have ownQ := own_below o5 hb7
          have hB7 := below_on o6 hb7
          have hw7 : w2.heap.size ≤ w7.heap.size := Nat.le_trans hw2 hb7.size
          have HZ2 : Hid (CatP w h (crossL (P.take k) Q ++ (Q.take (j + 1)).map (fun q => p &&& q)) (Z ++ L) ∧ (Z ++ L).length ≤ 324 * k + 36 * (j + 1)) := by
            refine ⟨?_, by rw [List.length_append]; have := HZ.out.2; omega⟩
            rw [HMS.out, ← List.append_assoc]
            exact CatP.snoc (by rw [← HR.out]; exact hL) HZ.out.1
          have hZl : Z.length ≤ 4000 := by have := HZ.out.2; omega
          obtain ⟨-, A7, c7, rfl, p7⟩ := own_ints own7
          have hz7 := own_zero own7
          clear o1 o4 o5 o6 OO hb7 HC hcq ha HZ hL HMS
          by_cases hLe : L.length = 0
          · obtain rfl : L = [] := List.length_eq_zero_iff.1 hLe
            rw [List.append_nil] at HZ2
            have R := Lib.hid (And.intro own (And.intro o2 (And.intro o3 (And.intro ownP (And.intro ownQ (And.intro hB7 hw7))))))
            have ownA := own
            clear own o2 o3 ownP ownQ hB7 hw7 own7 p7 hLe
            simp only [List.length_nil]
            go_wp2_with (at_builtin; refine wpList_append_zero10 (by rfl) _ _ 27 (by rfl) w2.heap.size 3 i0 1 Tryd.underlying27 hi0 _ Z.length _ (by rfl) ownA A7 c7 hz7 (by rfl) ?_)
            clear ownA
            go_wp2_with fail
            go_roundw
            case rel => exact ⟨j + 1, Z, by omega, by go_num, HZ2, R.out.1, R.out.2.1, R.out.2.2.1, R.out.2.2.2.1, R.out.2.2.2.2.1, R.out.2.2.2.2.2.1, R.out.2.2.2.2.2.2⟩
            case measure => simp [intOf]; omega
          · have hLp : 0 < L.length := by omega
            obtain ⟨g7, rfl, -⟩ := p7 0 hLp
            have HNW := Lib.hid (intsA_news9 p7)
            have hPl := ownP.lt g rfl
            have hQl := ownQ.lt gq rfl
            clear own7 hz7 hLe
            go_wp2_with (at_builtin; refine wpList_append_lies _ rfl _ _ 27 rfl w2.heap.size 3 i0 (.int .i64 0) 1 8 Tryd.underlying27 hi0 hz0 hz1 hz2 rfl (by decide) _ _ _ rfl own ⟨g7, 0, none⟩ L.length c7 (ints L) rfl (by rw [ints_len, Nat.mul_one]) HNW.out (ints_one9 L) hLp ?d3 ?d4 hw7 w7.heap.size rfl ?_)
            case d3 => unfold maxLen; omega
            case d4 => omega
            intro g8 cp8 w8 own8 hgrow hat _
            have hr := fun q hq => Nat.le_trans hW2 ((own.lt q hq).1)
            have HN : Hid ((Z ++ L).length = Z.length + L.length) := by simp [Hid]
            have R : Hid (w8.ownsRow w2.heap.size 3 1 (.slice (some ⟨g8, 0, none⟩) (Z ++ L).length cp8) (Z ++ L).length (ints (Z ++ L)) ∧
                ((Value.slice (some ⟨g8, 0, none⟩) (Z ++ L).length cp8).ownBlock = none ∨ (Value.slice (some ⟨g8, 0, none⟩) (Z ++ L).length cp8).ownBlock ≠ (Value.slice (some ⟨g, 0, none⟩) P.length c3).ownBlock) ∧
                ((Value.slice (some ⟨g8, 0, none⟩) (Z ++ L).length cp8).ownBlock = none ∨ (Value.slice (some ⟨g8, 0, none⟩) (Z ++ L).length cp8).ownBlock ≠ (Value.slice (some ⟨gq, 0, none⟩) Q.length c5).ownBlock) ∧
                w8.ownsRow 0 3 1 (.slice (some ⟨g, 0, none⟩) P.length c3) P.length (ints (castL P)) ∧ w8.ownsRow 0 3 1 (.slice (some ⟨gq, 0, none⟩) Q.length c5) Q.length (ints (castL Q)) ∧ Below W.heap.size W w8 ∧ w2.heap.size ≤ w8.heap.size) := by
              refine ⟨by rw [HN.out, show ints (Z ++ L) = ints Z ++ ints L by simp [ints]]; exact own8, .inr ?_, .inr ?_, ownP.kept hgrow ?_, ownQ.kept hgrow ?_, hB7.grown hgrow hB7.size hr, Nat.le_trans hw7 hgrow.size⟩
              · simp only [Value.ownBlock, ne_eq, Option.some.injEq]
                rcases hat with hat | hat
                · rcases o2 with o2 | o2
                  · rw [hat] at o2; cases o2
                  · rw [hat] at o2; simpa [Value.ownBlock] using o2
                · omega
              · simp only [Value.ownBlock, ne_eq, Option.some.injEq]
                rcases hat with hat | hat
                · rcases o3 with o3 | o3
                  · rw [hat] at o3; cases o3
                  · rw [hat] at o3; simpa [Value.ownBlock] using o3
                · omega
              · rcases o2 with o2 | o2
                · rw [o2]; exact .inr (by simp [Value.ownBlock])
                · exact .inr (Ne.symm o2)
              · rcases o3 with o3 | o3
                · rw [o3]; exact .inr (by simp [Value.ownBlock])
                · exact .inr (Ne.symm o3)
            clear own own8 hgrow o2 o3 ownP ownQ hB7 hw7 hPl hQl hat hr p7 HNW
            go_wp2_with fail
            go_roundw
            case rel => exact ⟨j + 1, Z ++ L, by omega, by go_num, HZ2, by first | exact R.out.1 | (rw [HN.out] at *; exact R.out.1), by first | exact R.out.2.1 | (rw [HN.out] at *; exact R.out.2.1), by first | exact R.out.2.2.1 | (rw [HN.out] at *; exact R.out.2.2.1), R.out.2.2.2.1, R.out.2.2.2.2.1, R.out.2.2.2.2.2.1, R.out.2.2.2.2.2.2⟩
            case measure => simp [intOf]; omega
        · have HZE : Hid (CatP w h (crossL (P.take (k + 1)) Q) Z ∧ Z.length ≤ 324 * (k + 1)) := by
            refine ⟨?_, by have := HZ.out.2; omega⟩
            rw [HST.out]
            have := HZ.out.1
            rw [show Q.take j = Q from List.take_of_length_le (by omega)] at this
            exact this
          have R := Lib.hid (And.intro own (And.intro ap (And.intro ownP (And.intro hb hw2))))
          clear own ap apQ ownP ownQ hb hw2 HZ
          go_wp2_with fail
          go_roundw
          case rel => exact ⟨k + 1, Z, by omega, by go_num, HZE, R.out.1, R.out.2.1, R.out.2.2.1, R.out.2.2.2.1, R.out.2.2.2.2⟩
          case measure => simp [intOf]; omega
    · have HZE : Hid (CatP w h (crossL P Q) Z) := by
        have := HZ.out.1
        rwa [List.take_of_length_le (by omega)] at this
      have hZl : Z.length ≤ 1048576 := by have := HZ.out.2; omega
      obtain ⟨-, A9, c9, rfl, p9⟩ := own_ints own
      have HW : Hid (∀ x ∈ Z, (Lit.int .i64 x).wf = true) := fun x hx => by
        have := HZE.out.range (n := 2 ^ 36) (crossL_lt HP36.out) x hx
        exact wf_small this.1 (by omega)
      have HCZ := Lib.hid (HCO.out A9 c9 Z wo p9 hZl HW.out hb)
      unfold ResQ at HCZ
      have HB9 := Lib.hid hb
      clear own ap ownP hb p9 HZ
      go_wp2_with fail
      refine HCZ.out.mono ?_
      rintro e w9 ⟨⟨R9, b9⟩, v9, rfl, hV, own9, hb9⟩
      have RR : Hid (ResQ (JoinP w h M X Y) W (.returned (.tuple #[v9, .bool b9])) w9) := ⟨(R9, b9), v9, rfl, HEND.out Z _ HZE.out hV, own_base own9 HB9.out.size, below_on HB9.out hb9⟩
      clear hV own9 hb9
      go_wp2_with fail
      go_ret2
      exact RR.out
end Go.Proofs.YtnkehfhedjdhaaaDoor

/-! JoinI10 -/
namespace Go.Proofs.YtnkehfhedjdhaaaDoor
open Go.RowKit

set_option maxRecDepth 100000 in
set_option maxHeartbeats 8000000 in
theorem impl_joined (w h M : Int) (AX : Option Addr) (cX : Nat) (X : List Int) (AY : Option Addr) (cY : Nat) (Y : List Int) (W : World) (hX : IntsA W AX X) (hY : IntsA W AY Y) (lX : X.length ≤ 1048576) (lY : Y.length ≤ 1048576)
    (hT : TabAt 1 Lib.deBruijn64tab W) (hgt : 1 < W.heap.size) :
    Calls Tryd.prog 28 #[.int .i64 w, .int .i64 h, .int .i64 M, .slice AX X.length cX, .slice AY Y.length cY] W (ResQ (JoinP w h M X Y) W) := by
  obtain ⟨i0, hi0, hz0, hz1, hz2⟩ := info_parts infoI10
  have H1 := Lib.hid (impl_cutOk w h M AX cX X W hX lX)
  have H2 := Lib.hid (fun W hY => impl_cutOk w h M AY cY Y W hY lY)
  have HX := Lib.hid hX
  have HY := Lib.hid hY
  have RN : Hid (¬ (CutP w h M X ∧ CutP w h M Y) → ∀ w', Below W.heap.size W w' → ResQ (JoinP w h M X Y) W (.returned (.tuple #[.slice none 0 0, .bool false])) w') := fun hn w' hb => ⟨([], false), _, rfl, .inl ⟨hn, rfl⟩, World.ownsRow_nil _ _ _ _, hb⟩
  by_cases hcX : CutP w h M X
  case neg =>
    have R := Lib.hid (RN.out (fun d => hcX d.1))
    have HC := Lib.hid hcX
    clear hX hY hcX RN hT hgt
    go_enter Tryd.func28, Tryd.ntmps28
    go_wp2_with fail
    refine H1.out.mono ?_
    rintro e w1 ⟨v, rfl, hv, hb⟩
    obtain rfl : v = false := by
      cases v
      · rfl
      · exact absurd (hv.1 rfl) HC.out
    have R2 := Lib.hid (R.out w1 hb)
    clear hv R hb
    go_wp2_with fail
    go_ret2
    exact R2.out
  by_cases hcY : CutP w h M Y
  case neg =>
    have R := Lib.hid (RN.out (fun d => hcY d.2))
    have HCX := Lib.hid hcX
    have HC := Lib.hid hcY
    clear hX hY hcX hcY RN hT hgt
    go_enter Tryd.func28, Tryd.ntmps28
    go_wp2_with fail
    refine H1.out.mono ?_
    rintro e w1 ⟨v, rfl, hv, hb⟩
    obtain rfl := hv.2 HCX.out
    have H2' := Lib.hid (H2.out w1 (intsA_on HY.out hb))
    have HB := Lib.hid hb
    clear hv hb
    go_wp2_with fail
    refine H2'.out.mono ?_
    rintro e w2 ⟨v, rfl, hv, hb2⟩
    obtain rfl : v = false := by
      cases v
      · rfl
      · exact absurd (hv.1 rfl) HC.out
    have R2 := Lib.hid (R.out w2 (below_on HB.out hb2))
    clear hv hb2 R
    go_wp2_with fail
    go_ret2
    exact R2.out
  obtain ⟨P, hP, lP, P36, -⟩ := pie_nat hcX
  obtain ⟨Q, hQ, lQ, Q36, -⟩ := pie_nat hcY
  have HEND : Hid (∀ Z V, CatP w h (crossL P Q) Z → CofP w h M Z V → JoinP w h M X Y V) := fun Z V h1 h2 => .inr ⟨⟨hcX, hcY⟩, P, Q, Z, hP, hQ, h1, h2⟩
  have P1 : Hid (∀ W A c, IntsA W A X → Calls Tryd.prog 10 #[.int .i64 w, .int .i64 h, .int .i64 M, .slice A X.length c] W (ListsI W (pieV w h M X))) := fun W A c hA => (impl_pieces w h M A c X W hA lX).mono fun e w' ⟨P', hP', hl⟩ => by
    rcases hP'.1 with ⟨_, e1⟩ | ⟨hn, _⟩
    · rw [e1] at hl; exact hl
    · exact absurd hcX hn
  have P2 : Hid (∀ W A c, IntsA W A Y → Calls Tryd.prog 10 #[.int .i64 w, .int .i64 h, .int .i64 M, .slice A Y.length c] W (ListsI W (pieV w h M Y))) := fun W A c hA => (impl_pieces w h M A c Y W hA lY).mono fun e w' ⟨P', hP', hl⟩ => by
    rcases hP'.1 with ⟨_, e1⟩ | ⟨hn, _⟩
    · rw [e1] at hl; exact hl
    · exact absurd hcY hn
  rw [hP] at P1
  rw [hQ] at P2
  have HCX := Lib.hid hcX
  have HCY := Lib.hid hcY
  have HP36 := Lib.hid P36
  have HQ36 := Lib.hid Q36
  have HPT := Lib.hid (fun r W => impl_parts w h r W)
  have HCO := Lib.hid (fun A c Z W' (hz : IntsA W' A Z) (hl : Z.length ≤ 1048576) (_ : ∀ x ∈ Z, (Lit.int .i64 x).wf = true) (hb : Below W.heap.size W W') => impl_cutOf w h M A c Z W' hz hl (fun j hj => cell_on hb rfl (hT j hj)) (Nat.lt_of_lt_of_le hgt hb.size))
  unfold PartsP ListsI at HPT
  clear hX hY hcX hcY hP hQ P36 Q36 RN hT hgt
  go_enter Tryd.func28, Tryd.ntmps28
  go_wp2_with fail
  refine H1.out.mono ?_
  rintro e w1 ⟨v, rfl, hv, hb⟩
  obtain rfl := hv.2 HCX.out
  have H2' := Lib.hid (H2.out w1 (intsA_on HY.out hb))
  have HB := Lib.hid hb
  clear hv hb H1
  go_wp2_with fail
  refine H2'.out.mono ?_
  rintro e w2 ⟨v, rfl, hv, hb2⟩
  obtain rfl := hv.2 HCY.out
  have HB2 := Lib.hid (below_on HB.out hb2)
  have P1' := Lib.hid (P1.out _ AX cX (intsA_on HX.out HB2.out))
  clear hv hb2 HB H2' H2
  go_wp2_with fail
  refine P1'.out.mono ?_
  rintro e w3 ⟨v3, rfl, own3, hb3⟩
  have HBW := Lib.hid (below_on HB2.out hb3)
  have own1 : w3.ownsRow w2.heap.size 3 1 (.slice none 0 0) 0 [] := World.ownsRow_nil _ _ _ _
  have ap3 : (Value.slice none 0 0).ownBlock = none ∨ (Value.slice none 0 0).ownBlock ≠ v3.ownBlock := .inl rfl
  rw [castL_len] at own3
  obtain ⟨-, A3, c3, hv3, -⟩ := own_ints own3
  rw [castL_len] at hv3
  subst hv3
  have ownP := own_base own3 (Nat.zero_le _)
  have hw3 : w2.heap.size ≤ w3.heap.size := by first | exact hb3.size | (have := hb3.size; simp at this; omega)
  have hW2 := HB2.out.size
  clear hb3 P1' own3
  go_wp2_with fail
  go_loopw [12, 14, 16, 37] (fun s _ _ i wr => ∃ (k : Nat) (Z : List Int), k ≤ P.length ∧ i = .int .i64 k ∧ Hid (CatP w h (crossL (P.take k) Q) Z ∧ Z.length ≤ 324 * k) ∧ wr.ownsRow w2.heap.size 3 1 s Z.length (ints Z) ∧
      (s.ownBlock = none ∨ s.ownBlock ≠ (Value.slice A3 P.length c3).ownBlock) ∧ wr.ownsRow 0 3 1 (.slice A3 P.length c3) P.length (ints (castL P)) ∧ Below W.heap.size W wr ∧ w2.heap.size ≤ wr.heap.size) (fun _ _ _ i _ => P.length - (intOf i).toNat)
  case atStart => exact ⟨0, [], Nat.zero_le _, rfl, ⟨rfl, by simp⟩, own1, ap3, ownP, HBW.out, hw3⟩
  case round =>
    obtain ⟨wo, rfl⟩ : ∃ wo : World, wo = wr := ⟨_, rfl⟩
    clear own1 ap3 ownP
    obtain ⟨k, Z, hk, rfl, HZ, own, ap, ownP, hb, hw2⟩ := hrel
    by_cases hlt : k < P.length
    · obtain ⟨g, rfl, hc⟩ := intsA_of ownP k (by rw [castL_len]; exact hlt)
      rw [castL_one10 hlt] at hc
      have HST := Lib.hid (crossL_step (Q := Q) hlt)
      have hp36 := Lib.hid (HP36.out _ (List.getElem_mem hlt))
      generalize P[k] = p at *
      have HC := Lib.hid (P2.out wo AY cY (intsA_on HY.out hb))
      have OO := Lib.hid (And.intro own (And.intro ap (And.intro ownP hb)))
      clear own ap ownP hb
      go_wp2_with fail
      refine HC.out.mono ?_
      rintro e w5 ⟨v5, rfl, own5, hb5⟩
      rw [castL_len] at own5
      obtain ⟨-, A5, c5, hv5, -⟩ := own_ints own5
      rw [castL_len] at hv5
      subst hv5
      have apQ := own_apart_g OO.out.1 (Nat.le_refl _) own5
      have own := own_below OO.out.1 hb5
      have ap := OO.out.2.1
      have ownP := own_below OO.out.2.2.1 hb5
      have hB5 := below_on OO.out.2.2.2 hb5
      have ownQ := own_base own5 (Nat.zero_le _)
      have hw5 : w2.heap.size ≤ w5.heap.size := Nat.le_trans hw2 hb5.size
      clear hb5 own5 hc HC OO hw2
      go_wp2_with fail
      go_loopw [12, 16, 47] (fun s _ i wr => ∃ (j : Nat) (Z : List Int), j ≤ Q.length ∧ i = .int .i64 j ∧ Hid (CatP w h (crossL (P.take k) Q ++ (Q.take j).map (fun q => p &&& q)) Z ∧ Z.length ≤ 324 * k + 36 * j) ∧ wr.ownsRow w2.heap.size 3 1 s Z.length (ints Z) ∧
          (s.ownBlock = none ∨ s.ownBlock ≠ (Value.slice (some ⟨g, 0, none⟩) P.length c3).ownBlock) ∧ (s.ownBlock = none ∨ s.ownBlock ≠ (Value.slice A5 Q.length c5).ownBlock) ∧ wr.ownsRow 0 3 1 (.slice (some ⟨g, 0, none⟩) P.length c3) P.length (ints (castL P)) ∧ wr.ownsRow 0 3 1 (.slice A5 Q.length c5) Q.length (ints (castL Q)) ∧ Below W.heap.size W wr ∧ w2.heap.size ≤ wr.heap.size) (fun _ _ i _ => Q.length - (intOf i).toNat)
      case atStart => exact ⟨0, Z, Nat.zero_le _, rfl, by show _ ∧ _; simpa using HZ.out, own, ap, apQ, ownP, ownQ, hB5, hw5⟩
      case round =>
        obtain ⟨wi, rfl⟩ : ∃ wi : World, wi = wr := ⟨_, rfl⟩
        clear own ap apQ ownP ownQ hB5 hw5 HZ Z
        obtain ⟨j, Z, hj, rfl, HZ, own, ap, apQ, ownP, ownQ, hb, hw2⟩ := hrel
        by_cases hjt : j < Q.length
        · obtain ⟨gq, rfl, hcq⟩ := intsA_of ownQ j (by rw [castL_len]; exact hjt)
          rw [castL_one10 hjt] at hcq
          have HMS := Lib.hid (map_step10 (f := fun q => p &&& q) hjt)
          have hq36 := HQ36.out _ (List.getElem_mem hjt)
          generalize Q[j] = q at *
          have ha := and_nat (a := p) (b := q) (by have := hp36.out; omega) (by omega)
          have HRQ : Hid (∃ r, r = p &&& q) := ⟨_, rfl⟩
          obtain ⟨r, hr⟩ := HRQ.out
          have HR := Lib.hid hr
          rw [← hr] at ha
          have HC := Lib.hid (HPT.out r wi)
          have OO := Lib.hid (And.intro own (And.intro ap (And.intro apQ (And.intro ownP (And.intro ownQ hb)))))
          clear own ap apQ ownP ownQ hb hr HRQ hq36
          go_wp2_with fail
          refine HC.out.mono ?_
          rintro e w7 ⟨L, hL, l36, v7, rfl, own7, hb7⟩
          obtain ⟨o1, o2, o3, o4, o5, o6⟩ := OO.out
          have own := own_below o1 hb7
          have ownP := own_below o4 hb7
          have ownQ := own_below o5 hb7
          have hB7 := below_on o6 hb7
          have hw7 : w2.heap.size ≤ w7.heap.size := Nat.le_trans hw2 hb7.size
          have HZ2 : Hid (CatP w h (crossL (P.take k) Q ++ (Q.take (j + 1)).map (fun q => p &&& q)) (Z ++ L) ∧ (Z ++ L).length ≤ 324 * k + 36 * (j + 1)) := by
            refine ⟨?_, by rw [List.length_append]; have := HZ.out.2; omega⟩
            rw [HMS.out, ← List.append_assoc]
            exact CatP.snoc (by rw [← HR.out]; exact hL) HZ.out.1
          have hZl : Z.length ≤ 4000 := by have := HZ.out.2; omega
          obtain ⟨-, A7, c7, rfl, p7⟩ := own_ints own7
          have hz7 := own_zero own7
          clear o1 o4 o5 o6 OO hb7 HC hcq ha HZ hL HMS
          by_cases hLe : L.length = 0
          · obtain rfl : L = [] := List.length_eq_zero_iff.1 hLe
            rw [List.append_nil] at HZ2
            have R := Lib.hid (And.intro own (And.intro o2 (And.intro o3 (And.intro ownP (And.intro ownQ (And.intro hB7 hw7))))))
            have ownA := own
            clear own o2 o3 ownP ownQ hB7 hw7 own7 p7 hLe
            simp only [List.length_nil]
            go_wp2_with (at_builtin; refine wpList_append_zero10 (by rfl) _ _ 27 (by rfl) w2.heap.size 3 i0 1 Tryd.underlying27 hi0 _ Z.length _ (by rfl) ownA A7 c7 hz7 (by rfl) ?_)
            clear ownA
            go_wp2_with fail
            go_roundw
            case rel => exact ⟨j + 1, Z, by omega, by go_num, HZ2, R.out.1, R.out.2.1, R.out.2.2.1, R.out.2.2.2.1, R.out.2.2.2.2.1, R.out.2.2.2.2.2.1, R.out.2.2.2.2.2.2⟩
            case measure => simp [intOf]; omega
          · have hLp : 0 < L.length := by omega
            obtain ⟨g7, rfl, -⟩ := p7 0 hLp
            have HNW := Lib.hid (intsA_news9 p7)
            have hPl := ownP.lt g rfl
            have hQl := ownQ.lt gq rfl
            clear own7 hz7 hLe
            go_wp2_with (at_builtin; refine wpList_append_lies _ rfl _ _ 27 rfl w2.heap.size 3 i0 (.int .i64 0) 1 8 Tryd.underlying27 hi0 hz0 hz1 hz2 rfl (by decide) _ _ _ rfl own ⟨g7, 0, none⟩ L.length c7 (ints L) rfl (by rw [ints_len, Nat.mul_one]) HNW.out (ints_one9 L) hLp ?d3 ?d4 hw7 w7.heap.size rfl ?_)
            case d3 => unfold maxLen; omega
            case d4 => omega
            intro g8 cp8 w8 own8 hgrow hat _
            have hr := fun q hq => Nat.le_trans hW2 ((own.lt q hq).1)
            have HN : Hid ((Z ++ L).length = Z.length + L.length) := by simp [Hid]
            have R : Hid (w8.ownsRow w2.heap.size 3 1 (.slice (some ⟨g8, 0, none⟩) (Z ++ L).length cp8) (Z ++ L).length (ints (Z ++ L)) ∧
                ((Value.slice (some ⟨g8, 0, none⟩) (Z ++ L).length cp8).ownBlock = none ∨ (Value.slice (some ⟨g8, 0, none⟩) (Z ++ L).length cp8).ownBlock ≠ (Value.slice (some ⟨g, 0, none⟩) P.length c3).ownBlock) ∧
                ((Value.slice (some ⟨g8, 0, none⟩) (Z ++ L).length cp8).ownBlock = none ∨ (Value.slice (some ⟨g8, 0, none⟩) (Z ++ L).length cp8).ownBlock ≠ (Value.slice (some ⟨gq, 0, none⟩) Q.length c5).ownBlock) ∧
                w8.ownsRow 0 3 1 (.slice (some ⟨g, 0, none⟩) P.length c3) P.length (ints (castL P)) ∧ w8.ownsRow 0 3 1 (.slice (some ⟨gq, 0, none⟩) Q.length c5) Q.length (ints (castL Q)) ∧ Below W.heap.size W w8 ∧ w2.heap.size ≤ w8.heap.size) := by
              refine ⟨by rw [HN.out, show ints (Z ++ L) = ints Z ++ ints L by simp [ints]]; exact own8, .inr ?_, .inr ?_, ownP.kept hgrow ?_, ownQ.kept hgrow ?_, hB7.grown hgrow hB7.size hr, Nat.le_trans hw7 hgrow.size⟩
              · simp only [Value.ownBlock, ne_eq, Option.some.injEq]
                rcases hat with hat | hat
                · rcases o2 with o2 | o2
                  · rw [hat] at o2; cases o2
                  · rw [hat] at o2; simpa [Value.ownBlock] using o2
                · omega
              · simp only [Value.ownBlock, ne_eq, Option.some.injEq]
                rcases hat with hat | hat
                · rcases o3 with o3 | o3
                  · rw [hat] at o3; cases o3
                  · rw [hat] at o3; simpa [Value.ownBlock] using o3
                · omega
              · rcases o2 with o2 | o2
                · rw [o2]; exact .inr (by simp [Value.ownBlock])
                · exact .inr (Ne.symm o2)
              · rcases o3 with o3 | o3
                · rw [o3]; exact .inr (by simp [Value.ownBlock])
                · exact .inr (Ne.symm o3)
            clear own own8 hgrow o2 o3 ownP ownQ hB7 hw7 hPl hQl hat hr p7 HNW
            go_wp2_with fail
            go_roundw
            case rel => exact ⟨j + 1, Z ++ L, by omega, by go_num, HZ2, by first | exact R.out.1 | (rw [HN.out] at *; exact R.out.1), by first | exact R.out.2.1 | (rw [HN.out] at *; exact R.out.2.1), by first | exact R.out.2.2.1 | (rw [HN.out] at *; exact R.out.2.2.1), R.out.2.2.2.1, R.out.2.2.2.2.1, R.out.2.2.2.2.2.1, R.out.2.2.2.2.2.2⟩
            case measure => simp [intOf]; omega
        · have HZE : Hid (CatP w h (crossL (P.take (k + 1)) Q) Z ∧ Z.length ≤ 324 * (k + 1)) := by
            refine ⟨?_, by have := HZ.out.2; omega⟩
            rw [HST.out]
            have := HZ.out.1
            rw [show Q.take j = Q from List.take_of_length_le (by omega)] at this
            exact this
          have R := Lib.hid (And.intro own (And.intro ap (And.intro ownP (And.intro hb hw2))))
          clear own ap apQ ownP ownQ hb hw2 HZ
          go_wp2_with fail
          go_roundw
          case rel => exact ⟨k + 1, Z, by omega, by go_num, HZE, R.out.1, R.out.2.1, R.out.2.2.1, R.out.2.2.2.1, R.out.2.2.2.2⟩
          case measure => simp [intOf]; omega
    · have HZE : Hid (CatP w h (crossL P Q) Z) := by
        have := HZ.out.1
        rwa [List.take_of_length_le (by omega)] at this
      have hZl : Z.length ≤ 1048576 := by have := HZ.out.2; omega
      obtain ⟨-, A9, c9, rfl, p9⟩ := own_ints own
      have HW : Hid (∀ x ∈ Z, (Lit.int .i64 x).wf = true) := fun x hx => by
        have := HZE.out.range (n := 2 ^ 36) (crossL_lt HP36.out) x hx
        exact wf_small this.1 (by omega)
      have HCZ := Lib.hid (HCO.out A9 c9 Z wo p9 hZl HW.out hb)
      unfold ResQ at HCZ
      have HB9 := Lib.hid hb
      clear own ap ownP hb p9 HZ
      go_wp2_with fail
      refine HCZ.out.mono ?_
      rintro e w9 ⟨⟨R9, b9⟩, v9, rfl, hV, own9, hb9⟩
      have RR : Hid (ResQ (JoinP w h M X Y) W (.returned (.tuple #[v9, .bool b9])) w9) := ⟨(R9, b9), v9, rfl, HEND.out Z _ HZE.out hV, own_base own9 HB9.out.size, below_on HB9.out hb9⟩
      clear hV own9 hb9
      go_wp2_with fail
      go_ret2
      exact RR.out
end Go.Proofs.YtnkehfhedjdhaaaDoor

/-! LawJ10 -/
namespace Go.Proofs.YtnkehfhedjdhaaaDoor
open Go.RowKit

set_option maxRecDepth 100000 in
set_option maxHeartbeats 4000000 in
theorem ex_joined (w h M : Int) (AX : Option Addr) (cX : Nat) (X : List Int) (AY : Option Addr) (cY : Nat) (Y : List Int) (W : World) (hX : ArgI W AX X) (_lX : X.length ≤ maxLen) (hY : ArgI W AY Y) (_lY : Y.length ≤ maxLen) (hT : TabAt 1 Lib.deBruijn64tab W) (hgt : 1 < W.heap.size) :
    Calls Tryd.prog 5 #[.int .i64 w, .int .i64 h, .int .i64 M, .slice AX X.length cX, .slice AY Y.length cY] W fun e w' => e = .returned (.bool true) ∧ Below W.heap.size W w' := by
  by_cases hsX : X.length ≤ 1048576
  case neg =>
    have hq : ((1048576 : Int) < (X.length : Int)) := by omega
    clear hX hY hsX
    unfold maxLen at *
    go_enter Tryd.func5, Tryd.ntmps5
    go_wp2_with fail
    go_ret
    exact ⟨rfl, Below.refl _ _⟩
  by_cases hsY : Y.length ≤ 1048576
  case neg =>
    have hq : ((1048576 : Int) < (Y.length : Int)) := by omega
    have hpX : ¬ ((1048576 : Int) < (X.length : Int)) := by omega
    clear hX hY hsX hsY
    unfold maxLen at *
    go_enter Tryd.func5, Tryd.ntmps5
    go_wp2_with fail
    go_ret
    exact ⟨rfl, Below.refl _ _⟩
  have HS := Lib.hid (fun AX cX AY cY W hX hY => spec_joined w h M AX cX X AY cY Y W hX hY hsX hsY)
  have HI := Lib.hid (fun AX cX AY cY W' hX hY (hb : Below W.heap.size W W') => impl_joined w h M AX cX X AY cY Y W' hX hY hsX hsY (fun j hj => cell_on hb rfl (hT j hj)) (Nat.lt_of_lt_of_le hgt hb.size))
  have HTX := Lib.hid (fun W h => toI_any AX cX X W h hsX)
  have HAX := Lib.hid hX
  have hnX : ¬ ((1048576 : Int) < (X.length : Int)) := by omega
  have HZX := Lib.hid hsX
  have HTY := Lib.hid (fun W h => toI_any AY cY Y W h hsY)
  have HAY := Lib.hid hY
  have hnY : ¬ ((1048576 : Int) < (Y.length : Int)) := by omega
  have HZY := Lib.hid hsY
  clear hX _lX hsX hY _lY hsY
  go_enter Tryd.func5, Tryd.ntmps5
  go_wp2_with fail
  refine (HTX.out _ HAX.out).mono ?_
  rintro e w1 ⟨rfl, osX, hb1⟩
  have b1 := hb1
  clear hb1
  go_wp2_with fail
  refine (HTY.out _ (HAY.out.step b1)).mono ?_
  rintro e w2 ⟨rfl, osY, hb2⟩
  have ap_osX_osY := own_apart_g osX (Nat.le_refl _) osY
  have ap_osY_osX := own_apart_g' osX (Nat.le_refl _) osY
  have b2 := below_on b1 hb2
  replace osX := own_below osX hb2
  replace osY := own_base osY b1.size
  clear hb2 b1
  go_wp2_with fail
  have psX := intsA_of osX
  have psY := intsA_of osY
  clear osX ap_osX_osY ap_osY_osX
  clear osY
  refine (HS.out _ _ _ _ _ psX psY).mono ?_
  rintro e w3 ⟨⟨L, y⟩, v2, rfl, hL, own2, hb3⟩
  simp only at own2
  have HL := Lib.hid hL
  have HMM : Hid (L.length ≤ 1048576) := hL.len
  clear hL
  have b3 := below_on b2 hb3
  replace own2 := own_base own2 b2.size
  clear hb3 b2
  clear psX psY
  go_wp2_with fail
  refine (HTX.out _ (HAX.out.step b3)).mono ?_
  rintro e w4 ⟨rfl, oxX, hb4⟩
  have ap_own2_oxX := own_apart_g own2 (Nat.le_refl _) oxX
  have ap_oxX_own2 := own_apart_g' own2 (Nat.le_refl _) oxX
  have b4 := below_on b3 hb4
  replace own2 := own_below own2 hb4
  replace oxX := own_base oxX b3.size
  clear hb4 b3
  go_wp2_with fail
  refine (HTY.out _ (HAY.out.step b4)).mono ?_
  rintro e w5 ⟨rfl, oxY, hb5⟩
  have ap_own2_oxY := own_apart_g own2 (Nat.le_refl _) oxY
  have ap_oxY_own2 := own_apart_g' own2 (Nat.le_refl _) oxY
  have ap_oxX_oxY := own_apart_g oxX (Nat.le_refl _) oxY
  have ap_oxY_oxX := own_apart_g' oxX (Nat.le_refl _) oxY
  have b5 := below_on b4 hb5
  replace own2 := own_below own2 hb5
  replace oxX := own_below oxX hb5
  replace oxY := own_base oxY b4.size
  clear hb5 b4
  go_wp2_with fail
  have psX := intsA_of oxX
  have psY := intsA_of oxY
  refine (HI.out _ _ _ _ _ psX psY b5).mono ?_
  rintro e w6 ⟨⟨L', y'⟩, v4, rfl, hL', own4, hb6⟩
  simp only at own4
  have hq := HL.out.uniq hL'
  simp only [Prod.mk.injEq] at hq
  obtain ⟨rfl, rfl⟩ := hq
  clear hL'
  have ap_own2_own4 := own_apart_g own2 (Nat.le_refl _) own4
  have ap_own4_own2 := own_apart_g' own2 (Nat.le_refl _) own4
  have ap_oxX_own4 := own_apart_g oxX (Nat.le_refl _) own4
  have ap_own4_oxX := own_apart_g' oxX (Nat.le_refl _) own4
  have ap_oxY_own4 := own_apart_g oxY (Nat.le_refl _) own4
  have ap_own4_oxY := own_apart_g' oxY (Nat.le_refl _) own4
  have b6 := below_on b5 hb6
  replace own2 := own_below own2 hb6
  replace oxX := own_below oxX hb6
  replace oxY := own_below oxY hb6
  replace own4 := own_base own4 b5.size
  clear hb6 b5
  clear psX psY
  obtain ⟨_, A4, c4, rfl, -⟩ := own_ints own4
  obtain ⟨_, A2, c2, rfl, -⟩ := own_ints own2
  go_wp2_with fail
  refine (eq_ints _ _ _ _ L _ (intsA_of own4) (intsA_of own2) HMM.out).mono ?_
  rintro e w7 ⟨rfl, hb7⟩
  have b7 := below_on b6 hb7
  replace own2 := own_below own2 hb7
  replace oxX := own_below oxX hb7
  replace oxY := own_below oxY hb7
  replace own4 := own_below own4 hb7
  clear hb7 b6
  go_wp2_with fail
  refine (HTX.out _ (HAX.out.step b7)).mono ?_
  rintro e w8 ⟨rfl, oy, hb8⟩
  have ap_own2_oy := own_apart_g own2 (Nat.le_refl _) oy
  have ap_oy_own2 := own_apart_g' own2 (Nat.le_refl _) oy
  have ap_oxX_oy := own_apart_g oxX (Nat.le_refl _) oy
  have ap_oy_oxX := own_apart_g' oxX (Nat.le_refl _) oy
  have ap_oxY_oy := own_apart_g oxY (Nat.le_refl _) oy
  have ap_oy_oxY := own_apart_g' oxY (Nat.le_refl _) oy
  have ap_own4_oy := own_apart_g own4 (Nat.le_refl _) oy
  have ap_oy_own4 := own_apart_g' own4 (Nat.le_refl _) oy
  have b8 := below_on b7 hb8
  replace own2 := own_below own2 hb8
  replace oxX := own_below oxX hb8
  replace oxY := own_below oxY hb8
  replace own4 := own_below own4 hb8
  replace oy := own_base oy b7.size
  clear hb8 b7
  go_wp2_with fail
  refine (eq_ints _ _ _ _ X _ (intsA_of oxX) (intsA_of oy) HZX.out).mono ?_
  rintro e w9 ⟨rfl, hb9⟩
  have b9 := below_on b8 hb9
  replace own2 := own_below own2 hb9
  replace oxX := own_below oxX hb9
  replace oxY := own_below oxY hb9
  replace own4 := own_below own4 hb9
  replace oy := own_below oy hb9
  clear hb9 b8
  clear oy ap_own2_oy ap_own4_oy ap_oxX_oy ap_oxY_oy ap_oy_own2 ap_oy_own4 ap_oy_oxX ap_oy_oxY
  go_wp2_with fail
  refine (HTY.out _ (HAY.out.step b9)).mono ?_
  rintro e w10 ⟨rfl, oy, hb10⟩
  have ap_own2_oy := own_apart_g own2 (Nat.le_refl _) oy
  have ap_oy_own2 := own_apart_g' own2 (Nat.le_refl _) oy
  have ap_oxX_oy := own_apart_g oxX (Nat.le_refl _) oy
  have ap_oy_oxX := own_apart_g' oxX (Nat.le_refl _) oy
  have ap_oxY_oy := own_apart_g oxY (Nat.le_refl _) oy
  have ap_oy_oxY := own_apart_g' oxY (Nat.le_refl _) oy
  have ap_own4_oy := own_apart_g own4 (Nat.le_refl _) oy
  have ap_oy_own4 := own_apart_g' own4 (Nat.le_refl _) oy
  have b10 := below_on b9 hb10
  replace own2 := own_below own2 hb10
  replace oxX := own_below oxX hb10
  replace oxY := own_below oxY hb10
  replace own4 := own_below own4 hb10
  replace oy := own_base oy b9.size
  clear hb10 b9
  go_wp2_with fail
  refine (eq_ints _ _ _ _ Y _ (intsA_of oxY) (intsA_of oy) HZY.out).mono ?_
  rintro e w11 ⟨rfl, hb11⟩
  have b11 := below_on b10 hb11
  replace own2 := own_below own2 hb11
  replace oxX := own_below oxX hb11
  replace oxY := own_below oxY hb11
  replace own4 := own_below own4 hb11
  replace oy := own_below oy hb11
  clear hb11 b10
  clear oy ap_own2_oy ap_own4_oy ap_oxX_oy ap_oxY_oy ap_oy_own2 ap_oy_own4 ap_oy_oxX ap_oy_oxY
  go_wp2_with fail
  refine (markS_ints _ _ _ _ (1) _ oxX HZX.out (by omega) (by have := HZX.out; have := HZX.out; have := HZY.out; omega)).mono ?_
  rintro e w12 ⟨rfl, own_m, hg12⟩
  have b12 := b11.grown hg12 b11.size (fun k hk => (oxX.lt k hk).1)
  replace own2 := own2.kept hg12 ap_own2_oxX
  replace oxY := oxY.kept hg12 ap_oxY_oxX
  replace own4 := own4.kept hg12 ap_own4_oxX
  clear hg12 b11
  clear own_m
  clear oxX ap_own2_oxX ap_own4_oxX ap_oxX_own2 ap_oxX_own4 ap_oxX_oxY ap_oxY_oxX
  go_wp2_with fail
  refine (markS_ints _ _ _ _ (1 + (X.length : Int)) _ oxY HZY.out (by omega) (by have := HZY.out; have := HZX.out; have := HZY.out; omega)).mono ?_
  rintro e w13 ⟨rfl, own_m, hg13⟩
  have b13 := b12.grown hg13 b12.size (fun k hk => (oxY.lt k hk).1)
  replace own2 := own2.kept hg13 ap_own2_oxY
  replace own4 := own4.kept hg13 ap_own4_oxY
  clear hg13 b12
  clear own_m
  clear oxY ap_own2_oxY ap_own4_oxY ap_oxY_own2 ap_oxY_own4
  go_wp2_with fail
  refine (eq_ints _ _ _ _ L _ (intsA_of own4) (intsA_of own2) HMM.out).mono ?_
  rintro e w14 ⟨rfl, hb14⟩
  have b14 := below_on b13 hb14
  replace own2 := own_below own2 hb14
  replace own4 := own_below own4 hb14
  clear hb14 b13
  go_wp2_with fail
  refine (mark_ints _ _ _ _ _ own4 HMM.out).mono ?_
  rintro e w15 ⟨rfl, own_m, hg15⟩
  have b15 := b14.grown hg15 b14.size (fun k hk => (own4.lt k hk).1)
  replace own2 := own2.kept hg15 ap_own2_own4
  clear hg15 b14
  clear own4 ap_own2_own4 ap_own4_own2
  go_wp2_with fail
  refine (held_ints _ _ _ _ own_m HMM.out).mono ?_
  rintro e w16 ⟨rfl, rfl⟩
  go_wp2_with fail
  refine (HTX.out _ (HAX.out.step b15)).mono ?_
  rintro e w17 ⟨rfl, ozX, hb17⟩
  have ap_own2_ozX := own_apart_g own2 (Nat.le_refl _) ozX
  have ap_ozX_own2 := own_apart_g' own2 (Nat.le_refl _) ozX
  have ap_own_m_ozX := own_apart_g own_m (Nat.le_refl _) ozX
  have ap_ozX_own_m := own_apart_g' own_m (Nat.le_refl _) ozX
  have b17 := below_on b15 hb17
  replace own2 := own_below own2 hb17
  replace own_m := own_below own_m hb17
  replace ozX := own_base ozX b15.size
  clear hb17 b15
  go_wp2_with fail
  refine (HTY.out _ (HAY.out.step b17)).mono ?_
  rintro e w18 ⟨rfl, ozY, hb18⟩
  have ap_own2_ozY := own_apart_g own2 (Nat.le_refl _) ozY
  have ap_ozY_own2 := own_apart_g' own2 (Nat.le_refl _) ozY
  have ap_own_m_ozY := own_apart_g own_m (Nat.le_refl _) ozY
  have ap_ozY_own_m := own_apart_g' own_m (Nat.le_refl _) ozY
  have ap_ozX_ozY := own_apart_g ozX (Nat.le_refl _) ozY
  have ap_ozY_ozX := own_apart_g' ozX (Nat.le_refl _) ozY
  have b18 := below_on b17 hb18
  replace own2 := own_below own2 hb18
  replace own_m := own_below own_m hb18
  replace ozX := own_below ozX hb18
  replace ozY := own_base ozY b17.size
  clear hb18 b17
  go_wp2_with fail
  have psX := intsA_of ozX
  have psY := intsA_of ozY
  clear ozX ap_own2_ozX ap_own_m_ozX ap_ozX_own2 ap_ozX_own_m ap_ozX_ozY ap_ozY_ozX
  clear ozY ap_own2_ozY ap_own_m_ozY ap_ozY_own2 ap_ozY_own_m
  refine (HI.out _ _ _ _ _ psX psY b18).mono ?_
  rintro e w19 ⟨⟨L', y'⟩, v13, rfl, hL', own13, hb19⟩
  simp only at own13
  have hq := HL.out.uniq hL'
  simp only [Prod.mk.injEq] at hq
  obtain ⟨rfl, rfl⟩ := hq
  clear hL'
  have ap_own2_own13 := own_apart_g own2 (Nat.le_refl _) own13
  have ap_own13_own2 := own_apart_g' own2 (Nat.le_refl _) own13
  have ap_own_m_own13 := own_apart_g own_m (Nat.le_refl _) own13
  have ap_own13_own_m := own_apart_g' own_m (Nat.le_refl _) own13
  have b19 := below_on b18 hb19
  replace own2 := own_below own2 hb19
  replace own_m := own_below own_m hb19
  replace own13 := own_base own13 b18.size
  clear hb19 b18
  clear psX psY
  obtain ⟨_, A13, c13, rfl, -⟩ := own_ints own13
  go_wp2_with fail
  refine (eq_ints _ _ _ _ L _ (intsA_of own13) (intsA_of own2) HMM.out).mono ?_
  rintro e w20 ⟨rfl, hb20⟩
  have b20 := below_on b19 hb20
  replace own2 := own_below own2 hb20
  replace own_m := own_below own_m hb20
  replace own13 := own_below own13 hb20
  clear hb20 b19
  go_wp2_with fail
  refine (held_ints _ _ _ _ own_m HMM.out).mono ?_
  rintro e w21 ⟨rfl, rfl⟩
  go_wp2_with fail
  go_ret
  exact ⟨rfl, b20⟩
end Go.Proofs.YtnkehfhedjdhaaaDoor
