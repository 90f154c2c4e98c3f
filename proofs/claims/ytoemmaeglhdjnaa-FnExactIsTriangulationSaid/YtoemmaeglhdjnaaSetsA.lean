/-
  Maps of pairs, ranged over with entries deleted: 'crosses', the closure, maps.DeleteFunc.
-/
import Derived.Test.YtoemmaeglhdjnaaDiags
import Derived.Test.YtoemmaeglhdjnaaTri
namespace Go.Proofs.Ytoemmaeglhdjnaa
open Go.RowKit
open Go.Maps (Keyed)

/-- Block b is a map with just the keys R. -/
def MapS (w : World) (b : Nat) (R : List (Int × Int)) : Prop :=
  ∃ (D : DataW Unit) (n : Nat), w.ownsMap Try.prog 72 (plainElem Try.prog 4) b n D ∧ (∀ a c, wf64 a → wf64 c → (Maps.has D (kl a c) = true ↔ (a, c) ∈ R)) ∧ (∀ z ∈ R, wf64 z.1 ∧ wf64 z.2)
theorem MapB.keys {w : World} {b : Nat} {R : List (Int × Int)} (h : MapB w b R) : MapS w b R := by
  obtain ⟨D, h1, h2, h3, -⟩ := h
  exact ⟨D, _, h1, h2, h3⟩
theorem MapS.kept {w w' : World} {b : Nat} {R : List (Int × Int)} {row : Option Nat} (h : MapS w b R) (hg : w.grownBy w' row) (hne : some b ≠ row) : MapS w' b R := by
  obtain ⟨D, n, h1, h2⟩ := h
  exact ⟨D, n, h1.kept hg hne, h2⟩
theorem MapS.lt {w : World} {b : Nat} {R : List (Int × Int)} (h : MapS w b R) : b < w.heap.size := by
  obtain ⟨D, n, h1, _⟩ := h
  exact h1.lt
theorem MapS.perm {w : World} {b : Nat} {R R' : List (Int × Int)} (h : MapS w b R) (hp : R.Perm R') : MapS w b R' := by
  obtain ⟨D, n, h1, h2, h3⟩ := h
  exact ⟨D, n, h1, fun a c ha hc => (h2 a c ha hc).trans hp.mem_iff, fun z hz => h3 z (hp.mem_iff.2 hz)⟩
/-- A map ranged over: Rk were met and kept, Rl are left. -/
def RangeS (w : World) (b r : Nat) (Rk Rl : List (Int × Int)) (cnt : Nat) : Prop :=
  ∃ (D : DataW Unit) (n : Nat) (left : Lit → Bool), w.ranges Try.prog 72 (plainElem Try.prog 4) b r n D left cnt ∧ (∀ a c, wf64 a → wf64 c → (Maps.has D (kl a c) = true ↔ (a, c) ∈ Rk ++ Rl)) ∧ (∀ z ∈ Rk ++ Rl, wf64 z.1 ∧ wf64 z.2) ∧ (∀ a c, wf64 a → wf64 c → (left (kl a c) = true ↔ (a, c) ∈ Rl)) ∧ (Rk ++ Rl).Nodup
theorem RangeS.map {w : World} {b r : Nat} {Rk Rl : List (Int × Int)} {cnt : Nat} (h : RangeS w b r Rk Rl cnt) : MapS w b (Rk ++ Rl) := by
  obtain ⟨D, n, left, h1, h2, h3, -⟩ := h
  exact ⟨D, n, h1.owns, h2, h3⟩
theorem RangeS.kept {w w' : World} {b r : Nat} {Rk Rl : List (Int × Int)} {cnt : Nat} {row : Option Nat} (h : RangeS w b r Rk Rl cnt) (hg : w.grownBy w' row) (hb : some b ≠ row) (hr : some r ≠ row) : RangeS w' b r Rk Rl cnt := by
  obtain ⟨D, n, left, h1, h2⟩ := h
  exact ⟨D, n, left, h1.kept hg hb hr, h2⟩
theorem RangeS.left {w : World} {b r : Nat} {Rk Rl : List (Int × Int)} {cnt : Nat} (h : RangeS w b r Rk Rl cnt) : w.rangeLeft b r = cnt := by
  obtain ⟨D, n, left, h1, -⟩ := h
  exact h1.left_eq
theorem RangeS.ltr {w : World} {b r : Nat} {Rk Rl : List (Int × Int)} {cnt : Nat} (h : RangeS w b r Rk Rl cnt) : r < w.heap.size := by
  obtain ⟨D, n, left, h1, -⟩ := h
  exact h1.lt
theorem RangeS.ltb {w : World} {b r : Nat} {Rk Rl : List (Int × Int)} {cnt : Nat} (h : RangeS w b r Rk Rl cnt) : b < w.heap.size := h.map.lt
theorem RangeS.apart {w : World} {b r : Nat} {Rk Rl : List (Int × Int)} {cnt : Nat} (h : RangeS w b r Rk Rl cnt) : r ≠ b := by
  obtain ⟨D, n, left, h1, -⟩ := h
  exact h1.ne
theorem rangeS_start {w : World} {b r : Nat} {R : List (Int × Int)} {D : DataW Unit} {n cnt : Nat} (hn : R.Nodup) (h2 : ∀ a c, wf64 a → wf64 c → (Maps.has D (kl a c) = true ↔ (a, c) ∈ R)) (h3 : ∀ z ∈ R, wf64 z.1 ∧ wf64 z.2)
    (h : w.ranges Try.prog 72 (plainElem Try.prog 4) b r n D (Maps.has D) cnt) : RangeS w b r [] R cnt := ⟨D, n, _, h, h2, h3, h2, hn⟩
theorem kl_ne {a c x y : Int} (ha : wf64 a) (hc : wf64 c) (hx : wf64 x) (hy : wf64 y) (h : (a, c) ≠ (x, y)) : kl a c ≠ kl x y := fun q => h (by obtain ⟨rfl, rfl⟩ := kl_inj ha hc hx hy q; rfl)
theorem nodup_split {Rk Rl : List (Int × Int)} {z : Int × Int} (h : (Rk ++ Rl).Nodup) (hz : z ∈ Rl) : ((Rk ++ [z]) ++ Rl.erase z).Nodup ∧ z ∉ Rk ∧ (Rk ++ Rl).Perm ((Rk ++ [z]) ++ Rl.erase z) := by
  have hp : (Rk ++ Rl).Perm ((Rk ++ [z]) ++ Rl.erase z) := by
    rw [List.append_assoc]
    exact (List.perm_cons_erase hz).append_left Rk
  refine ⟨hp.nodup_iff.1 h, fun hk => ?_, hp⟩
  exact (List.nodup_append.1 h).2.2 z hk z hz rfl
/-- Left keys after a key was met. -/
theorem left_struck {left : Lit → Bool} {Rl : List (Int × Int)} {x y : Int} (hx : wf64 x) (hy : wf64 y) (hn : Rl.Nodup) (hl : ∀ a c, wf64 a → wf64 c → (left (kl a c) = true ↔ (a, c) ∈ Rl)) :
    ∀ a c, wf64 a → wf64 c → ((left (kl a c) && !(kl a c).sameKey (kl x y)) = true ↔ (a, c) ∈ Rl.erase (x, y)) := fun a c ha hc => by
  rw [hn.mem_erase_iff, Bool.and_eq_true, hl a c ha hc]
  by_cases e : (a, c) = (x, y)
  · simp only [Prod.mk.injEq] at e
    obtain ⟨rfl, rfl⟩ := e
    have : (kl a c).sameKey (kl a c) = true := by
      show (keyBytes _ == keyBytes _) = true
      exact beq_self_eq_true _
    rw [this]
    exact ⟨fun q => absurd q.2 Bool.false_ne_true, fun q => absurd rfl q.1⟩
  · rw [Maps.sameKey_ne (kl_ne ha hc hx hy e)]
    simp only [ne_eq, e, not_false_eq_true, true_and, Bool.not_false, and_true]
theorem plain_bool_inv {P : Program} {e : TypeId} (he : P.underlying e = some .bool) {v : Value} {z : DataW Unit × List MemPlace} (h : plainElem P e v = some z) : ∃ b, v = .bool b ∧ z = (.lit (.bool b), []) := by
  unfold plainElem at h
  rw [he] at h
  cases v <;> simp at h
  exact ⟨_, rfl, h.symm⟩
/-- A key of the map. -/
def prV (z : Int × Int) : Value := (.agg #[.int .i64 z.1, .int .i64 z.2])
theorem prV_inv (key : Value) (l : Lit) (h : keyOf Try.prog 72 key = some l) : ∃ z, key = prV z := by
  obtain ⟨a, b, rfl, -⟩ := pr_inv h
  exact ⟨(a, b), rfl⟩
theorem elem_inv (v : Value) (z : DataW Unit × List MemPlace) (h : plainElem Try.prog 4 v = some z) : ∃ b, v = Value.bool b := by
  obtain ⟨b, rfl, -⟩ := plain_bool_inv Try.underlying4 h
  exact ⟨b, rfl⟩
/-- THE STEP of a range, as a law at the operation. -/
theorem step_next {ops : Array Oper} {rest : List Oper} {o : Oper} {a : Act} {Q : Exit → Act → World → Prop} (w : World) (hg : o.guard = none) (it : Operand) (hop : o.op = Op.next it false) (b r : Nat) (Rk Rl : List (Int × Int)) (cnt : Nat)
    (hit : a.eval it = .pointer (some ⟨r, 0, none⟩)) (h : RangeS w b r Rk Rl cnt)
    (hDone : Rl = [] → wpList Try.prog ops Q rest (a.put o.dst (.tuple #[.bool false])) w)
    (hMore : ∀ (x y : Int) (c : Value) (w' : World) (cnt' : Nat), (x, y) ∈ Rl → wf64 x → wf64 y → RangeS w' b r (Rk ++ [(x, y)]) (Rl.erase (x, y)) cnt' → cnt' < cnt → w.grownBy w' (some r) →
      (Instr.entry (.pointer (some ⟨r, 0, none⟩))).run Try.prog w' = .ok (.tuple #[(.agg #[.int .i64 x, .int .i64 y]), c]) w' → wpList Try.prog ops Q rest (a.put o.dst (.tuple #[.bool true, (.agg #[.int .i64 x, .int .i64 y]), c])) w') :
    wpList Try.prog ops Q (o :: rest) a w := by
  obtain ⟨D, n, left, h1, h2, h3, h4, h5⟩ := h
  refine wpList_next_ranges w hg it hop 72 pr_keyed (plainElem Try.prog 4) prV Value.bool prV_inv elem_inv b r n D left cnt hit h1 (fun _ hl => hDone ?_) ?_
  · cases Rl with
    | nil => rfl
    | cons z R =>
      obtain ⟨a1, a2⟩ := h3 z (by simp)
      have := (h4 z.1 z.2 a1 a2).2 (by simp)
      rw [hl] at this
      cases this
  · rintro ⟨x, y⟩ c l yd w' cnt' hk hl hv hat hr hlt hgr hsz hen
    obtain ⟨x', y', e, rfl, hx, hy⟩ := pr_inv hk
    have e' : x = x' ∧ y = y' := by simpa [prV] using e
    obtain ⟨rfl, rfl⟩ := e'
    have hm := (h4 x y hx hy).1 hl
    obtain ⟨n1, n2, n3⟩ := nodup_split h5 hm
    have hnl : Rl.Nodup := (List.nodup_append.1 h5).2.1
    exact hMore x y (.bool c) w' cnt' hm hx hy ⟨D, n, _, hr, fun a c ha hc => (h2 a c ha hc).trans n3.mem_iff, fun z hz => h3 z (n3.mem_iff.2 hz), left_struck hx hy hnl h4, n1⟩ hlt hgr hen
/-- 'delete' of the key that was just met, as a law at the operation. -/
theorem step_delete {ops : Array Oper} {rest : List Oper} {o : Oper} {a : Act} {Q : Exit → Act → World → Prop} (w : World) (hg : o.guard = none) (m x : Operand) (hop : o.op = Op.call { callee := Callee.builtin Builtin.delete, args := #[m, x], argTypes := #[61, 72] })
    (b r : Nat) (Rk Rl : List (Int × Int)) (cnt : Nat) (p q : Int) (hp : wf64 p) (hq : wf64 q) (hm : a.eval m = .map (some b)) (h : RangeS w b r (Rk ++ [(p, q)]) Rl cnt) (hx : a.eval x = (.agg #[.int .i64 p, .int .i64 q]))
    (hK : ∀ w' cnt', RangeS w' b r Rk Rl cnt' → cnt' ≤ cnt → w.grownBy w' (some b) → wpList Try.prog ops Q rest (a.put o.dst (.tuple #[])) w') :
    wpList Try.prog ops Q (o :: rest) a w := by
  obtain ⟨D, n, left, h1, h2, h3, h4, h5⟩ := h
  refine wpList_delete_ranges w hg m x 61 72 hop 4 pr_keyed Try.underlying61 _ b r n D left cnt hm h1 (.agg #[.int .i64 p, .int .i64 q]) (kl p q) hx (pr_key hp hq) ?_
  intro w' cnt' hr hle ht
  have hk := pr_keyed.key (pr_key hp hq)
  have hmem : ∀ z, z ∈ Rk ++ Rl ↔ z ∈ (Rk ++ [(p, q)]) ++ Rl ∧ z ≠ (p, q) := fun z => by
    have hnd := h5
    rw [List.append_assoc] at hnd
    have g1 : (p, q) ∉ Rk := fun hh => (List.nodup_append.1 hnd).2.2 _ hh _ (by simp) rfl
    have g2 : (p, q) ∉ Rl := (List.nodup_cons.1 (List.nodup_append.1 hnd).2.1).1
    simp only [List.mem_append, List.mem_singleton]
    constructor
    · rintro (hz | hz)
      · exact ⟨Or.inl (Or.inl hz), fun e => g1 (e ▸ hz)⟩
      · exact ⟨Or.inr hz, fun e => g2 (e ▸ hz)⟩
    · rintro ⟨(hz | hz) | hz, hne⟩
      · exact Or.inl hz
      · exact absurd hz hne
      · exact Or.inr hz
  refine hK w' cnt' ⟨_, n, _, hr, ?_, ?_, ?_, ?_⟩ hle ht.grown
  · intro a' c' ha hc
    rw [hmem]
    by_cases e : (a', c') = (p, q)
    · simp only [Prod.mk.injEq] at e
      obtain ⟨rfl, rfl⟩ := e
      rw [Maps.has_del_same]
      simp
    · rw [Maps.has_del_other (kl_ne ha hc hp hq e), h2 a' c' ha hc]
      simp only [ne_eq, e, not_false_eq_true, and_true]
  · exact fun z hz => h3 z ((hmem z).1 hz).1
  · intro a' c' ha hc
    rw [Bool.and_eq_true, h4 a' c' ha hc]
    constructor
    · exact fun hh => hh.1
    · refine fun hh => ⟨hh, ?_⟩
      have : (a', c') ≠ (p, q) := ((hmem _).1 (List.mem_append_right _ hh)).2
      rw [Maps.sameKey_ne (kl_ne ha hc hp hq this)]; rfl
  · exact h5.sublist (List.Sublist.append_right (List.sublist_append_left _ _) _)
end Go.Proofs.Ytoemmaeglhdjnaa
