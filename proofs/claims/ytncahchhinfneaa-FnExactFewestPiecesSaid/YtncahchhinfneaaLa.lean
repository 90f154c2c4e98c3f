/-
  Walks and facts of this seat, part La (merged by a script of this repo out of smaller texts).
-/
import Derived.Test.YtncahchhinfneaaKd
import Derived.RangeFuncNested
import Derived.RangeFuncLeaves
import Derived.Maps.AppendAt
import Derived.WalkKit
import Derived.OwnWalkIn
import Derived.TacticsInMore
import Derived.Laws.EntriesVeiled
import Derived.Deep.CutBlock
/-! Give9 -/
namespace Go.Proofs.Ytncahchhinfneaa
open Go.RowKit

/-- The types of what the iterators over lists of ints write: ints, slices of ints, and their closures. -/
def ownT (t : TypeId) : Prop := t = 3 ∨ t = 43 ∨ t = 76 ∨ t = 92 ∨ t = 203
/-- A block of another type: no iterator over lists of ints writes it. -/
def ForeignO (o : Option Obj) : Prop := ∃ cs t fr, o = some (.cells cs t fr) ∧ ¬ ownT t
theorem box_nf {W : World} {p : Nat} {t : TypeId} {v : Value} (hb : Boxed W p t v) (ht : ownT t) : ¬ ForeignO W.heap[p]? := fun ⟨cs, t', fr, h1, h2⟩ => by
  have h4 : W.heap[p]? = some (.cells #[v] t (0, 0)) := hb
  rw [h4] at h1
  simp only [Option.some.injEq, Obj.cells.injEq] at h1
  exact h2 (by rw [← h1.2.1]; exact ht)
theorem row_nf {W : World} {B n g : Nat} {v : Value} {xs : List Value} (ow : W.ownsRow B 3 1 v n xs) (hg : v.ownBlock = some g) : ¬ ForeignO W.heap[g]? := fun ⟨cs, t, fr, h1, h2⟩ => by
  rcases ow.2 with ⟨h3, _⟩ | ⟨g', cap, cur, hv, _, hh, _⟩
  · subst h3; cases hg
  · subst hv
    have e' : g' = g := by simpa [Value.ownBlock] using hg
    subst e'
    rw [hh] at h1
    simp only [Option.some.injEq, Obj.cells.injEq] at h1
    exact h2 (by rw [← h1.2.1]; exact .inl rfl)
theorem no_foreign {W : World} {l : Nat} {o : Obj} (h : W.heap[l]? = some o) (ho : ∀ cs t fr, o ≠ .cells cs t fr) : ¬ ForeignO W.heap[l]? := fun ⟨cs, t, fr, h1, _⟩ => by
  rw [h] at h1
  exact ho cs t fr (Option.some.inj h1)
/-- What an iterator keeps between two rounds: all that lay below B, the blocks of G, and whatever is foreign to it. -/
structure KeepG (B : Nat) (G : Nat → Prop) (W W' : World) : Prop where
  os : W'.os = W.os
  tape : W'.tape = W.tape
  output : W'.output = W.output
  size : W.heap.size ≤ W'.heap.size
  block : ∀ k, k < W.heap.size → (k < B ∨ G k) → W'.heap[k]? = W.heap[k]?
  foreign : ∀ k, k < W.heap.size → ForeignO W.heap[k]? → W'.heap[k]? = W.heap[k]?
theorem KeepG.refl (B : Nat) (G : Nat → Prop) (W : World) : KeepG B G W W := ⟨rfl, rfl, rfl, Nat.le_refl _, fun _ _ _ => rfl, fun _ _ _ => rfl⟩
theorem KeepG.trans {B : Nat} {G : Nat → Prop} {X Y Z : World} (h : KeepG B G X Y) (k : KeepG B G Y Z) : KeepG B G X Z :=
  ⟨k.os.trans h.os, k.tape.trans h.tape, k.output.trans h.output, Nat.le_trans h.size k.size, fun i hi hg => (k.block i (Nat.lt_of_lt_of_le hi h.size) hg).trans (h.block i hi hg), fun i hi hf => (k.foreign i (Nat.lt_of_lt_of_le hi h.size) (by rw [h.foreign i hi hf]; exact hf)).trans (h.foreign i hi hf)⟩
theorem KeepG.less {B B' : Nat} {G : Nat → Prop} {W W' : World} (h : KeepG B' G W W') (hB : B ≤ B') : KeepG B G W W' :=
  ⟨h.os, h.tape, h.output, h.size, fun k hk hg => h.block k hk (hg.imp (fun h => Nat.lt_of_lt_of_le h hB) id), h.foreign⟩
theorem KeepG.of_below {B : Nat} {G : Nat → Prop} {W W' : World} (h : Below W.heap.size W W') : KeepG B G W W' := ⟨h.os, h.tape, h.output, h.size, fun k hk _ => h.block k hk, fun k hk _ => h.block k hk⟩
theorem KeepG.alloc (B : Nat) (G : Nat → Prop) (W : World) (o : Obj) : KeepG B G W (W.alloc o) := KeepG.of_below ((Below.refl _ W).alloc (Nat.le_refl _) o)
theorem KeepG.putObj {B : Nat} {G : Nat → Prop} (W : World) (l : Nat) (o : Obj) (hB : B ≤ l) (hG : ¬ G l) (hF : ¬ ForeignO W.heap[l]?) : KeepG B G W (W.putObj l o) :=
  ⟨rfl, rfl, rfl, by simp, fun k _ hg => World.putObj_heap_other (fun e => by subst e; exact hg.elim (fun h => absurd h (by omega)) hG), fun k _ hf => World.putObj_heap_other (fun e => by subst e; exact hF hf)⟩
/-- A round's word: all but the blocks of T lie as they lay. -/
structure ButT (T : Nat → Prop) (W W' : World) : Prop where
  size : W.heap.size ≤ W'.heap.size
  block : ∀ k, k < W.heap.size → ¬ T k → ¬ ForeignO W.heap[k]? → W'.heap[k]? = W.heap[k]?
theorem ButT.refl (T : Nat → Prop) (W : World) : ButT T W W := ⟨Nat.le_refl _, fun _ _ _ _ => rfl⟩
theorem ButT.trans {T : Nat → Prop} {X Y Z : World} (h : ButT T X Y) (k : ButT T Y Z) : ButT T X Z := ⟨Nat.le_trans h.size k.size, fun i hi ht hf => (k.block i (Nat.lt_of_lt_of_le hi h.size) ht (by rw [h.block i hi ht hf]; exact hf)).trans (h.block i hi ht hf)⟩
theorem ButT.more {T T' : Nat → Prop} {W W' : World} (h : ButT T W W') (hT : ∀ k, T k → T' k) : ButT T' W W' := ⟨h.size, fun k hk ht hf => h.block k hk (fun h => ht (hT k h)) hf⟩
theorem ButT.of_below {T : Nat → Prop} {W W' : World} (h : Below W.heap.size W W') : ButT T W W' := ⟨h.size, fun k hk _ _ => h.block k hk⟩
theorem ButT.putObj {T : Nat → Prop} (W : World) (l : Nat) (o : Obj) (hT : T l) : ButT T W (W.putObj l o) := ⟨by simp, fun _ _ ht _ => World.putObj_heap_other (fun e => ht (by rw [e]; exact hT))⟩
theorem ButT.setCell {T : Nat → Prop} {X W : World} (h : ButT T X W) {p : Addr} (hT : T p.block) (v : Value) : ButT T X (W.setCell p v) :=
  ⟨by rw [show (W.setCell p v).heap.size = W.heap.size from by show (W.heap.modify _ _).size = _; rw [Array.size_modify]]; exact h.size, fun k hk ht hf => (Below.heap_setCell W p v k (fun e => ht (by rw [e]; exact hT))).trans (h.block k hk ht hf)⟩
def AbG (B : Nat) (J : List Rw → World → Prop) : Prop := ∀ s W W', J s W → KeepG B (fun k => ∃ x ∈ s, x.g = k) W W' → J s W'
theorem AbG.less {B B' : Nat} {J : List Rw → World → Prop} (h : AbG B J) (hB : B ≤ B') : AbG B' J := fun s W W' hs hk => h s W W' hs (hk.less hB)
/-- A list lies in a block of its own. -/
def RowAt (W : World) (x : Rw) : Prop := W.ownsRow 0 3 1 (hdr x) x.M.length (ints x.M)
theorem RowAt.lt {W : World} {x : Rw} (h : RowAt W x) : x.g < W.heap.size := (World.ownsRow.lt h x.g rfl).2
theorem RowAt.on {W W' : World} {x : Rw} (h : RowAt W x) (hb : W'.heap[x.g]? = W.heap[x.g]?) : RowAt W' x := by
  rcases h.2 with ⟨h1, _⟩ | ⟨g, cap, cur, hv, hg, hh, hr⟩
  · cases h1
  · have : x.g = g := by
      have := congrArg Value.ownBlock hv
      simpa [hdr, Value.ownBlock] using this
    subst this
    exact ⟨h.1, .inr ⟨x.g, cap, cur, hv, hg, hb.trans hh, hr⟩⟩
theorem RowAt.below {W W' : World} {x : Rw} (h : RowAt W x) (hb : Below W.heap.size W W') : RowAt W' x := h.on (hb.block _ h.lt)
theorem RowAt.ints {W : World} {x : Rw} (h : RowAt W x) : IntsA W (some ⟨x.g, 0, none⟩) x.M := intsA_of h
/-- A new list that a round is handed. -/
structure NewRow (S : List (List Int)) (B : Nat) (pre : List Rw) (x : Rw) (W : World) : Prop where
  at_ : RowAt W x
  next : pre.map Rw.M ++ [x.M] <+: S
  far : B ≤ x.g
  apart : ∀ y ∈ pre, y.g ≠ x.g

/-- **The contract of such an iterator**: the value '.func (.func g) #[] lb', made in w0; S: the lists that it hands to its rounds, in that order; Cp: the blocks that it must find as they were. -/
def SeqG (P : Program) (gf : Nat) (lb : Array Value) (S : List (List Int)) (Cp : Nat → Prop) (w0 : World) : Prop :=
  ∀ (l : Nat) (T : Nat → Prop) (J Jx : List Rw → World → Prop) (W : World), Below w0.heap.size w0 W → (∀ b, T b → b < W.heap.size) → (∀ b, Cp b → ¬ T b) → AbG W.heap.size J → AbG W.heap.size Jx →
    (∀ m pre x W1, J pre W1 → NewRow S W.heap.size pre x W1 → YieldAt Fence.wide m P l #[hdr x] W1 fun e W' =>
      (e = .returned (.bool true) ∧ J (pre ++ [x]) W' ∧ ButT T W1 W') ∨ (e = .returned (.bool false) ∧ Jx (pre ++ [x]) W' ∧ ButT T W1 W')) →
    J [] W →
    ∀ n, CallsIn Fence.wide n P gf (#[.func (.yield l) #[] #[]] ++ lb) W fun e W' => (∃ v, e = .returned v) ∧ ((∃ ys, ys.map Rw.M = S ∧ J ys W') ∨ (∃ pre, pre.map Rw.M <+: S ∧ Jx pre W'))

/-- Where a body's walk ends. -/
def postG (T : Nat → Prop) (I : List Rw → World → Prop) (Ix : Code → List Rw → World → Prop) (xs : List Rw) (W : World) : Exit → Act → World → Prop
  | .normal, _, W' => ButT T W W' ∧ I xs W'
  | .ret, _, W' => ButT T W W' ∧ Ix .ret xs W'
  | .exit id, _, W' => ButT T W W' ∧ Ix (.exit id) xs W'
  | .goto t, _, W' => ButT T W W' ∧ Ix (.goto t) xs W'
  | .panic _, _, _ => False
  | .outgrown, _, _ => False

variable {P : Program}
/-- **The loop over such an iterator.** -/
theorem wpIn_rangeG {g : Operand} {ps : Array Tmp} {assign body : Code} {Q : Exit → Act → World → Prop} {a : Act} {w : World} {n : Nat} (h1 : 1 ≤ n)
    {gf : Nat} {lb : Array Value} (hg : a.eval g = .func (.func gf) #[] lb) (eg : ∀ args w, (callFunc gf args).run P w = .ok (.enter gf args) w)
    {S : List (List Int)} {Cp : Nat → Prop} {w0 : World} (hseq : SeqG P gf lb S Cp w0) (hb0 : Below w0.heap.size w0 w) (hps : ps.size = 1)
    (T : Nat → Prop) (hT : ∀ b, T b → b < w.heap.size) (hC : ∀ b, Cp b → ¬ T b ∧ b < w.heap.size)
    (I : List Rw → World → Prop) (Ix : Code → List Rw → World → Prop) (hI : AbG w.heap.size I) (hIx : ∀ c, AbG w.heap.size (Ix c)) (h0 : I [] w) (a₁ : Rw → Act)
    (hassign : ∀ (l : Nat) (x : Rw) (W : World) (K : Act → World → Prop), K (a₁ x) W →
      assign.wpIn (Fence.wide.inRound l) (n - 1 - 1) P (Exit.then K (fun _ _ _ => False)) { tmps := (ps.zip #[hdr x]).foldl (fun t (p, v) => t.setIfInBounds p v) a.tmps, defers := [] } W)
    (hbody : ∀ (l : Nat) (pre : List Rw) (x : Rw) (W : World), I pre W → NewRow S (w.heap.size + 2) pre x W → (∀ y ∈ pre, w.heap.size + 2 ≤ y.g) → (l = w.heap.size + 1 ∧ l < W.heap.size) →
      body.wpIn (Fence.wide.inRound l) (n - 1 - 1) P (postG T I Ix (pre ++ [x]) W) (a₁ x) W)
    (hdone : ∀ (D : Nat) (xs : List Rw) (W : World), D = w.heap.size → xs.map Rw.M = S → I xs W → W.heap[D]? = some (.deferred (some [])) → Q .normal { a with defers := { target := .collected D, args := #[] } :: a.defers } W)
    (hstop : ∀ (D : Nat) (c : Code) (pre : List Rw) (W : World), D = w.heap.size → pre.map Rw.M <+: S → Ix c pre W → W.heap[D]? = some (.deferred (some [])) → c.wpIn Fence.wide n P Q { a with defers := { target := .collected D, args := #[] } :: a.defers } W) :
    (Code.rangeFunc g ps assign body).wpIn Fence.wide n P Q a w := by
  refine wpIn_rangeFunc ?_
  intro fn hfn
  obtain ⟨D, hD⟩ : ∃ D, D = w.heap.size := ⟨_, rfl⟩
  obtain ⟨rc, hrc⟩ : ∃ rc : LoopState → Option Code → Loop, rc = fun st pe => { state := st, pending := pe, fn, tmps := a.tmps, params := ps, assign, body, defers := D } := ⟨_, rfl⟩
  obtain ⟨W1, hW1⟩ : ∃ W1, W1 = (w.alloc (.deferred (some []))).alloc (.loop (rc .ready none)) := ⟨_, rfl⟩
  have hs1 : W1.heap.size = D + 2 := by rw [hW1, hD]; simp
  have hbl : Below w.heap.size w W1 := by rw [hW1]; exact ((Below.refl _ w).alloc (Nat.le_refl _) _).alloc (by simp) _
  have hL : W1.heap[D + 1]? = some (.loop (rc .ready none)) := by
    have := World.alloc_heap_new (w.alloc (.deferred (some []))) (.loop (rc .ready none))
    rw [World.size_alloc] at this
    rw [hW1, hD]; exact this
  have hK : W1.heap[D]? = some (.deferred (some [])) := by
    rw [hW1, hD]; exact (Below.heap_alloc _ _ _ (by simp)).trans (World.alloc_heap_new w _)
  have hI1 : I [] W1 := hI _ _ _ h0 (KeepG.of_below hbl)
  refine ⟨D + 1, [{ target := .collected D, args := #[] }], W1, { target := .fn (.func gf) lb, args := #[.func (.yield (D + 1)) #[] #[]] }, W1, gf, #[.func (.yield (D + 1)) #[] #[]] ++ lb, W1, ?_, ?_, ?_, ?_, fun _ => h1, ?_⟩
  · rw [hW1, hrc, hD]; exact run_enterLoop_outer _ _ _ _ _
  · simp only [resolve, hg]
    simp [go_sem]
  · intro f' hf'; trivial
  · simp [invoke, go_sem, eg]
  · -- the two blocks of the loop's own, beside the caller's invariant
    obtain ⟨Bk, hBk⟩ : ∃ Bk : List Rw → World → Prop, Bk = fun pre W => W.heap[D]? = some (.deferred (some [])) ∧ ∀ y ∈ pre, D + 2 ≤ y.g := ⟨_, rfl⟩
    have keep2 : ∀ {pre : List Rw} {X Y : World}, KeepG W1.heap.size (fun k => ∃ x ∈ pre, x.g = k) X Y → ∀ k o, k < D + 2 → X.heap[k]? = some o → Y.heap[k]? = some o := fun hk k o hlt ho => (hk.block k (Array.getElem?_eq_some_iff.1 ho).1 (.inl (by rw [hs1]; exact hlt))).trans ho
    have put2 : ∀ {pre : List Rw} (X : World) (o : Obj) (L : Loop), X.heap[D + 1]? = some (.loop L) → (∀ y ∈ pre, D + 2 ≤ y.g) → KeepG w.heap.size (fun k => ∃ x ∈ pre, x.g = k) X (X.putObj (D + 1) o) := fun X o L hX hy => KeepG.putObj X _ o (by omega) (fun ⟨x, hx, e⟩ => by have := hy x hx; omega) (no_foreign hX (fun _ _ _ e => by cases e))
    refine (hseq (D + 1) (fun b => T b ∨ b = D + 1)
      (fun pre W => I pre W ∧ W.heap[D + 1]? = some (.loop (rc .ready none)) ∧ Bk pre W)
      (fun pre W => ∃ c, Ix c pre W ∧ W.heap[D + 1]? = some (.loop (rc .done (some c))) ∧ Bk pre W)
      W1 (hb0.trans (hbl.mono hb0.size)) (fun b hb => hb.elim (fun h => by have := hT b h; omega) (fun h => by omega)) (fun b hb hn => hn.elim (hC b hb).1 (fun h => by have := (hC b hb).2; omega))
      (fun s X Y hs hk => ⟨hI _ _ _ hs.1 (hk.less hbl.size), keep2 hk _ _ (by omega) hs.2.1, by
        have := hs.2.2
        rw [hBk] at this ⊢
        exact ⟨keep2 hk _ _ (by omega) this.1, this.2⟩⟩)
      (fun s X Y hs hk => by
        obtain ⟨c, q1, q2, q3⟩ := hs
        rw [hBk] at q3
        exact ⟨c, hIx c _ _ _ q1 (hk.less hbl.size), keep2 hk _ _ (by omega) q2, by rw [hBk]; exact ⟨keep2 hk _ _ (by omega) q3.1, q3.2⟩⟩)
      ?_ ⟨hI1, hL, by rw [hBk]; exact ⟨hK, fun y hy => by cases hy⟩⟩ (n - 1)).mono ?_
    · rintro m pre x W ⟨hi, hl, hk⟩ hx
      rw [hBk] at hk
      obtain ⟨hk, hyg⟩ := hk
      have hxg : D + 2 ≤ x.g := by rw [← hs1]; exact hx.far
      have hlt : D + 1 < W.heap.size := (Array.getElem?_eq_some_iff.1 hl).1
      have hy := run_yield (P := P) (args := #[hdr x]) hl (by rw [hrc]; exact hps.symm)
      have hr : RoundIn Fence.wide (n - 1 - 1) P (D + 1) fn ((ps.zip #[hdr x]).foldl (fun t (p, v) => t.setIfInBounds p v) a.tmps) assign body W (fun e W' => (e = .returned (.bool true) ∧ (I (pre ++ [x]) W' ∧ W'.heap[D + 1]? = some (.loop (rc .ready none)) ∧ Bk (pre ++ [x]) W') ∧ ButT (fun b => T b ∨ b = D + 1) W W') ∨ (e = .returned (.bool false) ∧ (∃ c, Ix c (pre ++ [x]) W' ∧ W'.heap[D + 1]? = some (.loop (rc .done (some c))) ∧ Bk (pre ++ [x]) W') ∧ ButT (fun b => T b ∨ b = D + 1) W W')) := by
        refine roundIn_of_wpIn hfn (hassign _ x W _ ?_)
        refine ⟨_, run_beginRound hl (by rw [hrc]), ?_⟩
        obtain ⟨W2, hW2⟩ : ∃ W2, W2 = W.putObj (D + 1) (.loop { rc .ready none with state := .busy }) := ⟨_, rfl⟩
        rw [← hW2]
        have b2 : ButT (fun b => T b ∨ b = D + 1) W W2 := by rw [hW2]; exact ButT.putObj _ _ _ (.inr rfl)
        have i2 : I pre W2 := by rw [hW2]; exact hI _ _ _ hi (put2 W _ _ hl hyg)
        have l2 : W2.heap[D + 1]? = some (.loop { rc .ready none with state := .busy }) := by rw [hW2]; exact World.putObj_heap_same hlt
        have k2 : W2.heap[D]? = some (.deferred (some [])) := by rw [hW2]; exact (World.putObj_heap_other (by omega)).trans hk
        have x2 : NewRow S (w.heap.size + 2) pre x W2 := ⟨hx.at_.on (by rw [hW2]; exact World.putObj_heap_other (by omega)), hx.next, by omega, hx.apart⟩
        have hs2 : D + 1 < W2.heap.size := (Array.getElem?_eq_some_iff.1 l2).1
        refine wpIn_mono (hbody (D + 1) pre x W2 i2 x2 (fun y hy => by have := hyg y hy; omega) ⟨by omega, hs2⟩) ?_
        have hyg2 : ∀ y ∈ pre ++ [x], D + 2 ≤ y.g := fun y hy => by
          rcases List.mem_append.1 hy with h | h
          · exact hyg y h
          · simp only [List.mem_singleton] at h; rw [h]; exact hxg
        have l3f : ∀ W3, ButT T W2 W3 → W3.heap[D + 1]? = some (.loop { rc .ready none with state := .busy }) := fun W3 hb => (hb.block _ hs2 (fun h => by have := hT _ h; omega) (no_foreign l2 (fun _ _ _ e => by cases e))).trans l2
        have fin : ∀ (jump : Option Code) (W3 : World), ButT T W2 W3 →
            (Instr.endRound (D + 1) jump).run P W3 = .ok (.bool jump.isNone) (W3.putObj (D + 1) (.loop (rc (if jump.isNone then .ready else .done) jump))) ∧
            (W3.putObj (D + 1) (.loop (rc (if jump.isNone then .ready else .done) jump))).heap[D + 1]? = some (.loop (rc (if jump.isNone then .ready else .done) jump)) ∧
            Bk (pre ++ [x]) (W3.putObj (D + 1) (.loop (rc (if jump.isNone then .ready else .done) jump))) := fun jump W3 hb => by
          have l3 := (hb.block _ hs2 (fun h => by have := hT _ h; omega) (no_foreign l2 (fun _ _ _ e => by cases e))).trans l2
          have k3 := (hb.block D (by omega) (fun h => by have := hT _ h; omega) (no_foreign k2 (fun _ _ _ e => by cases e))).trans k2
          have e := run_endRound (P := P) jump l3
          refine ⟨?_, World.putObj_heap_same (Array.getElem?_eq_some_iff.1 l3).1, ?_⟩
          · rw [hrc] at e ⊢; exact e
          · rw [hBk]; exact ⟨(World.putObj_heap_other (by omega)).trans k3, hyg2⟩
        rintro e a3 W3 hp
        cases e with
        | normal =>
          obtain ⟨hb3, hi3⟩ := hp
          obtain ⟨e1, e2, e3⟩ := fin none W3 hb3
          exact ⟨_, _, e1, .inl ⟨rfl, ⟨hI _ _ _ hi3 (put2 W3 _ _ (l3f W3 hb3) hyg2), e2, e3⟩, b2.trans ((hb3.more fun _ h => .inl h).trans (ButT.putObj _ _ _ (.inr rfl)))⟩⟩
        | ret =>
          obtain ⟨hb3, hi3⟩ := hp
          obtain ⟨e1, e2, e3⟩ := fin (some .ret) W3 hb3
          exact ⟨_, _, e1, .inr ⟨rfl, ⟨.ret, hIx _ _ _ _ hi3 (put2 W3 _ _ (l3f W3 hb3) hyg2), e2, e3⟩, b2.trans ((hb3.more fun _ h => .inl h).trans (ButT.putObj _ _ _ (.inr rfl)))⟩⟩
        | exit id =>
          obtain ⟨hb3, hi3⟩ := hp
          obtain ⟨e1, e2, e3⟩ := fin (some (.exit id)) W3 hb3
          exact ⟨_, _, e1, .inr ⟨rfl, ⟨.exit id, hIx _ _ _ _ hi3 (put2 W3 _ _ (l3f W3 hb3) hyg2), e2, e3⟩, b2.trans ((hb3.more fun _ h => .inl h).trans (ButT.putObj _ _ _ (.inr rfl)))⟩⟩
        | goto t =>
          obtain ⟨hb3, hi3⟩ := hp
          obtain ⟨e1, e2, e3⟩ := fin (some (.goto t)) W3 hb3
          exact ⟨_, _, e1, .inr ⟨rfl, ⟨.goto t, hIx _ _ _ _ hi3 (put2 W3 _ _ (l3f W3 hb3) hyg2), e2, e3⟩, b2.trans ((hb3.more fun _ h => .inl h).trans (ButT.putObj _ _ _ (.inr rfl)))⟩⟩
        | panic ch => exact hp.elim
        | outgrown => exact hp.elim
      refine ⟨fn, _, assign, body, by rw [hy, hrc], ⟨hr.1, fun c cs _ => hr.2 c cs (fun d h => by cases h)⟩⟩
    · rintro e W2 ⟨⟨v, rfl⟩, (⟨xs, hS, hi, hl, hk⟩ | ⟨pre, hSp, c, hi, hl, hk⟩)⟩
      · rw [hBk] at hk
        refine ⟨none, _, by have := run_endLoop (P := P) hl (by rw [hrc]; simp); rw [hrc] at this; exact this, ?_⟩
        exact hdone D xs _ hD hS (hI _ _ _ hi (put2 W2 _ _ hl hk.2)) ((World.putObj_heap_other (by omega)).trans hk.1)
      · rw [hBk] at hk
        refine ⟨some c, _, by have := run_endLoop (P := P) hl (by rw [hrc]; simp); rw [hrc] at this; exact this, ?_⟩
        exact hstop D c pre _ hD hSp (hIx c _ _ _ hi (put2 W2 _ _ hl hk.2)) ((World.putObj_heap_other (by omega)).trans hk.1)
end Go.Proofs.Ytncahchhinfneaa

/-! Maker -/
namespace Go.Proofs.Ytncahchhinfneaa
open Go.Sort Go.RowKit

/-- No way but the normal one. -/
def Bot : Exit → Act → World → Prop := fun _ _ _ => False
def pureOpB : Op → Bool
  | .move _ | .load _ _ | .fieldAddr _ _ _ | .indexAddr _ _ _ => true
  | _ => false
theorem value_only (P : Program) (s : Sem Value) (w w' : World) (x : Next) (h : (do pure (Next.value (← s)) : Sem Next).run P w = .ok x w') : ∃ u, x = .value u := by
  rw [Sem.run_bind] at h
  cases hs : s.run P w with
  | ok v w1 =>
    rw [hs] at h
    simp only [Result.andThen, Sem.run_pure, Result.ok.injEq] at h
    exact ⟨v, h.1.symm⟩
  | halt y w1 => rw [hs] at h; simp [Result.andThen] at h
theorem pure_value (P : Program) (o : Oper) (a : Act) (w w' : World) (x : Next) (hp : pureOpB o.op = true) (h : (execOp a.eval o).run P w = .ok x w') : ∃ u, x = .value u := by
  unfold execOp at h
  revert hp h
  cases o.op <;> intro hp h <;> first
    | (simp [pureOpB] at hp; done)
    | exact value_only _ _ _ _ _ h
    | (simp only [Sem.run_pure, Result.ok.injEq] at h; exact ⟨_, h.1.symm⟩)
theorem pure_upon {P : Program} {C : World → Prop} {o : Oper} (hp : pureOpB o.op = true) {a : Act} {w : World} {v : Value} (h : o.quietAt P a C w v) : (execOp a.eval o).run P w = .ok (.value v) w := by
  have hv := fun x w' => pure_value P o a w w' x hp
  unfold Oper.quietAt at h
  generalize (execOp a.eval o).run P w = r at *
  cases r with
  | ok x w' =>
    obtain ⟨u, rfl⟩ := hv _ _ rfl
    simp only [Oper.quietUpon] at h
    obtain ⟨rfl, rfl⟩ := h; rfl
  | halt x w' => simp only [Oper.quietUpon] at h

section
variable {F : Fence} {n : Nat} {P : Program} {ops : Array Oper} {md : Region.Mode} {C : World → Prop} {Q : Exit → Act → World → Prop}

theorem oper_bot {o : Oper} {a : Act} {w : World} {K K' K1 : Act → World → Prop} (h : ∀ a w, K a w → K' a w) (hh : o.wpIn F n P a w K (Exit.then K1 Bot)) : o.wpIn F n P a w K' Q := by
  unfold Oper.wpIn at *
  refine ⟨hh.1, ?_⟩
  have hh := hh.2
  generalize (o.semAt F.round a.eval).run P w = r at *
  cases r with
  | ok x w' =>
    cases x <;> simp only [Oper.uponIn] at hh ⊢ <;>
      first
        | exact h _ _ hh
        | exact ⟨hh.1, RowsIn.mono hh.2 (fun _ _ he => h _ _ he)⟩
        | exact ⟨hh.1, CallsIn.mono hh.2 (fun e w'' he => by cases e <;> first | exact h _ _ he | exact False.elim he | (obtain ⟨_, _, he⟩ := he; exact False.elim he))⟩
        | exact ⟨hh.1, RoundIn.mono hh.2 (fun e w'' he => by cases e <;> first | exact h _ _ he | exact False.elim he | (obtain ⟨_, _, he⟩ := he; exact False.elim he))⟩
  | halt x w' => cases x <;> simp only [Oper.uponIn] at hh ⊢ <;> first | exact hh | exact False.elim hh

def wpAnyC (F : Fence) (n : Nat) (P : Program) (md : Region.Mode) (ops : Array Oper) (C : World → Prop) (K : Act → World → Prop) (q : Nat) : Nat → Array Bool → Act → World → Prop
  | 0, listed, a, w => Region.ready md ops listed = [] ∧ K a w
  | fuel + 1, listed, a, w =>
    (Region.ready md ops listed = [] → K a w) ∧
    ∀ i ∈ Region.ready md ops listed, wpOpIn F n P ops (Exit.then K Bot) i (fun a' w' => (i < q → C w') ∧ wpAnyC F n P md ops C K q fuel (listed.setIfInBounds i true) a' w') a w

theorem wpAnyC_any {K : Act → World → Prop} {q : Nat} : ∀ (fuel : Nat) (listed : Array Bool) (a : Act) (w : World), wpAnyC F n P md ops C K q fuel listed a w → wpAnyIn F n P md ops (Exit.then K Bot) fuel listed a w
  | 0, _, _, _, h => h
  | fuel + 1, _, _, _, h => ⟨h.1, fun i hi => wpOpIn_mono (fun a' w' h' => wpAnyC_any fuel _ a' w' h'.2) (h.2 i hi)⟩

/-- In every world of the class the operation yields v and nothing else happens. -/
def PureAt (P : Program) (ops : Array Oper) (C : World → Prop) (o : Oper) (v : Value) (a : Act) : Prop :=
  (Region.wanted o (yielded ops a.tmps) = true ∧ ∀ w, C w → (execOp a.eval o).run P w = .ok (.value v) w) ∨ (Region.wanted o (yielded ops a.tmps) = false ∧ v = undef)
theorem PureAt.of_same {o : Oper} {v : Value} {a a' : Act} (hy : PureAt P ops C o v a) (he : execOp a'.eval o = execOp a.eval o)
    (hw : Region.wanted o (yielded ops a'.tmps) = Region.wanted o (yielded ops a.tmps)) : PureAt P ops C o v a' := by
  unfold PureAt at *
  rw [he, hw]; exact hy
theorem PureAt.step {i : Nat} {o : Oper} {v : Value} {a : Act} {w : World} {K : Act → World → Prop} (hF : IsWide F) (hd : noDeferB ops = true) (hi : ops[i]? = some o) (hC : C w) (hy : PureAt P ops C o v a) (h : K (a.put o.dst v) w) : wpOpIn F n P ops Q i K a w := by
  unfold Go.wpOpIn
  simp only [hi]
  rcases hy with ⟨hw, hv⟩ | ⟨hw, rfl⟩
  · simp only [hw, if_true, Oper.wpIn, semAt_any (noDefer_at hd hi), hv w hC, Oper.uponIn]; exact ⟨fun f _ => hF.fn f, h⟩
  · simp only [hw, Bool.false_eq_true, if_false]; exact ⟨fun f _ => hF.fn f, h⟩

theorem op_putC {j : Nat} {oi oj : Oper} {v : Value} {K0 : Act → World → Prop} (hF : IsWide F) (hd : noDeferB ops = true) (hj : ops[j]? = some oj) (hap : oi.apart ops oj = true)
    (hsi : ∀ cs b, oi.op ≠ .select cs b) (hsj : ∀ cs b, oj.op ≠ .select cs b) {K : Act → World → Prop} {a : Act} {w : World}
    (hy : PureAt P ops C oi v a) (h : wpOpIn F n P ops (Exit.then K0 Bot) j K (a.put oi.dst v) w) :
    wpOpIn F n P ops (Exit.then K0 Bot) j (fun a' w' => PureAt P ops C oi v a' ∧ K (a'.put oi.dst v) w') a w := by
  obtain ⟨h1, h2, h3⟩ := Oper.apart_spec hap
  have keep : ∀ (a : Act), PureAt P ops C oi v a → ∀ u, PureAt P ops C oi v (a.put oj.dst u) := fun a hy u =>
    hy.of_same (execOp_put oi hsi a oj.dst u h3) (wanted_put oi a oj.dst u h3)
  have keepD : ∀ d, PureAt P ops C oi v { a with defers := d :: a.defers } := fun d => hy.of_same rfl rfl
  have hnd := noDefer_at hd hj
  unfold wpOpIn at *
  simp only [hj] at h ⊢
  rw [wanted_put oj a oi.dst v h1] at h
  split
  · rename_i hw
    simp only [hw, if_true] at h
    unfold Oper.wpIn at *
    refine ⟨fun f _ => hF.fn f, ?_⟩
    have h := h.2
    rw [semAt_any hnd, execOp_put oj hsj a oi.dst v h1] at h
    rw [semAt_any hnd]
    generalize (execOp a.eval oj).run P w = r at *
    cases r with
    | ok x w' =>
      cases x <;> simp only [Oper.uponIn] at h ⊢
      case value u => exact ⟨keep a hy u, by rw [← Act.put_comm a v u h2]; exact h⟩
      case skip => exact ⟨keep a hy _, by rw [← Act.put_comm a v undef h2]; exact h⟩
      case defer d =>
        refine ⟨keep _ (keepD d) _, ?_⟩
        rw [← Act.put_comm _ v undef h2, ← Act.put_defers]
        exact h
      case enter f args =>
        refine ⟨h.1, CallsIn.mono h.2 fun e w'' he => ?_⟩
        cases e with
        | returned u => exact ⟨keep a hy u, by rw [← Act.put_comm a v u h2]; exact he⟩
        | panicked c => exact False.elim he
        | outgrown => obtain ⟨_, _, he⟩ := he; exact False.elim he
      case row row args => exact ⟨h.1, RowsIn.mono h.2 fun u w'' he => ⟨keep a hy u, by rw [← Act.put_comm a v u h2]; exact he⟩⟩
      case round l f tmps assign body =>
        refine ⟨h.1, RoundIn.mono h.2 fun e w'' he => ?_⟩
        cases e with
        | returned u => exact ⟨keep a hy u, by rw [← Act.put_comm a v u h2]; exact he⟩
        | panicked c => exact False.elim he
        | outgrown => obtain ⟨_, _, he⟩ := he; exact False.elim he
    | halt x w' =>
      cases x <;> simp only [Oper.uponIn] at h ⊢
      case panic u => exact False.elim h
  · rename_i hw
    simp only [hw] at h
    exact ⟨fun f _ => hF.fn f, keep a hy _, by rw [← Act.put_comm a v undef h2]; exact h.2⟩

theorem firstC {i q : Nat} {oi : Oper} {v : Value} {K0 : Act → World → Prop} (hF : IsWide F) (hd : noDeferB ops = true) (hi : ops[i]? = some oi) (hsel : ∀ (j : Nat) (o : Oper) cs b, ops[j]? = some o → o.op ≠ .select cs b)
    (hs : Region.sinkB md ops q = true) (hc : Region.chainB md ops q = true) (hn : q < ops.size) (hin : i < q) :
    ∀ (fuel : Nat) (listed : Array Bool) (a : Act) (w : World), HeadInv md ops q listed →
      (∀ j oj, ops[j]? = some oj → j ≠ i → listed.getD j true = false → (∀ e ∈ oj.after, Region.binds md e = true → e.on ≠ i) → oi.apart ops oj = true) →
      i ∈ Region.ready md ops listed → PureAt P ops C oi v a → C w →
      wpAnyC F n P md ops C K0 q fuel (listed.setIfInBounds i true) (a.put oi.dst v) w → wpAnyC F n P md ops C K0 q (fuel + 1) listed a w := by
  intro fuel
  induction fuel with
  | zero =>
    intro listed a w inv _ hr hy hC H
    have hun := (mem_ready.1 hr).1
    refine ⟨fun h => (by rw [h] at hr; cases hr), fun j hj => ?_⟩
    by_cases hji : j = i
    · subst hji; exact hy.step hF hd hi hC ⟨fun _ => hC, H⟩
    · have := ready_mono hj hji
      rw [H.1] at this
      cases this
  | succ fuel ih =>
    intro listed a w inv hfree hr hy hC H
    have hun := (mem_ready.1 hr).1
    refine ⟨fun h => (by rw [h] at hr; cases hr), fun j hj => ?_⟩
    have hjn : j < q := by
      rcases Nat.lt_or_ge j q with h | h
      · exact h
      · exact absurd hj (tail_waits hs hc hn inv _ i rfl hin hun j h)
    by_cases hji : j = i
    · subst hji; exact hy.step hF hd hi hC ⟨fun _ => hC, H⟩
    · have h1 := H.2 j (ready_mono hj hji)
      obtain ⟨hjun, oj, hoj, hall⟩ := mem_ready.1 hj
      have hnot : ∀ e ∈ oj.after, Region.binds md e = true → e.on ≠ i := fun e he hb heq => by
        have h1 := hall e he hb
        rw [heq, getD_both hun] at h1
        cases h1
      have h2 := op_putC hF hd hoj (hfree j oj hoj hji hjun hnot) (fun cs b => hsel i oi cs b hi) (fun cs b => hsel j oj cs b hoj) hy h1
      have hfree' : ∀ k ok, ops[k]? = some ok → k ≠ i → (listed.setIfInBounds j true).getD k true = false →
          (∀ e ∈ ok.after, Region.binds md e = true → e.on ≠ i) → oi.apart ops ok = true := fun k ok hk hki hun hno => by
        refine hfree k ok hk hki ?_ hno
        by_cases hjk : j = k
        · subst hjk; exact hjun
        · rw [getD_set_ne true hjk] at hun; exact hun
      refine wpOpIn_mono (fun a' w' h3 => ⟨h3.2.1, ih (listed.setIfInBounds j true) a' w' (inv.set hj hjn) hfree' (ready_mono hr (Ne.symm hji)) h3.1 (h3.2.1 hjn) ?_⟩) h2
      rw [Array.setIfInBounds_comm _ _ hji]
      exact h3.2.2

theorem lexC {m q g : Nat} {K0 : Act → World → Prop} {Lq : Act → Prop} (hF : IsWide F) (hd : noDeferB ops = true) (hsel : Region.noSelect ops = true) (hs : Region.sinkB md ops q = true) (hc : Region.chainB md ops q = true) (hn : q < ops.size) (hmq : m ≤ q)
    (hT : ∀ listed a w, C w → Region.seqB md ops g m listed = true → Lq a → wpAnyC F n P md ops C K0 q g listed a w) :
    ∀ (l : List Oper) (k : Nat) (listed : Array Bool) (a : Act) (w : World), (∀ j, j < l.length → l[j]? = ops[k + j]?) → k + l.length = m → HeadInv md ops q listed →
    Region.lexHead md ops g l.length k listed = true → (l.all fun o => pureOpB o.op) = true → C w → wpQuiet P ops C Lq l a → wpAnyC F n P md ops C K0 q (l.length + g) listed a w
  | [], k, listed, a, w, _, hk, _, hB, _, hC, h => by
    have : k = m := by simpa using hk
    subst this
    rw [List.length_nil, Nat.zero_add]
    exact hT listed a w hC (by simpa [Region.lexHead] using hB) h
  | o :: l, k, listed, a, w, hl, hk, inv, hB, hp, hC, h => by
    have h0 : ops[k]? = some o := by simpa using (hl 0 (by simp)).symm
    simp only [List.length_cons, Region.lexHead, Bool.and_eq_true] at hB
    obtain ⟨⟨hr, hf⟩, hB'⟩ := hB
    simp only [List.all_cons, Bool.and_eq_true] at hp
    have hkn : k < m := by simp only [List.length_cons] at hk; omega
    have hr' : k ∈ Region.ready md ops listed := by simpa using hr
    have hy : ∃ v, PureAt P ops C o v a ∧ wpQuiet P ops C Lq l (a.put o.dst v) := by
      unfold wpQuiet at h
      cases hw : Region.wanted o (yielded ops a.tmps)
      · rw [hw] at h
        exact ⟨undef, .inr ⟨hw, rfl⟩, by simpa using h⟩
      · rw [hw] at h
        simp only [if_true] at h
        obtain ⟨v, hv, hK⟩ := h
        exact ⟨v, .inl ⟨hw, fun w' hw' => pure_upon hp.1 (hv w' hw')⟩, hK⟩
    obtain ⟨v, hy, hK⟩ := hy
    rw [List.length_cons, show l.length + 1 + g = (l.length + g) + 1 by omega]
    exact firstC hF hd h0 (Region.noSelect_spec hsel) hs hc hn (by omega) _ listed a w inv (Region.free_spec h0 hf) hr' hy hC
      (lexC hF hd hsel hs hc hn hmq hT l (k + 1) _ _ w (fun j hj => by have := hl (j + 1) (by simp; omega); simpa [Nat.add_assoc, Nat.add_comm 1 j] using this) (by simp only [List.length_cons] at hk; omega) (inv.set hr' (by omega)) hB' hp.2 hC hK)

theorem seqC {q : Nat} {K0 : Act → World → Prop} : ∀ (l : List Oper) (k : Nat) (listed : Array Bool) (a : Act) (w : World), q ≤ k → (∀ j, l[j]? = ops[k + j]?) →
    Region.seqB md ops l.length k listed = true → wpListIn F n P ops (Exit.then K0 Bot) l a w → wpAnyC F n P md ops C K0 q l.length listed a w
  | [], _, _, _, _, _, _, hB, h => ⟨by simpa [Region.seqB] using hB, h⟩
  | o :: l, k, listed, a, w, hq, hl, hB, h => by
    have h0 : ops[k]? = some o := by simpa using (hl 0).symm
    simp only [List.length_cons, Region.seqB, Bool.and_eq_true, decide_eq_true_eq] at hB
    refine ⟨fun h1 => (by rw [hB.1] at h1; cases h1), fun i hi => ?_⟩
    rw [hB.1] at hi
    have hik : i = k := by simpa using hi
    subst hik
    have hw : wpOpIn F n P ops (Exit.then K0 Bot) i (wpListIn F n P ops (Exit.then K0 Bot) l) a w := by unfold wpOpIn; simp only [h0]; exact h
    exact wpOpIn_mono (fun a' w' h' => ⟨fun h1 => by omega, seqC l (i + 1) _ a' w' (by omega) (fun j => by have := hl (j + 1); simpa [Nat.add_assoc, Nat.add_comm 1 j] using this) hB.2 h'⟩) hw

/-- One operation that is ready alone, behind which the class still holds. -/
theorem oneC {q g : Nat} {K0 K1 : Act → World → Prop} {o : Oper} {k : Nat} {listed : Array Bool} {a : Act} {w : World} (h0 : ops[k]? = some o)
    (hB : Region.seqB md ops (g + 1) k listed = true) (h : wpListIn F n P ops (Exit.then K1 Bot) [o] a w)
    (hK : ∀ listed' a' w', Region.seqB md ops g (k + 1) listed' = true → K1 a' w' → C w' ∧ wpAnyC F n P md ops C K0 q g listed' a' w') : wpAnyC F n P md ops C K0 q (g + 1) listed a w := by
  simp only [Region.seqB, Bool.and_eq_true, decide_eq_true_eq] at hB
  refine ⟨fun h1 => (by rw [hB.1] at h1; cases h1), fun i hi => ?_⟩
  rw [hB.1] at hi
  have hik : i = k := by simpa using hi
  subst hik
  unfold wpOpIn
  simp only [h0]
  unfold wpListIn at h
  split
  · rename_i hw
    rw [if_pos hw] at h
    exact oper_bot (fun a' w' h' => by
      obtain ⟨h1, h2⟩ := hK _ a' w' hB.2 h'
      exact ⟨fun _ => h1, h2⟩) h
  · rename_i hw
    rw [if_neg hw] at h
    refine ⟨h.1, ?_⟩
    obtain ⟨h1, h2⟩ := hK _ _ w hB.2 h.2
    exact ⟨fun _ => h1, h2⟩

def makeB (md : Region.Mode) (ops : Array Oper) (m : Nat) : Bool :=
  Region.noSelect ops && decide (m + 2 < ops.size) && Region.sinkB md ops (m + 2) && Region.chainB md ops (m + 2) && Region.lexHead md ops (ops.size - m) m 0 (Array.replicate ops.size false) && ((ops.toList.take m).all fun o => pureOpB o.op)

/-- **m operations that only look, a call, a maker, a tail in sequence.** -/
theorem region_make_in {id : Nat} {a : Act} {w : World} {l : List Oper} (m : Nat) (hF : IsWide F) (hd : noDeferB l.toArray = true) (hm : P.follows .mixedOrders = true) (hB : makeB .any l.toArray m = true)
    (h : wpQuiet P l.toArray (fun w' => ∃ p : Regrown, w' = grow (redrawn w p.d) p.os) (fun a' => ∀ w', (∃ p : Regrown, w' = grow (redrawn w p.d) p.os) →
      wpListIn F n P l.toArray (Exit.then (fun a1 w1 => Below w.heap.size w w1 ∧ wpListIn F n P l.toArray (Exit.then (fun a2 w2 => Below w.heap.size w w2 ∧ wpListIn F n P l.toArray (Exit.then (Q .normal) Bot) (l.drop (m + 2)) a2 w2) Bot) ((l.drop (m + 1)).take 1) a1 w1) Bot) ((l.drop m).take 1) a' w') (l.take m) a) :
    (Code.region id l.toArray true).wpIn F n P Q a w := by
  simp only [makeB, Bool.and_eq_true, decide_eq_true_eq] at hB
  obtain ⟨⟨⟨⟨⟨hsel, hn⟩, hs⟩, hc⟩, hlex⟩, hpu⟩ := hB
  have hn' : m + 2 < l.length := by simpa using hn
  have htl : (l.take m).length = m := by simp; omega
  have inv0 : HeadInv .any l.toArray (m + 2) (Array.replicate l.toArray.size false) :=
    ⟨by simp, fun j oj _ hl => (by rw [getD_replicate_false] at hl; cases hl), fun t _ ht => getD_in (by simpa using ht) (getD_replicate_false _ _)⟩
  have hC : ∃ p : Regrown, ({ w with drawn := w.drawn + 1 } : World) = grow (redrawn w p.d) p.os := ⟨⟨w.drawn + 1, #[]⟩, by rw [grow_empty]; rfl⟩
  obtain ⟨g, hg⟩ : ∃ g, l.toArray.size - m = g + 1 + 1 := ⟨l.toArray.size - m - 2, by simp; omega⟩
  have e0 : (l.drop m).take 1 = [l[m]'(by omega)] := by rw [List.drop_eq_getElem_cons (by omega)]; rfl
  have e1 : (l.drop (m + 1)).take 1 = [l[m + 1]'(by omega)] := by rw [List.drop_eq_getElem_cons (by omega)]; rfl
  have hdl : (l.drop (m + 2)).length = g := by simp at hg ⊢; omega
  have H := lexC (md := .any) (P := P) (F := F) (n := n) (C := fun w' => ∃ p : Regrown, w' = grow (redrawn w p.d) p.os) (K0 := Q .normal) (m := m) (q := m + 2) (g := l.toArray.size - m) hF hd hsel hs hc hn (by omega)
    (fun listed a' w' hC' hseq hL => by
      rw [hg] at hseq ⊢
      have h1 := hL w' hC'
      rw [e0] at h1
      refine oneC (k := m) (by simp) hseq h1 fun listed1 a1 w1 hseq1 ⟨hb1, h2⟩ => ⟨regrown_of_below hb1, ?_⟩
      rw [e1] at h2
      refine oneC (k := m + 1) (by simp) hseq1 h2 fun listed2 a2 w2 hseq2 ⟨hb2, h3⟩ => ⟨regrown_of_below hb2, ?_⟩
      have := seqC (md := .any) (C := fun w' => ∃ p : Regrown, w' = grow (redrawn w p.d) p.os) (q := m + 2) (l.drop (m + 2)) (m + 2) listed2 a2 w2 (Nat.le_refl _) (fun j => by simp [List.getElem?_drop]) (by rw [hdl]; exact hseq2) h3
      rwa [hdl] at this)
    (l.take m) 0 _ a _ (fun j hj => by
      have hj' : j < m := by rw [htl] at hj; exact hj
      simp [hj']) (by simpa using htl) inv0 (by rw [htl]; exact hlex) (by simpa using hpu) hC h
  rw [htl, show m + (l.toArray.size - m) = l.toArray.size by simp at hn ⊢; omega] at H
  refine Go.wpIn_mono (wpIn_region_any hm (wpAnyC_any _ _ _ _ H)) ?_
  intro e a' w' h'
  cases e <;> first | exact h' | exact False.elim h'
end
end Go.Proofs.Ytncahchhinfneaa

/-! Lev9 -/
namespace Go.Proofs.Ytncahchhinfneaa
open Go.RowKit

/-- What a beginning with u pieces becomes with the number k, left cells being left behind it. -/
def ext1 (K left : Nat) (s : List Nat × Nat) (k : Nat) : List (List Nat × Nat) := if K ≤ max s.2 (k + 1) + left then [(s.1 ++ [k], max s.2 (k + 1))] else []
def extT (K left : Nat) (s : List Nat × Nat) (t : Nat) : List (List Nat × Nat) := (List.range t).flatMap (ext1 K left s)
theorem extT_zero (K left : Nat) (s : List Nat × Nat) : extT K left s 0 = [] := rfl
theorem extT_succ (K left : Nat) (s : List Nat × Nat) (t : Nat) : extT K left s (t + 1) = extT K left s t ++ ext1 K left s t := by
  unfold extT; rw [List.range_succ, List.flatMap_append]; simp
def extA (K left : Nat) (s : List Nat × Nat) : List (List Nat × Nat) := extT K left s (min (s.2 + 1) K)
def levT (K left : Nat) (S : List (List Nat × Nat)) (t : Nat) : List (List Nat × Nat) := (S.take t).flatMap (extA K left)
theorem levT_zero (K left : Nat) (S : List (List Nat × Nat)) : levT K left S 0 = [] := rfl
theorem levT_succ (K left : Nat) {S : List (List Nat × Nat)} {t : Nat} (h : t < S.length) : levT K left S (t + 1) = levT K left S t ++ extA K left S[t] := by
  unfold levT; rw [take_snoc h, List.flatMap_append]; simp
def levA (K left : Nat) (S : List (List Nat × Nat)) : List (List Nat × Nat) := S.flatMap (extA K left)
theorem levT_all (K left : Nat) (S : List (List Nat × Nat)) : levT K left S S.length = levA K left S := by unfold levT levA; rw [List.take_length]
def levN (K n : Nat) : Nat → List (List Nat × Nat)
  | 0 => [([], 0)]
  | i + 1 => levA K (n - 1 - i) (levN K n i)
theorem numsD_none {K left bg : Nat} (h : bg + left < K) : numsD K left bg = [] := by
  cases left with
  | zero => simp only [numsD]; rw [if_pos (by omega)]
  | succ n => simp only [numsD]; rw [if_pos h]
theorem ext1_nums (K left : Nat) (s : List Nat × Nat) (k : Nat) : (ext1 K left s k).flatMap (fun s' => (numsD K left s'.2).map (s'.1 ++ ·)) = ((numsD K left (max s.2 (k + 1))).map (k :: ·)).map (s.1 ++ ·) := by
  unfold ext1
  split
  · simp
  · rename_i h
    rw [numsD_none (by omega)]; rfl
theorem extA_nums (K left : Nat) (s : List Nat × Nat) : (extA K left s).flatMap (fun s' => (numsD K left s'.2).map (s'.1 ++ ·)) = (numsD K (left + 1) s.2).map (s.1 ++ ·) := by
  unfold extA extT
  rw [List.flatMap_assoc]
  simp only [ext1_nums, numsD]
  split
  · rename_i h
    rw [List.map_nil, List.flatMap_eq_nil_iff]
    intro k hk
    have hk' : k < min (s.2 + 1) K := by simpa using hk
    rw [numsD_none (by omega)]; rfl
  · rw [List.map_flatMap]
theorem lev_nums {K n : Nat} : ∀ i, i ≤ n → numsD K n 0 = (levN K n i).flatMap (fun s => (numsD K (n - i) s.2).map (s.1 ++ ·))
  | 0, _ => by simp [levN]
  | i + 1, h => by
    rw [lev_nums i (by omega)]
    simp only [levN, levA]
    rw [List.flatMap_assoc]
    congr 1
    funext s
    rw [show n - (i + 1) = n - 1 - i by omega, extA_nums, show n - 1 - i + 1 = n - i by omega]
theorem lev_mem {K n : Nat} : ∀ (i : Nat) (s : List Nat × Nat), i ≤ n → s ∈ levN K n i → s.1.length = i ∧ s.2 ≤ i ∧ (1 ≤ i → K ≤ s.2 + (n - i))
  | 0, s, _, h => by simp [levN] at h; subst h; exact ⟨rfl, Nat.le_refl _, by omega⟩
  | i + 1, s, hi, h => by
    simp only [levN, levA] at h
    obtain ⟨s', h1, h2⟩ := List.mem_flatMap.1 h
    obtain ⟨k, h3, h4⟩ := List.mem_flatMap.1 h2
    obtain ⟨h5, h6, _⟩ := lev_mem i s' (by omega) h1
    have hk : k < min (s'.2 + 1) K := by simpa using h3
    unfold ext1 at h4
    split at h4
    · simp only [List.mem_singleton] at h4
      subst h4
      refine ⟨by simp [h5], by simp only; omega, fun _ => by simp only; omega⟩
    · cases h4
theorem lev_fst {K n : Nat} (h1 : 1 ≤ n) : (levN K n n).map (·.1) = numsD K n 0 := by
  rw [lev_nums n (Nat.le_refl _), Nat.sub_self]
  have : ∀ s ∈ levN K n n, (numsD K 0 s.2).map (s.1 ++ ·) = [s.1] := fun s hs => by
    have := (lev_mem n s (Nat.le_refl _) hs).2.2 h1
    simp only [numsD]
    rw [if_neg (by omega)]; simp
  generalize levN K n n = S at this
  induction S with
  | nil => rfl
  | cons s S ih =>
    rw [List.map_cons, List.flatMap_cons, this s (by simp), ← ih (fun s hs => this s (List.mem_cons_of_mem _ hs))]; rfl
def facN : Nat → Nat
  | 0 => 1
  | n + 1 => (n + 1) * facN n
theorem extT_len (K left : Nat) (s : List Nat × Nat) : ∀ t, (extT K left s t).length ≤ t
  | 0 => Nat.le_refl _
  | t + 1 => by
    rw [extT_succ, List.length_append]
    have := extT_len K left s t
    have : (ext1 K left s t).length ≤ 1 := by unfold ext1; split <;> simp
    omega
theorem levT_len {K left i : Nat} {S : List (List Nat × Nat)} (h : ∀ s ∈ S, s.2 ≤ i) : ∀ t, t ≤ S.length → (levT K left S t).length ≤ (i + 1) * t
  | 0, _ => Nat.zero_le _
  | t + 1, ht => by
    have hlt : t < S.length := by omega
    rw [levT_succ _ _ hlt, List.length_append]
    have h1 := levT_len (K := K) (left := left) h t (by omega)
    have h2 := extT_len K left S[t] (min ((S[t]).2 + 1) K)
    have h3 := h _ (List.getElem_mem hlt)
    unfold extA
    rw [Nat.mul_succ]
    omega
theorem levN_len {K n : Nat} : ∀ i, i ≤ n → (levN K n i).length ≤ facN i
  | 0, _ => by simp [levN, facN]
  | i + 1, hi => by
    have h1 := levN_len (K := K) (n := n) i (by omega)
    have h2 := levT_len (K := K) (left := n - 1 - i) (i := i) (fun s hs => (lev_mem i s (by omega) hs).2.1) _ (Nat.le_refl (levN K n i).length)
    rw [levT_all] at h2
    simp only [levN, facN]
    exact Nat.le_trans h2 (Nat.mul_le_mul_left _ h1)
theorem facN_le {i : Nat} (h : i ≤ 9) : facN i ≤ 362880 := by
  rcases (show i = 0 ∨ i = 1 ∨ i = 2 ∨ i = 3 ∨ i = 4 ∨ i = 5 ∨ i = 6 ∨ i = 7 ∨ i = 8 ∨ i = 9 by omega) with rfl | rfl | rfl | rfl | rfl | rfl | rfl | rfl | rfl | rfl <;> decide
theorem numsD_len {K n : Nat} (h1 : 1 ≤ n) (h9 : n ≤ 9) : (numsD K n 0).length ≤ 362880 := by
  rw [← lev_fst h1, List.length_map]
  exact Nat.le_trans (levN_len n (Nat.le_refl _)) (facN_le h9)
end Go.Proofs.Ytncahchhinfneaa

/-! Nums9 -/
namespace Go.Proofs.Ytncahchhinfneaa
open Go.RowKit Go.Sort

theorem ints_one9 (M : List Int) : ∀ u ∈ ints M, u.oneCell' = true := by
  intro u hu
  obtain ⟨x, _, rfl⟩ := List.mem_map.1 hu
  rfl
theorem intsA_news9 {w : World} {g : Nat} {M : List Int} (h : IntsA w (some ⟨g, 0, none⟩) M) : ∀ j u, (ints M)[j]? = some u → w.cell? (Addr.add ⟨g, 0, none⟩ j) = some u := by
  intro j u hu
  have hj : j < M.length := by
    rcases Nat.lt_or_ge j M.length with h1 | h1
    · exact h1
    · rw [List.getElem?_eq_none (by rw [ints_len]; exact h1)] at hu; cases hu
  obtain ⟨g', e, hc⟩ := h j hj
  cases e
  have e1 : (ints M)[j]? = some (.int .i64 M[j]) := by simp [ints, hj]
  rw [e1] at hu
  cases hu
  by_cases h0 : j = 0
  · subst h0; simpa [Addr.add] using hc
  · simpa [Addr.add, h0] using hc
set_option maxRecDepth 100000 in
set_option maxHeartbeats 1000000 in
theorem cloneI_any (A : Option Addr) (c : Nat) (M : List Int) (w : World) (hA : IntsA w A M) (h1 : 1 ≤ M.length) (h2 : M.length ≤ 1048576) :
    Calls Try.prog 235 #[.slice A M.length c] w (ListsI w M) := by
  obtain ⟨i0, hi0, hz0, hz1, hz2⟩ := info_parts infoI
  obtain ⟨g, rfl, -⟩ := hA 0 h1
  have HU : Hid (ListsI w M = fun e w' => ∃ v, e = .returned v ∧ w'.ownsRow w.heap.size 3 1 v M.length (ints M) ∧ Below w.heap.size w w') := rfl
  have hn := Lib.run_eql_slice_nil (P := Try.prog)
  have own0 := World.ownsRow_lit (base := w.heap.size) (e := 3) (size := 1) w #[] 0 (Nat.le_refl _) (by unfold maxLen; omega) (by rfl)
  have hb0 := below1 w (.cells #[] 3)
  have HN := Lib.hid (intsA_news9 (intsA_on hA hb0))
  have hlen : (ints M).length = M.length * 1 := by rw [ints_len, Nat.mul_one]
  clear hA
  go_enter Try.func235, Try.ntmps235
  go_wp2_with (at_builtin; refine wpList_append_own _ rfl _ _ 43 rfl w.heap.size 3 i0 (.int .i64 0) 1 8 Try.underlying43 hi0 hz0 hz1 hz2 rfl (by decide) _ _ _ rfl own0 ⟨g, 0, none⟩ M.length c (ints M) rfl hlen HN.out (ints_one9 M) ?d3 ?d4 (by simp) ?_)
  case d3 => unfold maxLen; omega
  case d4 => omega
  intro v' w6 own6 hgrow _
  have R : Hid (w6.ownsRow w.heap.size 3 1 v' M.length (ints M) ∧ Below w.heap.size w w6) :=
    ⟨by simpa using own6, hb0.grown hgrow (by simp) (fun k hk => (own0.lt k hk).1)⟩
  clear own0 own6 hgrow hb0 hlen
  go_wp2_with fail
  go_ret
  rw [HU.out]
  exact ⟨_, rfl, R.out.1, R.out.2⟩

/-! ### What the iterator has in memory -/
def ptr0 (b : Nat) : Value := .pointer (some ⟨b, 0, none⟩)
/-- Blocks: bc, bp: the numbers of cells and of pieces; y: yield; l: the list; f: fill; u: put. -/
structure Bl where
  bc : Nat
  bp : Nat
  y : Nat
  l : Nat
  f : Nat
  u : Nat
def fillV (b : Bl) : Value := .func (.func 234) #[] #[.pointer (some ⟨b.bc, 0, none⟩), .pointer (some ⟨b.l, 0, none⟩), .pointer (some ⟨b.bp, 0, none⟩), .pointer (some ⟨b.y, 0, none⟩), .pointer (some ⟨b.u, 0, none⟩)]
def putV (b : Bl) : Value := .func (.func 233) #[] #[.pointer (some ⟨b.l, 0, none⟩), .pointer (some ⟨b.f, 0, none⟩)]
structure BlOk (b : Bl) (B : Nat) : Prop where
  c : b.bc < B
  p : b.bp < B
  y : B ≤ b.y
  l : b.y < b.l
  f : b.l < b.f
  u : b.f < b.u
structure St (b : Bl) (lp B n : Nat) (K : Int) (c : List Nat) (pre : List Rw) (W : World) : Prop where
  c0 : Boxed W b.bc 3 (.int .i64 n)
  p0 : Boxed W b.bp 3 (.int .i64 K)
  y0 : Boxed W b.y 76 (.func (.yield lp) #[] #[])
  f0 : Boxed W b.f 92 (fillV b)
  u0 : Boxed W b.u 203 (putV b)
  ls : ∃ v, Boxed W b.l 43 v ∧ W.ownsRow B 3 1 v c.length (ints (castL c)) ∧ ∀ x ∈ pre, v.ownBlock ≠ some x.g
  gs : ∀ x ∈ pre, b.u < x.g ∧ x.g < W.heap.size
theorem boxed_as {W W' : World} {B : Nat} {t : TypeId} {v : Value} (h : Boxed W B t v) (hb : W'.heap[B]? = W.heap[B]?) : Boxed W' B t v := hb.trans h
theorem own_as {W W' : World} {B n s : Nat} {e : TypeId} {v : Value} {xs : List Value} (h : W.ownsRow B e s v n xs) (hb : ∀ g, v.ownBlock = some g → W'.heap[g]? = W.heap[g]?) : W'.ownsRow B e s v n xs := by
  rcases h.2 with ⟨rfl, h0⟩ | ⟨g, cap, cur, rfl, hg, hh, hr⟩
  · exact ⟨h.1, .inl ⟨rfl, h0⟩⟩
  · exact ⟨h.1, .inr ⟨g, cap, cur, rfl, hg, (hb g rfl).trans hh, hr⟩⟩
/-- A round that keeps its word leaves it as it was. -/
theorem St.but {b : Bl} {lp B n : Nat} {K : Int} {c : List Nat} {pre : List Rw} {W W' : World} {T : Nat → Prop} (h : St b lp B n K c pre W) (hk : ButT T W W') (ho : BlOk b B) (hT : ∀ k, T k → k < B) (h1 : ¬ T b.bc) (h2 : ¬ T b.bp) : St b lp B n K c pre W' := by
  have hy := ho.y; have hl := ho.l; have hf := ho.f; have hu := ho.u
  have up : ∀ k, B ≤ k → ¬ T k := fun k hk h => by have := hT k h; omega
  obtain ⟨v, q1, q2, q3⟩ := h.ls
  exact ⟨boxed_as h.c0 (hk.block _ h.c0.lt h1 (box_nf h.c0 (.inl rfl))), boxed_as h.p0 (hk.block _ h.p0.lt h2 (box_nf h.p0 (.inl rfl))), boxed_as h.y0 (hk.block _ h.y0.lt (up _ hy) (box_nf h.y0 (.inr (.inr (.inl rfl))))), boxed_as h.f0 (hk.block _ h.f0.lt (up _ (by omega)) (box_nf h.f0 (.inr (.inr (.inr (.inl rfl)))))), boxed_as h.u0 (hk.block _ h.u0.lt (up _ (by omega)) (box_nf h.u0 (.inr (.inr (.inr (.inr rfl)))))),
    ⟨v, boxed_as q1 (hk.block _ q1.lt (up _ (by omega)) (box_nf q1 (.inr (.inl rfl)))), own_as q2 (fun g hg => hk.block g (q2.lt g hg).2 (up g (q2.lt g hg).1) (row_nf q2 hg)), q3⟩, fun x hx => ⟨(h.gs x hx).1, Nat.lt_of_lt_of_le (h.gs x hx).2 hk.size⟩⟩
theorem St.below {b : Bl} {lp B n : Nat} {K : Int} {c : List Nat} {pre : List Rw} {W W' : World} (h : St b lp B n K c pre W) (hk : Below W.heap.size W W') : St b lp B n K c pre W' := by
  obtain ⟨v, q1, q2, q3⟩ := h.ls
  exact ⟨boxed_as h.c0 (hk.block _ h.c0.lt), boxed_as h.p0 (hk.block _ h.p0.lt), boxed_as h.y0 (hk.block _ h.y0.lt), boxed_as h.f0 (hk.block _ h.f0.lt), boxed_as h.u0 (hk.block _ h.u0.lt),
    ⟨v, boxed_as q1 (hk.block _ q1.lt), own_as q2 (fun g hg => hk.block g (q2.lt g hg).2), q3⟩, fun x hx => ⟨(h.gs x hx).1, Nat.lt_of_lt_of_le (h.gs x hx).2 hk.size⟩⟩
theorem St.more {b : Bl} {lp B n : Nat} {K : Int} {c : List Nat} {pre : List Rw} {x : Rw} {W : World} (h : St b lp B n K c pre W) (h1 : b.u < x.g ∧ x.g < W.heap.size) (h2 : ∀ v, Boxed W b.l 43 v → v.ownBlock ≠ some x.g) : St b lp B n K c (pre ++ [x]) W := by
  obtain ⟨v, q1, q2, q3⟩ := h.ls
  refine ⟨h.c0, h.p0, h.y0, h.f0, h.u0, ⟨v, q1, q2, fun z hz => ?_⟩, fun z hz => ?_⟩ <;> rcases List.mem_append.1 hz with hz | hz
  · exact q3 z hz
  · simp only [List.mem_singleton] at hz; rw [hz]; exact h2 v q1
  · exact h.gs z hz
  · simp only [List.mem_singleton] at hz; rw [hz]; exact h1
/-- What the two closures promise: so many lists L have come, or a part of them. -/
def FillP (J Jx : List Rw → World → Prop) (st : List Rw → World → Prop) (L : List (List Int)) (pre : List Rw) (e : Ending) (W' : World) : Prop :=
  (∃ news, e = .returned (.bool true) ∧ news.map Rw.M = L ∧ J (pre ++ news) W' ∧ st (pre ++ news) W') ∨ (∃ q, e = .returned (.bool false) ∧ q.map Rw.M <+: L ∧ Jx (pre ++ q) W' ∧ st (pre ++ q) W')
def numsL (K left bg : Nat) (c : List Nat) : List (List Int) := (numsD K left bg).map fun d => castL (c ++ d)
theorem numsL_cons (K left bg : Nat) (c : List Nat) (k : Nat) : numsL K left bg (c ++ [k]) = ((numsD K left bg).map (k :: ·)).map fun d => castL (c ++ d) := by
  unfold numsL
  rw [List.map_map]
  refine List.map_congr_left fun d _ => ?_
  simp
end Go.Proofs.Ytncahchhinfneaa

/-! PutN9 -/
namespace Go.Proofs.Ytncahchhinfneaa
open Go.RowKit Go.Sort

theorem own_open9 {w : World} {B g n cap : Nat} {e : TypeId} {M : List Int} (h : w.ownsRow B e 1 (.slice (some ⟨g, 0, none⟩) n cap) n (ints M)) :
    ∃ cur, B ≤ g ∧ w.heap[g]? = some (.cells cur e (0, 0)) ∧ n ≤ cap ∧ cap ≤ maxLen ∧ cur.size = cap * 1 ∧ cur.toList.take n = ints M := by
  rcases h.2 with ⟨h1, _⟩ | ⟨g', cap', cur, hv, hB, hg, hn, hc, hs, ht⟩
  · cases h1
  simp only [Value.slice.injEq, Option.some.injEq, Addr.mk.injEq, and_true, true_and] at hv
  obtain ⟨rfl, rfl⟩ := hv
  rw [Nat.mul_one] at ht
  exact ⟨cur, hB, hg, hn, hc, hs, ht⟩
theorem own_cut9 {w : World} {B g n k cap : Nat} {e : TypeId} {M : List Int} (h : w.ownsRow B e 1 (.slice (some ⟨g, 0, none⟩) n cap) n (ints M)) (hl : M.length = n) (hk : k ≤ n) :
    w.ownsRow B e 1 (.slice (some ⟨g, 0, none⟩) k cap) k (ints (M.take k)) := by
  obtain ⟨cur, hB, hg, hn, hc, hs, ht⟩ := own_open9 h
  refine ⟨by rw [ints_len, List.length_take]; omega, .inr ⟨g, cap, cur, rfl, hB, hg, by omega, hc, hs, ?_⟩⟩
  have : (cur.toList.take n).take k = (ints M).take k := by rw [ht]
  rw [List.take_take, Nat.min_eq_left hk] at this
  rw [Nat.mul_one, this, ints, ints, List.map_take]
/-- A longer list: behind the append and the store. -/
theorem St.push {b : Bl} {lp B n : Nat} {K : Int} {c : List Nat} {pre : List Rw} {W w1 : World} {v v' : Value} {k : Nat} {tmp : Obj} (h : St b lp B n K c pre W) (ho : BlOk b B) (hv : Boxed W b.l 43 v) (hx : ∀ x ∈ pre, v.ownBlock ≠ some x.g) (_hB : B ≤ W.heap.size) (ow : W.ownsRow B 3 1 v c.length (ints (castL c)))
    (hown : w1.ownsRow B 3 1 v' (c.length + 1) (ints (castL c) ++ [.int .i64 (k : Int)])) (hg : (W.alloc tmp).grownBy w1 v.ownBlock) (hat : v'.ownBlock = v.ownBlock ∨ v'.ownBlock = some (W.alloc tmp).heap.size) :
    Boxed w1 b.l 43 v ∧ St b lp B n K (c ++ [k]) pre (w1.setCell ⟨b.l, 0, none⟩ v') ∧ KeepG B (fun k => ∃ x ∈ pre, x.g = k) W (w1.setCell ⟨b.l, 0, none⟩ v') := by
  have hy := ho.y; have hl := ho.l; have hf := ho.f; have hu := ho.u; have hc := ho.c; have hp := ho.p
  have kb : ∀ {q : Nat} {t : TypeId} {u : Value}, Boxed W q t u → t ≠ 3 → Boxed w1 q t u := fun hb ht => (hb.alloc tmp).kept hg (hb.not_row ht ow)
  have kl : ∀ {q : Nat} {t : TypeId} {u : Value}, Boxed W q t u → q < B → Boxed w1 q t u := fun hb hq => (hb.alloc tmp).kept hg (fun e => by have := (ow.lt _ e.symm).1; omega)
  have ks : ∀ {q : Nat} {t : TypeId} {u : Value}, Boxed w1 q t u → q ≠ b.l → Boxed (w1.setCell ⟨b.l, 0, none⟩ v') q t u := fun hb hne => hb.other hne _
  have hbl := kb hv (by decide)
  have hsz : W.heap.size ≤ w1.heap.size := by have := hg.size; simp at this; omega
  refine ⟨hbl, ⟨ks (kl h.c0 hc) (by omega), ks (kl h.p0 hp) (by omega), ks (kb h.y0 (by decide)) (by omega), ks (kb h.f0 (by decide)) (by omega), ks (kb h.u0 (by decide)) (by omega), ⟨v', hbl.set v', ?_, ?_⟩, ?_⟩, ?_⟩
  · rw [castL_snoc, ints_snoc, List.length_append]
    exact own_as hown (fun g hg' => Below.heap_setCell _ _ _ _ (fun e => hbl.not_row (by decide) hown (by rw [hg', e])))
  · intro x hxp e
    rcases hat with h' | h'
    · exact hx x hxp (h'.symm.trans e)
    · have := (h.gs x hxp).2
      rw [h'] at e
      have := Option.some.inj e
      simp at this; omega
  · intro x hxp
    have h1 := h.gs x hxp
    refine ⟨h1.1, ?_⟩
    rw [show (w1.setCell ⟨b.l, 0, none⟩ v').heap.size = w1.heap.size from by show (w1.heap.modify _ _).size = _; rw [Array.size_modify]]
    omega
  · refine ⟨hg.os, hg.tape, hg.output, ?_, fun q hq hG => ?_, fun q hq hF => ?_⟩
    · rw [show (w1.setCell ⟨b.l, 0, none⟩ v').heap.size = w1.heap.size from by show (w1.heap.modify _ _).size = _; rw [Array.size_modify]]
      exact hsz
    · have hql : q ≠ b.l := by
        rcases hG with h1 | ⟨x, hx1, rfl⟩
        · omega
        · have := (h.gs x hx1).1; omega
      have hqv : some q ≠ v.ownBlock := by
        rcases hG with h1 | ⟨x, hx1, rfl⟩
        · intro e; have := (ow.lt _ e.symm).1; omega
        · exact fun e => hx x hx1 e.symm
      exact ((Below.heap_setCell w1 ⟨b.l, 0, none⟩ v' q hql).trans (hg.block q (by simp; omega) hqv)).trans (Below.heap_alloc W tmp q hq)
    · have hql : q ≠ b.l := fun e => box_nf hv (.inr (.inl rfl)) (by rw [← e]; exact hF)
      have hqv : some q ≠ v.ownBlock := fun e => row_nf ow e.symm hF
      exact ((Below.heap_setCell w1 ⟨b.l, 0, none⟩ v' q hql).trans (hg.block q (by simp; omega) hqv)).trans (Below.heap_alloc W tmp q hq)
/-- The list without its last number again. -/
theorem St.pop {b : Bl} {lp B n : Nat} {K : Int} {c : List Nat} {pre : List Rw} {W : World} {k g cap : Nat} (h : St b lp B n K (c ++ [k]) pre W) (ho : BlOk b B) (hv : Boxed W b.l 43 (.slice (some ⟨g, 0, none⟩) (c.length + 1) cap)) (hx : ∀ x ∈ pre, (Value.slice (some ⟨g, 0, none⟩) (c.length + 1) cap).ownBlock ≠ some x.g)
    (ow : W.ownsRow B 3 1 (.slice (some ⟨g, 0, none⟩) (c.length + 1) cap) (c.length + 1) (ints (castL (c ++ [k])))) :
    St b lp B n K c pre (W.setCell ⟨b.l, 0, none⟩ (.slice (some ⟨g, 0, none⟩) c.length cap)) ∧ KeepG B (fun k => ∃ x ∈ pre, x.g = k) W (W.setCell ⟨b.l, 0, none⟩ (.slice (some ⟨g, 0, none⟩) c.length cap)) := by
  have hy := ho.y; have hl := ho.l; have hf := ho.f; have hu := ho.u; have hc := ho.c; have hp := ho.p
  have hs : (W.setCell ⟨b.l, 0, none⟩ (.slice (some ⟨g, 0, none⟩) c.length cap)).heap.size = W.heap.size := by show (W.heap.modify _ _).size = _; rw [Array.size_modify]
  have hcut := own_cut9 ow (by rw [castL_len]; simp) (Nat.le_succ c.length)
  rw [show (castL (c ++ [k])).take c.length = castL c by rw [castL_snoc]; exact List.take_left' (castL_len c)] at hcut
  refine ⟨⟨h.c0.other (by omega) _, h.p0.other (by omega) _, h.y0.other (by omega) _, h.f0.other (by omega) _, h.u0.other (by omega) _, ⟨_, hv.set _, own_as hcut (fun g' hg' => Below.heap_setCell _ _ _ _ (fun e => hv.not_row (by decide) ow (by
    have : g' = g := by simpa [Value.ownBlock] using hg'.symm
    subst this
    rw [show g' = b.l from e]; rfl))), hx⟩, fun x hxp => ?_⟩, ⟨rfl, rfl, rfl, Nat.le_of_eq hs.symm, fun q hq hG => Below.heap_setCell _ _ _ _ (fun e => ?_), fun q hq hF => Below.heap_setCell _ _ _ _ (fun e => ?_)⟩⟩
  · rw [hs]; exact h.gs x hxp
  · have e : q = b.l := e
    rcases hG with h1 | ⟨x, hx1, rfl⟩
    · omega
    · have := (h.gs x hx1).1; omega
  · have e : q = b.l := e
    exact box_nf hv (.inr (.inl rfl)) (by rw [← e]; exact hF)
set_option maxRecDepth 100000 in
set_option maxHeartbeats 2000000 in
theorem put_any (b : Bl) (lp B n left bg k Kn : Nat) (K : Int) (c : List Nat) (pre : List Rw) (J Jx : List Rw → World → Prop) (W : World) (ho : BlOk b B) (hJ : AbG B J) (hJx : AbG B Jx) (hc : c.length ≤ 9) (hk : k ≤ 9) (_hbg : bg ≤ 9) (hB : B ≤ W.heap.size) (h0 : J pre W) (hS : St b lp B n K c pre W)
    (HF : ∀ W', B ≤ W'.heap.size → J pre W' → St b lp B n K (c ++ [k]) pre W' → Calls Try.prog 234 #[.int .i64 (max bg (k + 1) : Nat), .pointer (some ⟨b.bc, 0, none⟩), .pointer (some ⟨b.l, 0, none⟩), .pointer (some ⟨b.bp, 0, none⟩), .pointer (some ⟨b.y, 0, none⟩), .pointer (some ⟨b.u, 0, none⟩)] W' (fun e w' => B ≤ w'.heap.size ∧ FillP J Jx (fun xs W => St b lp B n K (c ++ [k]) xs W) (numsL Kn left (max bg (k + 1)) (c ++ [k])) pre e w')) :
    Calls Try.prog 233 #[.int .i64 (k : Int), .int .i64 (bg : Int), .pointer (some ⟨b.l, 0, none⟩), .pointer (some ⟨b.f, 0, none⟩)] W (fun e w' => B ≤ w'.heap.size ∧ FillP J Jx (fun xs W => St b lp B n K c xs W) (numsL Kn left (max bg (k + 1)) (c ++ [k])) pre e w') := by
  obtain ⟨i0, hi0, hz0, hz1, hz2⟩ := info_parts infoI
  have hmax : ∀ (w : World) (x y : Int) (ts : Array TypeId) (t : TypeId), (Builtin.max_ ts t #[.int .i64 x, .int .i64 y]).run Try.prog w = .ok (.int .i64 (maxI x y)) w := run_maxI
  have hmn := maxI_nat bg k
  have HFF := Lib.hid HF
  have HST := Lib.hid hS
  have HJ0 := Lib.hid h0
  obtain ⟨v, q1, q2, q3⟩ := hS.ls
  have cl := q1.cell
  have fl := q1.frozen
  have HQ1 := Lib.hid q1
  have HQ3 := Lib.hid q3
  obtain ⟨A5, c5, rfl⟩ := own_castL q2
  clear hS h0 q1 q3 HF
  generalize max bg (k + 1) = mx at *
  go_enter Try.func233, Try.ntmps233
  go_wp2_with (at_builtin; refine wpList_append_own_at _ rfl _ _ 43 rfl B 3 i0 (.int .i64 0) 1 8 Try.underlying43 hi0 hz0 hz1 hz2 rfl (by decide) _ _ _ rfl (q2.alloc _) ⟨W.heap.size, 0, none⟩ 1 1 [.int .i64 (k : Int)] rfl rfl (World.news_of_block (cs := #[.int .i64 (k : Int)]) (t := 3) (fr := (0, 0)) (heap_alloc_new W _)) ?d2 ?d3 ?d4 ?d5 ?_)
  case d2 => simp [Value.oneCell']
  case d3 => unfold maxLen; omega
  case d4 => omega
  case d5 => first | omega | (simp; omega)
  intro v' w7 own7 hgrow _ hat
  obtain ⟨g7, cap7, rfl⟩ := ownsRow_succ own7
  obtain ⟨b7, s7, k7⟩ := HST.out.push ho HQ1.out HQ3.out hB q2 own7 hgrow (by rw [size_alloc]; exact hat)
  have c7 := b7.cell
  have f7 := b7.frozen
  have HJ7 := Lib.hid (hJ _ _ _ HJ0.out k7)
  have HS7 := Lib.hid s7
  have hs7 := Nat.le_trans hB k7.size
  have cf := s7.f0.cell
  have HC7 := Lib.hid (HFF.out _ hs7 HJ7.out s7)
  clear own7 hgrow hat q2 s7 k7 cl fl b7
  unfold fillV at cf
  go_wp2_with fail
  refine HC7.out.mono ?_
  rintro e w2 ⟨hs2, hP⟩
  rcases hP with ⟨news, rfl, hn, hj, hst⟩ | ⟨news, rfl, hn, hj, hst⟩
  all_goals
    obtain ⟨v, q1, q2, q3⟩ := hst.ls
    rw [List.length_append, List.length_singleton] at q2
    obtain ⟨g2, cap2, rfl⟩ := ownsRow_succ q2
    have hcp := own_cap q2
    have hcp2 : (c.length : Int) ≤ (cap2 : Int) := by omega
    have hcp0 : (0 : Int) ≤ (c.length : Int) := by omega
    obtain ⟨s9, k9⟩ := hst.pop ho q1 q3 q2
    have cl := q1.cell
    have fl := q1.frozen
  · have R : Hid (B ≤ (w2.setCell ⟨b.l, 0, none⟩ (.slice (some ⟨g2, 0, none⟩) c.length cap2)).heap.size ∧ FillP J Jx (fun xs W => St b lp B n K c xs W) (numsL Kn left mx (c ++ [k])) pre (.returned (.bool true)) (w2.setCell ⟨b.l, 0, none⟩ (.slice (some ⟨g2, 0, none⟩) c.length cap2))) :=
      ⟨Nat.le_trans hs2 k9.size, .inl ⟨news, rfl, hn, hJ _ _ _ hj k9, s9⟩⟩
    clear hn hj hst q1 q2 q3 s9 k9 hcp
    go_wp2_with fail
    go_ret
    exact R.out
  · have R : Hid (B ≤ (w2.setCell ⟨b.l, 0, none⟩ (.slice (some ⟨g2, 0, none⟩) c.length cap2)).heap.size ∧ FillP J Jx (fun xs W => St b lp B n K c xs W) (numsL Kn left mx (c ++ [k])) pre (.returned (.bool false)) (w2.setCell ⟨b.l, 0, none⟩ (.slice (some ⟨g2, 0, none⟩) c.length cap2))) :=
      ⟨Nat.le_trans hs2 k9.size, .inr ⟨news, rfl, hn, hJx _ _ _ hj k9, s9⟩⟩
    clear hn hj hst q1 q2 q3 s9 k9 hcp
    go_wp2_with fail
    go_ret
    exact R.out
end Go.Proofs.Ytncahchhinfneaa

/-! FillN9 -/
namespace Go.Proofs.Ytncahchhinfneaa
open Go.RowKit Go.Sort

theorem numsL_zero {K bg : Nat} {c : List Nat} (h : ¬ bg < K) : numsL K 0 bg c = [castL c] := by
  unfold numsL
  simp only [numsD]
  rw [if_neg h]; simp
theorem numsL_none {K left bg : Nat} {c : List Nat} (h : bg + left < K) : numsL K left bg c = [] := by
  unfold numsL
  rw [numsD_none h]; rfl
def numsT (K left bg : Nat) (c : List Nat) (t : Nat) : List (List Int) := (List.range t).flatMap fun k => numsL K left (max bg (k + 1)) (c ++ [k])
theorem numsT_succ (K left bg : Nat) (c : List Nat) (t : Nat) : numsT K left bg c (t + 1) = numsT K left bg c t ++ numsL K left (max bg (t + 1)) (c ++ [t]) := by
  unfold numsT
  rw [List.range_succ, List.flatMap_append]; simp
theorem numsL_succ {K left bg : Nat} {c : List Nat} (h : ¬ bg + (left + 1) < K) : numsL K (left + 1) bg c = numsT K left bg c (min (bg + 1) K) := by
  unfold numsT
  simp only [numsL_cons]
  unfold numsL
  simp only [numsD]
  rw [if_neg h, List.map_flatMap]
theorem numsT_pre (K left bg : Nat) (c : List Nat) {t u : Nat} (h : t ≤ u) : numsT K left bg c t <+: numsT K left bg c u := by
  obtain ⟨d, rfl⟩ : ∃ d, u = t + d := ⟨u - t, by omega⟩
  clear h
  induction d with
  | zero => exact List.prefix_rfl
  | succ d ih => exact ih.trans (by rw [← Nat.add_assoc, numsT_succ]; exact List.prefix_append _ _)
theorem minI_nat {bg : Nat} {K : Int} : minI ((bg : Int) + 1) K = if K ≤ 0 then K else ((min (bg + 1) K.toNat : Nat) : Int) := by
  unfold minI
  split <;> split <;> omega
def RoundOk (S : List (List Int)) (B lp : Nat) (T : Nat → Prop) (J Jx : List Rw → World → Prop) : Prop := ∀ m pre x W1, J pre W1 → NewRow S B pre x W1 → YieldAt Fence.wide m Try.prog lp #[hdr x] W1 fun e W' =>
      (e = .returned (.bool true) ∧ J (pre ++ [x]) W' ∧ ButT T W1 W') ∨ (e = .returned (.bool false) ∧ Jx (pre ++ [x]) W' ∧ ButT T W1 W')
set_option maxRecDepth 100000 in
set_option maxHeartbeats 4000000 in
theorem fill_zero (b : Bl) (lp B bg : Nat) (K : Int) (S : List (List Int)) (T : Nat → Prop) (J Jx : List Rw → World → Prop) (hJ : AbG B J) (ho : BlOk b B) (hT : ∀ k, T k → k < B) (ht1 : ¬ T b.bc) (ht2 : ¬ T b.bp)
    (HY : RoundOk S B lp T J Jx) (c : List Nat) (pre : List Rw) (W : World) (hc1 : 1 ≤ c.length) (hc : c.length ≤ 9) (hbg : bg ≤ 9) (hK : ¬ ((bg : Int) < K)) (hB : B ≤ W.heap.size) (h0 : J pre W) (hS : St b lp B c.length K c pre W)
    (hp : pre.map Rw.M ++ [castL c] <+: S) :
    Calls Try.prog 234 #[.int .i64 (bg : Int), .pointer (some ⟨b.bc, 0, none⟩), .pointer (some ⟨b.l, 0, none⟩), .pointer (some ⟨b.bp, 0, none⟩), .pointer (some ⟨b.y, 0, none⟩), .pointer (some ⟨b.u, 0, none⟩)] W (fun e w' => B ≤ w'.heap.size ∧ FillP J Jx (fun xs W => St b lp B c.length K c xs W) [castL c] pre e w') := by
  refine (callsIn_wide (n := 9)).1 ?_
  refine callsIn_of_wp Try.func234 rfl trivial ?_ rfl
  have HST := Lib.hid hS
  have HJ0 := Lib.hid h0
  have HP := Lib.hid hp
  obtain ⟨v, q1, q2, q3⟩ := hS.ls
  have cl := q1.cell
  have cc := hS.c0.cell
  have cp := hS.p0.cell
  have cy := hS.y0.cell
  obtain ⟨g5, c5, rfl⟩ := own_some q2 (by omega)
  have e0 : ((c.length : Int) - (c.length : Int)) = 0 := by omega
  have e1 : (bg : Int) + 0 = (bg : Int) := by omega
  have HQ1 := Lib.hid q1
  have HO := Lib.hid (intsA_of q2)
  have k0 := cell_regrown cy; have k1 := cell_regrown cl
  clear hS h0 q1 q2 q3 hp
  simp only [Try.ntmps234, List.size_toArray, List.length_cons, List.length_nil, Nat.reduceAdd, Nat.reduceSub, Array.replicate_succ, Array.replicate_zero, List.push_toArray, List.append_toArray, List.nil_append, List.cons_append]
  gi_wp2
  refine region_make_in 1 wide0 (by kernel_rfl) (by kernel_rfl) (by kernel_rfl) ?_
  simp only [List.take_succ_cons, List.take_zero, List.drop_succ_cons, List.drop_zero]
  repeat (first
    | go_big_quiet_step (fail)
    | quiet_step (fail))
  refine wpQuiet_nil ?_
  rintro _ ⟨⟨dq, osq⟩, rfl⟩
  have hb4 := below_regrown W dq osq
  clear k0 k1 cl cc cp cy
  generalize grow (redrawn W dq) osq = W4 at *
  have S4 := HST.out.below hb4
  have O4 := intsA_on HO.out hb4
  have cl4 : W4.cell? ⟨b.l, 0, none⟩ = some (.slice (some ⟨g5, 0, none⟩) c.length c5) := (boxed_as HQ1.out (hb4.block _ HQ1.out.lt)).cell
  gi_wp2
  refine ⟨hb4, ?_⟩
  have HCL := Lib.hid (cloneI_any (some ⟨g5, 0, none⟩) c5 (castL c) W4 O4 (by rw [castL_len]; exact hc1) (by rw [castL_len]; omega))
  rw [castL_len] at HCL
  have HB4 := Lib.hid hb4
  clear hb4 S4 O4 cl4
  gi_wp2
  refine ⟨trivial, (wide0.calls HCL.out).mono ?_⟩
  rintro e W5 ⟨v5, rfl, own5, hb5'⟩
  rw [castL_len] at own5
  obtain ⟨g6, c6, rfl⟩ := own_some own5 (by omega)
  have hb5 := HB4.out.trans (hb5'.mono HB4.out.size)
  obtain ⟨x, hxg⟩ : ∃ x : Rw, x = ⟨g6, c6, castL c⟩ := ⟨_, rfl⟩
  have hxl := own5.lt g6 rfl
  have hR : RowAt W5 x := by
    rw [hxg]
    have := own_base own5 (Nat.zero_le _)
    show W5.ownsRow 0 _ 1 (hdr ⟨g6, c6, castL c⟩) (castL c).length (ints (castL c))
    unfold hdr
    rw [castL_len]; exact this
  have hW4 := HB4.out.size
  have hgs := HST.out.gs
  have hlt6 : W.heap.size ≤ g6 := Nat.le_trans hW4 hxl.1
  have S5 := HST.out.below hb5
  have J5 := hJ _ _ _ HJ0.out (KeepG.of_below hb5)
  have hu : b.u < W.heap.size := HST.out.u0.lt
  obtain ⟨fn, tmps, assign, body, hy, hR5⟩ := HY 8 pre x W5 J5 ⟨hR, by rw [hxg]; exact HP.out, by rw [hxg]; simp only; omega, fun y hy => by rw [hxg]; simp only; have := hgs y hy; omega⟩
  have S6 : St b lp B c.length K c (pre ++ [x]) W5 := S5.more (by rw [hxg]; simp only; omega) (fun v hv => by
    have e := hv.cell
    rw [(boxed_as HQ1.out (hb5.block _ HQ1.out.lt)).cell] at e
    cases e
    rw [hxg]
    intro e
    have e2 : g5 = g6 := Option.some.inj e
    obtain ⟨g, q, hc'⟩ := HO.out 0 (by rw [castL_len]; exact hc1)
    cases q
    have := World.block_lt_of_cell? W _ hc'
    simp only at this
    omega)
  have R : Hid (∀ e W', ((e = .returned (.bool true) ∧ J (pre ++ [x]) W' ∧ ButT T W5 W') ∨ (e = .returned (.bool false) ∧ Jx (pre ++ [x]) W' ∧ ButT T W5 W')) → B ≤ W'.heap.size ∧ FillP J Jx (fun xs W => St b lp B c.length K c xs W) [castL c] pre e W') := fun e W' h => by
    have hsz : B ≤ W5.heap.size := Nat.le_trans hB hb5.size
    rcases h with ⟨rfl, hj, hbt⟩ | ⟨rfl, hj, hbt⟩
    · exact ⟨Nat.le_trans hsz hbt.size, .inl ⟨[x], rfl, by rw [hxg]; rfl, hj, S6.but hbt ho hT ht1 ht2⟩⟩
    · exact ⟨Nat.le_trans hsz hbt.size, .inr ⟨[x], rfl, by rw [hxg]; exact List.prefix_rfl, hj, S6.but hbt ho hT ht1 ht2⟩⟩
  have hdr5 : hdr x = .slice (some ⟨g6, 0, none⟩) c.length c6 := by rw [hxg]; unfold hdr; rw [castL_len]
  rw [hdr5] at hy
  have hb5m := hb5
  clear hxg hdr5 hR hxl hW4 hgs hlt6 S5 J5 hu S6 own5 hb5' HCL
  gi_wp2
  refine ⟨hb5m, ?_⟩
  clear hb5 hb5m
  gi_wp2
  refine hR5.mono ?_
  intro e W6 h6
  have RR := Lib.hid (R.out e W6 h6)
  rcases h6 with ⟨rfl, -, -⟩ | ⟨rfl, -, -⟩
  · gi_wp2
    go_ret
    exact RR.out
  · gi_wp2
    go_ret
    exact RR.out
set_option maxRecDepth 100000 in
set_option maxHeartbeats 4000000 in
theorem fill_any (b : Bl) (lp B n : Nat) (K : Int) (S : List (List Int)) (T : Nat → Prop) (J Jx : List Rw → World → Prop) (hn1 : 1 ≤ n) (hn9 : n ≤ 9) (hJ : AbG B J) (hJx : AbG B Jx) (ho : BlOk b B) (hT : ∀ k, T k → k < B) (ht1 : ¬ T b.bc) (ht2 : ¬ T b.bp)
    (HY : RoundOk S B lp T J Jx) : ∀ (left bg : Nat) (c : List Nat) (pre : List Rw) (W : World), c.length + left = n → bg ≤ c.length → B ≤ W.heap.size → J pre W → St b lp B n K c pre W → (pre.map Rw.M ++ numsL K.toNat left bg c <+: S) →
    Calls Try.prog 234 #[.int .i64 (bg : Int), .pointer (some ⟨b.bc, 0, none⟩), .pointer (some ⟨b.l, 0, none⟩), .pointer (some ⟨b.bp, 0, none⟩), .pointer (some ⟨b.y, 0, none⟩), .pointer (some ⟨b.u, 0, none⟩)] W (fun e w' => B ≤ w'.heap.size ∧ FillP J Jx (fun xs W => St b lp B n K c xs W) (numsL K.toNat left bg c) pre e w') := by
  intro left
  induction left with
  | zero =>
    intro bg c pre W hcl hbg hB h0 hS hp
    obtain rfl : n = c.length := by omega
    by_cases hlt : (bg : Int) < K
    · have hL : numsL K.toNat 0 bg c = [] := numsL_none (by omega)
      have R : Hid (B ≤ W.heap.size ∧ FillP J Jx (fun xs W => St b lp B c.length K c xs W) (numsL K.toNat 0 bg c) pre (.returned (.bool true)) W) :=
        ⟨hB, .inl ⟨[], rfl, by rw [hL]; rfl, by rw [List.append_nil]; exact h0, by rw [List.append_nil]; exact hS⟩⟩
      obtain ⟨v, q1, q2, q3⟩ := hS.ls
      have cl := q1.cell
      have cc := hS.c0.cell
      have cp := hS.p0.cell
      obtain ⟨A5, c5, rfl⟩ := own_castL q2
      have e0 : ((c.length : Int) - (c.length : Int)) = 0 := by omega
      have e1 : (bg : Int) + 0 = (bg : Int) := by omega
      clear hS h0 q1 q2 q3 hp hL HY hcl
      go_enter Try.func234, Try.ntmps234
      go_wp2_with fail
      go_ret
      exact R.out
    · have hL : numsL K.toNat 0 bg c = [castL c] := numsL_zero (by omega)
      rw [hL] at hp ⊢
      exact fill_zero b lp B bg K S T J Jx hJ ho hT ht1 ht2 HY c pre W hn1 hn9 (by omega) hlt hB h0 hS hp
  | succ left ih =>
    intro bg c pre W hcl hbg hB h0 hS hp
    have hsub : (n : Int) - (c.length : Int) = ((left + 1 : Nat) : Int) := by omega
    by_cases hlt : (bg : Int) + ((left + 1 : Nat) : Int) < K
    · have hL : numsL K.toNat (left + 1) bg c = [] := numsL_none (by omega)
      have R : Hid (B ≤ W.heap.size ∧ FillP J Jx (fun xs W => St b lp B n K c xs W) (numsL K.toNat (left + 1) bg c) pre (.returned (.bool true)) W) :=
        ⟨hB, .inl ⟨[], rfl, by rw [hL]; rfl, by rw [List.append_nil]; exact h0, by rw [List.append_nil]; exact hS⟩⟩
      obtain ⟨v, q1, q2, q3⟩ := hS.ls
      have cl := q1.cell
      have cc := hS.c0.cell
      have cp := hS.p0.cell
      obtain ⟨A5, c5, rfl⟩ := own_castL q2
      have hl9 : left + 1 ≤ 9 := by omega
      generalize left + 1 = l1 at *
      clear hS h0 q1 q2 q3 hp hL HY hcl ih
      go_enter Try.func234, Try.ntmps234
      go_wp2_with fail
      go_ret
      exact R.out
    · have hL : numsL K.toNat (left + 1) bg c = numsT K.toNat left bg c (min (bg + 1) K.toNat) := numsL_succ (by omega)
      rw [hL] at hp ⊢
      have HP := Lib.hid hp
      have HPT : Hid (∀ k, k < min (bg + 1) K.toNat → ∀ W (pre' : List Rw), pre'.map Rw.M = pre.map Rw.M ++ numsT K.toNat left bg c k → B ≤ W.heap.size → J pre' W → St b lp B n K c pre' W → Calls Try.prog 233 #[.int .i64 (k : Int), .int .i64 (bg : Int), .pointer (some ⟨b.l, 0, none⟩), .pointer (some ⟨b.f, 0, none⟩)] W (fun e w' => B ≤ w'.heap.size ∧ FillP J Jx (fun xs W => St b lp B n K c xs W) (numsL K.toNat left (max bg (k + 1)) (c ++ [k])) pre' e w')) := fun k hk W pre' hpre hB hJ' hS' => by
        refine put_any b lp B n left bg k K.toNat K c pre' J Jx W ho hJ hJx (by omega) (by omega) (by omega) hB hJ' hS' fun W' hB2 hJ2 hS2 => ?_
        refine ih (max bg (k + 1)) (c ++ [k]) pre' W' (by rw [List.length_append, List.length_singleton]; omega) (by rw [List.length_append, List.length_singleton]; omega) hB2 hJ2 hS2 ?_
        have h1 := numsT_pre K.toNat left bg c (show k + 1 ≤ min (bg + 1) K.toNat by omega)
        rw [numsT_succ] at h1
        rw [hpre, List.append_assoc]
        exact ((List.prefix_append_right_inj _).2 h1).trans HP.out
      have hm := minI_nat (bg := bg) (K := K)
      have hmin : ∀ (w : World) (x y : Int) (ts : Array TypeId) (t : TypeId), (Builtin.min_ ts t #[.int .i64 x, .int .i64 y]).run Try.prog w = .ok (.int .i64 (minI x y)) w := run_minI
      obtain ⟨mn, hmn⟩ : ∃ mn : Int, mn = minI ((bg : Int) + 1) K := ⟨_, rfl⟩
      obtain ⟨q, hq⟩ : ∃ q, q = min (bg + 1) K.toNat := ⟨_, rfl⟩
      have HMN : Hid (∀ j : Nat, (j : Int) < mn ↔ j < q) := fun j => by
        rw [hmn, hm, hq]
        split <;> omega
      have hq9 : q ≤ 10 := by omega
      rw [← hq] at HPT
      obtain ⟨v, q1, q2, q3⟩ := hS.ls
      have cl := q1.cell
      have cc := hS.c0.cell
      have cp := hS.p0.cell
      obtain ⟨A5, c5, rfl⟩ := own_castL q2
      have hl9 : left + 1 ≤ 9 := by omega
      have hb9 : bg ≤ 9 := by omega
      have hc9 : c.length ≤ 9 := by omega
      have HS0 := Lib.hid hS
      have HJ0 := Lib.hid h0
      have hlz : (((left + 1 : Nat) : Int) == 0) = false := by rw [beq_eq_false_iff_ne]; omega
      rw [← hmn] at hm
      have hmn' : minI ((bg : Int) + 1) K = mn := hmn.symm
      have HU : Hid (numsT K.toNat left bg c (min (bg + 1) K.toNat) = numsT K.toNat left bg c q) := by
        show _ = _
        rw [hq]
      rw [HU.out]
      clear hS h0 q1 q2 q3 hp hL HY ih hm hmn hq HU
      generalize left + 1 = l1 at *
      go_enter Try.func234, Try.ntmps234
      go_wp2_with fail
      go_loopw [9, 29] (fun _ i wr => ∃ (k : Nat) (news : List Rw), k ≤ q ∧ i = .int .i64 k ∧ B ≤ wr.heap.size ∧ Hid (J (pre ++ news) wr) ∧ St b lp B n K c (pre ++ news) wr ∧ Hid (news.map Rw.M = numsT K.toNat left bg c k)) (fun _ i _ => q - (intOf i).toNat)
      case atStart => exact ⟨0, [], Nat.zero_le _, rfl, hB, by rw [List.append_nil]; exact HJ0, by rw [List.append_nil]; exact HS0.out, rfl⟩
      case round =>
        clear cl cc cp HS0 HJ0 hB
        obtain ⟨wo, rfl⟩ : ∃ wo : World, wo = wr := ⟨_, rfl⟩
        obtain ⟨k, news, hk, rfl, hBw, HJ1, hS1, HN⟩ := hrel
        by_cases hkq : k < q
        · have hkm : (k : Int) < mn := (HMN.out k).2 hkq
          have HC := Lib.hid (HPT.out k hkq wo (pre ++ news) (by rw [List.map_append, HN.out]) hBw HJ1.out hS1)
          have cu := hS1.u0.cell
          unfold putV at cu
          clear hS1 hBw
          go_wp2_with fail
          refine HC.out.mono ?_
          rintro e w2 ⟨hB2, hP⟩
          rcases hP with ⟨news2, rfl, hn2, hj2, hs2⟩ | ⟨news2, rfl, hn2, hj2, hs2⟩
          · have HJ2 : Hid (J (pre ++ (news ++ news2)) w2) := by
              show J _ _
              rw [← List.append_assoc]; exact hj2
            have HS2 : Hid (St b lp B n K c (pre ++ (news ++ news2)) w2) := by
              show St _ _ _ _ _ _ _ _
              rw [← List.append_assoc]; exact hs2
            have HN2 : Hid ((news ++ news2).map Rw.M = numsT K.toNat left bg c (k + 1)) := by
              show _ = _
              rw [List.map_append, HN.out, hn2, numsT_succ]
            clear hn2 hj2 hs2
            go_wp2_with fail
            go_roundw
            case rel => exact ⟨k + 1, news ++ news2, by omega, by go_num, hB2, HJ2, HS2.out, HN2⟩
            case measure => simp [intOf]; omega
          · have R : Hid (B ≤ w2.heap.size ∧ FillP J Jx (fun xs W => St b lp B n K c xs W) (numsT K.toNat left bg c q) pre (.returned (.bool false)) w2) := by
              refine ⟨hB2, .inr ⟨news ++ news2, rfl, ?_, by rw [← List.append_assoc]; exact hj2, by rw [← List.append_assoc]; exact hs2⟩⟩
              rw [List.map_append, HN.out]
              have h1 := numsT_pre K.toNat left bg c (show k + 1 ≤ q by omega)
              rw [numsT_succ] at h1
              exact ((List.prefix_append_right_inj _).2 hn2).trans h1
            clear hn2 hj2 hs2
            go_wp2_with fail
            go_ret
            exact R.out
        · have hkm : ¬ ((k : Int) < mn) := fun h => hkq ((HMN.out k).1 h)
          obtain rfl : k = q := by omega
          have R : Hid (B ≤ wo.heap.size ∧ FillP J Jx (fun xs W => St b lp B n K c xs W) (numsT K.toNat left bg c k) pre (.returned (.bool true)) wo) :=
            ⟨hBw, .inl ⟨news, rfl, HN.out, HJ1.out, hS1⟩⟩
          clear hS1
          go_wp2_with fail
          go_ret
          exact R.out
end Go.Proofs.Ytncahchhinfneaa

/-! SeqN9 -/
namespace Go.Proofs.Ytncahchhinfneaa
open Go.RowKit Go.Sort

theorem numberings_any (n : Nat) (K : Int) (W : World) :
    Calls Try.prog 214 #[.int .i64 n, .int .i64 K] W fun e w' => e = .returned (.func (.func 232) #[] #[.pointer (some ⟨W.heap.size, 0, none⟩), .pointer (some ⟨W.heap.size + 1, 0, none⟩)]) ∧ (W.alloc (.cells #[.int .i64 n] 3)).alloc (.cells #[.int .i64 K] 3) = w' := by
  go_enter Try.func214, Try.ntmps214
  go_wp2_with fail
  go_ret
  exact ⟨rfl, rfl⟩
def listsN (K n : Nat) : List (List Int) := (numsD K n 0).map castL
theorem listsN_eq (K n : Nat) : numsL K n 0 [] = listsN K n := rfl
set_option maxRecDepth 100000 in
set_option maxHeartbeats 2000000 in
theorem seqN (bc bp n : Nat) (K : Int) (w0 : World) (hn1 : 1 ≤ n) (hn9 : n ≤ 9) (h1 : Boxed w0 bc 3 (.int .i64 n)) (h2 : Boxed w0 bp 3 (.int .i64 K)) :
    SeqG Try.prog 232 #[.pointer (some ⟨bc, 0, none⟩), .pointer (some ⟨bp, 0, none⟩)] (listsN K.toNat n) (fun k => k = bc ∨ k = bp) w0 := by
  intro l T J Jx W hW hT hC hJ hJx hY h0 m
  refine (callsIn_wide (n := m)).2 ?_
  obtain ⟨b, hb⟩ : ∃ b : Bl, b = ⟨bc, bp, W.heap.size, W.heap.size + 1, W.heap.size + 1 + 1, W.heap.size + 1 + 1 + 1⟩ := ⟨_, rfl⟩
  have hbc : bc < W.heap.size := Nat.lt_of_lt_of_le h1.lt hW.size
  have hbp : bp < W.heap.size := Nat.lt_of_lt_of_le h2.lt hW.size
  have ho : BlOk b W.heap.size := by rw [hb]; exact ⟨hbc, hbp, Nat.le_refl _, by simp, by simp, by simp⟩
  have g1 : Boxed W bc 3 (.int .i64 n) := boxed_as h1 (hW.block _ h1.lt)
  have g2 : Boxed W bp 3 (.int .i64 K) := boxed_as h2 (hW.block _ h2.lt)
  have HF := Lib.hid (fun W' h1 h2 h3 => fill_any b l W.heap.size n K (listsN K.toNat n) T J Jx hn1 hn9 hJ hJx ho hT (hC b.bc (by rw [hb]; exact .inl rfl)) (hC b.bp (by rw [hb]; exact .inr rfl)) hY n 0 [] [] W' (by simp) (Nat.le_refl _) h1 h2 h3 (by rw [listsN_eq]; exact List.prefix_rfl))
  rw [listsN_eq, hb] at HF
  simp only at HF
  have hbA : Below W.heap.size W ((((W.alloc (.cells #[.func (.yield l) #[] #[]] 76)).alloc (.cells #[.slice none 0 0] 43)).alloc (.cells #[.func (.func 234) #[] #[.pointer (some ⟨bc, 0, none⟩), .pointer (some ⟨W.heap.size + 1, 0, none⟩), .pointer (some ⟨bp, 0, none⟩), .pointer (some ⟨W.heap.size, 0, none⟩), .pointer (some ⟨W.heap.size + 1 + 1 + 1, 0, none⟩)]] 92)).alloc (.cells #[.func (.func 233) #[] #[.pointer (some ⟨W.heap.size + 1, 0, none⟩), .pointer (some ⟨W.heap.size + 1 + 1, 0, none⟩)]] 203)) := ((((Below.refl _ W).alloc (Nat.le_refl _) _).alloc (by simp) _).alloc (by simp; omega) _).alloc (by simp; omega) _
  have yA := (((Boxed.new W 76 (.func (.yield l) #[] #[])).alloc (.cells #[.slice none 0 0] 43)).alloc (.cells #[.func (.func 234) #[] #[.pointer (some ⟨bc, 0, none⟩), .pointer (some ⟨W.heap.size + 1, 0, none⟩), .pointer (some ⟨bp, 0, none⟩), .pointer (some ⟨W.heap.size, 0, none⟩), .pointer (some ⟨W.heap.size + 1 + 1 + 1, 0, none⟩)]] 92)).alloc (.cells #[.func (.func 233) #[] #[.pointer (some ⟨W.heap.size + 1, 0, none⟩), .pointer (some ⟨W.heap.size + 1 + 1, 0, none⟩)]] 203)
  have lA := ((Boxed.new (W.alloc (.cells #[.func (.yield l) #[] #[]] 76)) 43 (.slice none 0 0)).alloc (.cells #[.func (.func 234) #[] #[.pointer (some ⟨bc, 0, none⟩), .pointer (some ⟨W.heap.size + 1, 0, none⟩), .pointer (some ⟨bp, 0, none⟩), .pointer (some ⟨W.heap.size, 0, none⟩), .pointer (some ⟨W.heap.size + 1 + 1 + 1, 0, none⟩)]] 92)).alloc (.cells #[.func (.func 233) #[] #[.pointer (some ⟨W.heap.size + 1, 0, none⟩), .pointer (some ⟨W.heap.size + 1 + 1, 0, none⟩)]] 203)
  have fA := (Boxed.new ((W.alloc (.cells #[.func (.yield l) #[] #[]] 76)).alloc (.cells #[.slice none 0 0] 43)) 92 (.func (.func 234) #[] #[.pointer (some ⟨bc, 0, none⟩), .pointer (some ⟨W.heap.size + 1, 0, none⟩), .pointer (some ⟨bp, 0, none⟩), .pointer (some ⟨W.heap.size, 0, none⟩), .pointer (some ⟨W.heap.size + 1 + 1 + 1, 0, none⟩)])).alloc (.cells #[.func (.func 233) #[] #[.pointer (some ⟨W.heap.size + 1, 0, none⟩), .pointer (some ⟨W.heap.size + 1 + 1, 0, none⟩)]] 203)
  have uA := Boxed.new (((W.alloc (.cells #[.func (.yield l) #[] #[]] 76)).alloc (.cells #[.slice none 0 0] 43)).alloc (.cells #[.func (.func 234) #[] #[.pointer (some ⟨bc, 0, none⟩), .pointer (some ⟨W.heap.size + 1, 0, none⟩), .pointer (some ⟨bp, 0, none⟩), .pointer (some ⟨W.heap.size, 0, none⟩), .pointer (some ⟨W.heap.size + 1 + 1 + 1, 0, none⟩)]] 92)) 203 (.func (.func 233) #[] #[.pointer (some ⟨W.heap.size + 1, 0, none⟩), .pointer (some ⟨W.heap.size + 1 + 1, 0, none⟩)])
  simp only [World.size_alloc] at lA fA uA
  have c1A := boxed_as g1 (hbA.block _ hbc)
  have c2A := boxed_as g2 (hbA.block _ hbp)
  have HST : Hid (St ⟨bc, bp, W.heap.size, W.heap.size + 1, W.heap.size + 1 + 1, W.heap.size + 1 + 1 + 1⟩ l W.heap.size n K [] [] ((((W.alloc (.cells #[.func (.yield l) #[] #[]] 76)).alloc (.cells #[.slice none 0 0] 43)).alloc (.cells #[.func (.func 234) #[] #[.pointer (some ⟨bc, 0, none⟩), .pointer (some ⟨W.heap.size + 1, 0, none⟩), .pointer (some ⟨bp, 0, none⟩), .pointer (some ⟨W.heap.size, 0, none⟩), .pointer (some ⟨W.heap.size + 1 + 1 + 1, 0, none⟩)]] 92)).alloc (.cells #[.func (.func 233) #[] #[.pointer (some ⟨W.heap.size + 1, 0, none⟩), .pointer (some ⟨W.heap.size + 1 + 1, 0, none⟩)]] 203))) :=
    ⟨c1A, c2A, yA, fA, uA, ⟨_, lA, World.ownsRow_nil _ _ _ _, fun x hx => by cases hx⟩, fun x hx => by cases hx⟩
  have HC := Lib.hid (HF.out _ hbA.size (hJ _ _ _ h0 (KeepG.of_below hbA)) HST.out)
  rw [show ((0 : Nat) : Int) = 0 from rfl] at HC
  clear yA lA fA uA c1A c2A HST hbA HF ho hY h0 g1 g2
  go_enter Try.func232, Try.ntmps232
  go_wp2_with fail
  refine HC.out.mono ?_
  rintro e w2 ⟨-, hP⟩
  rcases hP with ⟨news, rfl, hn, hj, -⟩ | ⟨news, rfl, hn, hj, -⟩
  · rw [List.nil_append] at hj
    have R := Lib.hid (And.intro hn hj)
    clear hn hj
    go_wp2_with fail
    go_end0
    exact ⟨⟨_, rfl⟩, .inl ⟨news, R.out.1, R.out.2⟩⟩
  · rw [List.nil_append] at hj
    have R := Lib.hid (And.intro hn hj)
    clear hn hj
    go_wp2_with fail
    go_end0
    exact ⟨⟨_, rfl⟩, .inr ⟨news, R.out.1, R.out.2⟩⟩
end Go.Proofs.Ytncahchhinfneaa

/-! RowsL9 -/
namespace Go.Proofs.Ytncahchhinfneaa
open Go.RowKit

theorem infoR9 : (Try.prog.info? 43).map (fun i => (i.zero, i.size, i.bytes)) = some (some (.slice none 0 0), 1, 24) := by kernel_rfl
theorem RowsR.snoc9 {w w1 w2 w3 : World} {B : Nat} {v v' : Value} {Rs : List Rw} {r : Rw} (h : RowsR w B v Rs) (h1 : w.grownBy w1 none) (hr : w1.ownsRow B 3 1 (hdr r) r.M.length (ints r.M)) (hlo : w.heap.size ≤ r.g)
    (h2 : w1.grownBy w2 none) (ho : w3.ownsRow B 43 1 v' (Rs.length + 1) (Rs.map hdr ++ [hdr r])) (h3 : w2.grownBy w3 v.ownBlock) (hl : v'.ownBlock = v.ownBlock ∨ v'.ownBlock = some w2.heap.size) : RowsR w3 B v' (Rs ++ [r]) := by
  have hrl := (hr.lt r.g rfl).2
  have hvl : ∀ b, v.ownBlock = some b → b < w.heap.size := fun b hb => (h.out.lt b hb).2
  have hs1 := h1.size; have hs2 := h2.size
  refine ⟨by simpa using ho, ?_, ?_, ?_⟩
  · intro x hx
    rcases List.mem_append.1 hx with hx | hx
    · exact (((h.row x hx).kept h1 (.inr (by simp [hdr_own]))).kept h2 (.inr (by simp [hdr_own]))).kept h3 (.inr (fun e => h.far x hx (by rw [← e, hdr_own])))
    · rw [List.mem_singleton.1 hx]
      refine (hr.kept h2 (.inr (by simp [hdr_own]))).kept h3 (.inr (fun e => ?_))
      have := hvl r.g (by rw [← e, hdr_own])
      omega
  · intro x hx e
    rcases hl with q | q
    · rw [q] at e
      rcases List.mem_append.1 hx with hx | hx
      · exact h.far x hx e
      · rw [List.mem_singleton.1 hx] at e
        have := hvl _ e
        omega
    · rw [q] at e
      have e := Option.some.inj e
      rcases List.mem_append.1 hx with hx | hx
      · have := (h.lt hx).2; omega
      · rw [List.mem_singleton.1 hx] at e; omega
  · rw [List.map_append]
    refine List.nodup_append.2 ⟨h.nodup, by simp, ?_⟩
    intro a ha b hb e
    obtain ⟨x, hx, rfl⟩ := List.mem_map.1 ha
    simp only [List.map_cons, List.map_nil, List.mem_singleton] at hb
    have := (h.lt hx).2
    omega
theorem RowsR.snocOld9 {w w2 w3 : World} {B : Nat} {v v' : Value} {Rs : List Rw} {r : Rw} (h : RowsR w B v Rs) (hr : w.ownsRow B 3 1 (hdr r) r.M.length (ints r.M)) (hf : v.ownBlock ≠ some r.g) (hn : ∀ x ∈ Rs, x.g ≠ r.g)
    (h2 : w.grownBy w2 none) (ho : w3.ownsRow B 43 1 v' (Rs.length + 1) (Rs.map hdr ++ [hdr r])) (h3 : w2.grownBy w3 v.ownBlock) (hl : v'.ownBlock = v.ownBlock ∨ v'.ownBlock = some w2.heap.size) : RowsR w3 B v' (Rs ++ [r]) := by
  have hs2 := h2.size
  have hrl := (hr.lt r.g rfl).2
  refine ⟨by simpa using ho, ?_, ?_, ?_⟩
  · intro x hx
    rcases List.mem_append.1 hx with hx | hx
    · exact ((h.row x hx).kept h2 (.inr (by simp [hdr_own]))).kept h3 (.inr (fun e => h.far x hx (by rw [← e, hdr_own])))
    · rw [List.mem_singleton.1 hx]
      exact (hr.kept h2 (.inr (by simp [hdr_own]))).kept h3 (.inr (fun e => hf (by rw [← e, hdr_own])))
  · intro x hx e
    rcases hl with q | q
    · rw [q] at e
      rcases List.mem_append.1 hx with hx | hx
      · exact h.far x hx e
      · rw [List.mem_singleton.1 hx] at e
        exact hf e
    · rw [q] at e
      have e := Option.some.inj e
      rcases List.mem_append.1 hx with hx | hx
      · have := (h.lt hx).2; omega
      · rw [List.mem_singleton.1 hx] at e; omega
  · rw [List.map_append]
    refine List.nodup_append.2 ⟨h.nodup, by simp, ?_⟩
    intro a ha b hb e
    obtain ⟨x, hx, rfl⟩ := List.mem_map.1 ha
    simp only [List.map_cons, List.map_nil, List.mem_singleton] at hb
    exact hn x hx (e.trans hb)
theorem RowsR.kept9 {w w' : World} {B : Nat} {v : Value} {Rs : List Rw} {row : Option Nat} (h : RowsR w B v Rs) (hg : w.grownBy w' row) (h1 : ∀ k, row = some k → v.ownBlock ≠ some k ∧ ∀ r ∈ Rs, r.g ≠ k) : RowsR w' B v Rs := by
  refine ⟨h.out.kept hg ?_, fun r hr => (h.row r hr).kept hg (.inr fun e => (h1 r.g (by rw [← e, hdr_own])).2 r hr rfl), h.far, h.nodup⟩
  cases hv : v.ownBlock with
  | none => exact .inl rfl
  | some b => exact .inr fun e => (h1 b e.symm).1 hv
theorem RowsR.top9 {w : World} {B : Nat} {v : Value} {Rs : List Rw} (h : RowsR w B v Rs) : (∀ k, v.ownBlock = some k → k < w.heap.size) ∧ ∀ r ∈ Rs, r.g < w.heap.size :=
  ⟨fun k hk => (h.out.lt k hk).2, fun _ hr => (h.lt hr).2⟩
def ListsR9 (w : World) (M : List (List Int)) (e : Ending) (w' : World) : Prop := ∃ v Rs, e = .returned v ∧ RowsR w' w.heap.size v Rs ∧ Rs.map Rw.M = M ∧ Below w.heap.size w w'
theorem below_grown9 {w w' : World} (hb : Below w.heap.size w w') : w.grownBy w' none := ⟨hb.os, hb.tape, hb.output, hb.size, fun k hk _ => hb.block k hk⟩
end Go.Proofs.Ytncahchhinfneaa

/-! NumS9 -/
namespace Go.Proofs.Ytncahchhinfneaa
open Go.RowKit

/-- A level of beginnings: their rows, and their counts. -/
structure Lv (S : List (List Nat × Nat)) (v8 v9 : Value) (Rs : List Rw) (B : Nat) (w : World) : Prop where
  rows : RowsR w B v8 Rs
  mem : Rs.map Rw.M = S.map (fun s => castL s.1)
  cnt : w.ownsRow B 3 1 v9 S.length (ints (castL (S.map (·.2))))
  sep1 : v8.ownBlock ≠ v9.ownBlock
  sep2 : ∀ r ∈ Rs, v9.ownBlock ≠ some r.g
theorem Lv.len {S : List (List Nat × Nat)} {v8 v9 : Value} {Rs : List Rw} {B : Nat} {w : World} (h : Lv S v8 v9 Rs B w) : Rs.length = S.length := by
  have := congrArg List.length h.mem
  simpa using this
theorem Lv.below {S : List (List Nat × Nat)} {v8 v9 : Value} {Rs : List Rw} {B : Nat} {w w' : World} (h : Lv S v8 v9 Rs B w) (hb : Below w.heap.size w w') : Lv S v8 v9 Rs B w' := ⟨h.rows.below hb, h.mem, own_below h.cnt hb, h.sep1, h.sep2⟩
theorem Lv.base {S : List (List Nat × Nat)} {v8 v9 : Value} {Rs : List Rw} {B B' : Nat} {w : World} (h : Lv S v8 v9 Rs B w) (hb : B' ≤ B) : Lv S v8 v9 Rs B' w := ⟨h.rows.base hb, h.mem, own_base h.cnt hb, h.sep1, h.sep2⟩
theorem lv_made (w : World) (B : Nat) (hB : B ≤ w.heap.size) : Lv [] (.slice (some ⟨w.heap.size, 0, none⟩) 0 0) (.slice (some ⟨w.heap.size + 1, 0, none⟩) 0 0) [] B ((w.alloc (.cells #[] 43)).alloc (.cells #[] 3)) := by
  have o1 := World.ownsRow_lit (base := B) (e := 43) (size := 1) w #[] 0 hB (by decide) rfl
  have o2 := World.ownsRow_lit (base := B) (e := 3) (size := 1) (w.alloc (.cells #[] 43)) #[] 0 (by rw [size_alloc]; omega) (by decide) rfl
  rw [size_alloc] at o2
  exact ⟨⟨o1.alloc _, fun r hr => (by cases hr), fun r hr => (by cases hr), by simp⟩, rfl, o2, by simp [Value.ownBlock], fun r hr => (by cases hr)⟩
theorem lv_zero (w : World) : Lv [([], 0)] (.slice (some ⟨w.heap.size + 1, 0, none⟩) 1 1) (.slice (some ⟨w.heap.size + 1 + 1, 0, none⟩) 1 1) [⟨w.heap.size, 0, []⟩] w.heap.size
    (((w.alloc (.cells #[] 3)).alloc (.cells #[.slice (some ⟨w.heap.size, 0, none⟩) 0 0] 43)).alloc (.cells #[.int .i64 0] 3)) := by
  have o0 := World.ownsRow_lit (base := w.heap.size) (e := 3) (size := 1) w #[] 0 (Nat.le_refl _) (by decide) rfl
  have o1 := World.ownsRow_lit (base := w.heap.size) (e := 43) (size := 1) (w.alloc (.cells #[] 3)) #[.slice (some ⟨w.heap.size, 0, none⟩) 0 0] 1 (by rw [size_alloc]; omega) (by decide) rfl
  have o2 := World.ownsRow_lit (base := w.heap.size) (e := 3) (size := 1) ((w.alloc (.cells #[] 3)).alloc (.cells #[.slice (some ⟨w.heap.size, 0, none⟩) 0 0] 43)) #[.int .i64 0] 1 (by rw [size_alloc, size_alloc]; omega) (by decide) rfl
  rw [size_alloc] at o1
  rw [size_alloc, size_alloc] at o2
  refine ⟨⟨o1.alloc _, fun r hr => ?_, fun r hr => ?_, by simp⟩, rfl, o2, by simp [Value.ownBlock], fun r hr => ?_⟩
  · rw [List.mem_singleton.1 hr]; exact (o0.alloc _).alloc _
  · rw [List.mem_singleton.1 hr]; simp [Value.ownBlock]
  · rw [List.mem_singleton.1 hr]; simp [Value.ownBlock]; omega
/-- What lies at a place. -/
theorem Lv.forms {S : List (List Nat × Nat)} {v8 v9 : Value} {Rs : List Rw} {B : Nat} {w : World} (h : Lv S v8 v9 Rs B w) : ∃ A8 c8 A9 c9, v8 = .slice A8 S.length c8 ∧ v9 = .slice A9 S.length c9 ∧ ∀ k (hk : k < S.length), ∃ g8 g9 gr cr, A8 = some ⟨g8, 0, none⟩ ∧ A9 = some ⟨g9, 0, none⟩ ∧ ∀ W', Below w.heap.size w W' →
    W'.cell? ⟨g8, k, none⟩ = some (.slice (some ⟨gr, 0, none⟩) (S[k]).1.length cr) ∧ W'.cell? ⟨g9, k, none⟩ = some (.int .i64 ((S[k]).2 : Nat)) ∧ W'.ownsRow B 3 1 (.slice (some ⟨gr, 0, none⟩) (S[k]).1.length cr) (S[k]).1.length (ints (castL (S[k]).1)) := by
  obtain ⟨A8, c8, rfl, h8⟩ := h.rows.form
  have hl := h.len
  obtain ⟨A9, c9, rfl⟩ := own_castL h.cnt
  refine ⟨A8, c8, A9, c9, by rw [hl], rfl, fun k hk => ?_⟩
  obtain ⟨g8, rfl, q8⟩ := h8 k (by omega)
  obtain ⟨g9, rfl, q9⟩ := intsA_of h.cnt k (by rw [castL_len, List.length_map]; exact hk)
  have hr : k < Rs.length := by omega
  have e : (Rs[k]).M = castL (S[k]).1 := by
    have h1 := congrArg (fun l => l[k]?) h.mem
    simp only [List.getElem?_map, List.getElem?_eq_getElem hr, List.getElem?_eq_getElem hk, Option.map_some] at h1
    exact Option.some.inj h1
  have hrow := h.rows.row _ (List.getElem_mem hr)
  have hh : hdr Rs[k] = .slice (some ⟨(Rs[k]).g, 0, none⟩) (S[k]).1.length (Rs[k]).cap := by unfold hdr; rw [e, castL_len]
  refine ⟨g8, g9, (Rs[k]).g, (Rs[k]).cap, rfl, rfl, fun W' hb => ⟨?_, ?_, ?_⟩⟩
  · have := cell_on hb rfl q8
    rw [hh] at this; exact this
  · have := cell_on hb rfl q9
    rw [this]; simp [castL]
  · rw [hh, e, castL_len] at hrow
    exact own_below hrow hb
theorem news_ints9 {w : World} {g : Nat} {M : List Int} (h : IntsA w (some ⟨g, 0, none⟩) M) : ∀ (j : Nat) (u : Value), (ints M)[j]? = some u → w.cell? ⟨g, j, none⟩ = some u := fun j u hu => by
  rcases Nat.lt_or_ge j M.length with hj | hj
  · obtain ⟨g', e, hc⟩ := h j hj
    cases e
    rw [hc, ← hu]; simp [ints, hj]
  · rw [List.getElem?_eq_none (by rw [ints_len]; exact hj)] at hu; cases hu
theorem row_of {w : World} {B n : Nat} {v : Value} {M : List Int} (h : w.ownsRow B 3 1 v (n + 1) (ints M)) : ∃ r : Rw, v = hdr r ∧ r.M = M ∧ B ≤ r.g ∧ w.ownsRow B 3 1 (hdr r) r.M.length (ints r.M) := by
  obtain ⟨g, c, rfl⟩ := ownsRow_succ h
  have hl : M.length = n + 1 := by have := h.1; rw [ints_len] at this; omega
  refine ⟨⟨g, c, M⟩, by unfold hdr; rw [hl], rfl, (h.lt g rfl).1, ?_⟩
  unfold hdr
  simp only [hl]
  exact h
theorem Lv.cnt3 {S : List (List Nat × Nat)} {v8 v9 : Value} {Rs : List Rw} {B : Nat} {w w1 w3 : World} {c : Obj} (h : Lv S v8 v9 Rs B w) (hb : Below w.heap.size w w1) (h3 : (w1.alloc c).grownBy w3 v8.ownBlock) : w3.ownsRow B 3 1 v9 S.length (ints (castL (S.map (·.2)))) :=
  ((own_below h.cnt hb).alloc c).kept h3 (.inr (fun e => h.sep1 e.symm))
theorem Lv.push {S : List (List Nat × Nat)} {v8 v9 v8' v9' : Value} {Rs : List Rw} {B b : Nat} {w w1 w3 w5 : World} {r : Rw} {x : Value} {c : List Nat} (hx : hdr r = x) (h : Lv S v8 v9 Rs B w) (hb : Below w.heap.size w w1) (hr : w1.ownsRow B 3 1 (hdr r) r.M.length (ints r.M)) (hlo : w.heap.size ≤ r.g) (hm : r.M = castL c)
    (ho : w3.ownsRow B 43 1 v8' (Rs.length + 1) (Rs.map hdr ++ [x])) (h3 : (w1.alloc (.cells #[x] 43)).grownBy w3 v8.ownBlock) (hl : v8'.ownBlock = v8.ownBlock ∨ v8'.ownBlock = some (w1.alloc (.cells #[x] 43)).heap.size)
    (ho5 : w5.ownsRow B 3 1 v9' (S.length + 1) (ints (castL (S.map (·.2))) ++ [.int .i64 (b : Int)])) (h5 : (w3.alloc (.cells #[.int .i64 (b : Int)] 3)).grownBy w5 v9.ownBlock) (hl5 : v9'.ownBlock = v9.ownBlock ∨ v9'.ownBlock = some (w3.alloc (.cells #[.int .i64 (b : Int)] 3)).heap.size) :
    Lv (S ++ [(c, b)]) v8' v9' (Rs ++ [r]) B w5 := by
  subst hx
  have R3 := h.rows.snoc9 (r := r) (below_grown9 hb) hr hlo (World.grownBy_alloc w1 _ none) ho h3 hl
  have hv9 : ∀ k, v9.ownBlock = some k → k < w.heap.size := fun k hk => (h.cnt.lt k hk).2
  have hs1 := hb.size
  have hs3 := h3.size
  rw [size_alloc] at hs3 hl hl5
  have e8 : v8'.ownBlock ≠ v9.ownBlock := by
    rcases hl with e | e
    · rw [e]; exact h.sep1
    · intro q
      have := hv9 _ (q.symm.trans e)
      omega
  have e9 : ∀ x ∈ Rs ++ [r], v9.ownBlock ≠ some x.g := fun x hx q => by
    rcases List.mem_append.1 hx with hx | hx
    · exact h.sep2 x hx q
    · rw [List.mem_singleton.1 hx] at q
      have := hv9 _ q
      omega
  have R5 := (R3.below (below1 w3 (.cells #[.int .i64 (b : Int)] 3))).kept9 h5 (fun k hk => ⟨fun q => e8 (q.trans hk.symm), fun x hx q => e9 x hx (by rw [hk, q])⟩)
  obtain ⟨t1, t2⟩ := R3.top9
  refine ⟨R5, by simp [h.mem, hm], ?_, ?_, ?_⟩
  · rw [List.length_append, List.map_append, List.map_singleton, castL_snoc, ints_snoc]; exact ho5
  · rcases hl5 with e | e
    · rw [e]; exact e8
    · rw [e]; intro q
      have := t1 _ q
      omega
  · intro x hx
    rcases hl5 with e | e
    · rw [e]; exact e9 x hx
    · rw [e]; intro q
      have := t2 x hx
      have := Option.some.inj q
      omega
set_option maxRecDepth 100000 in
set_option maxHeartbeats 8000000 in
theorem specNums_any (n K : Nat) (W : World) (hn1 : 1 ≤ n) (hn9 : n ≤ 9) (hK : K ≤ 9) :
    Calls Try.prog 211 #[.int .i64 n, .int .i64 K] W (ListsR9 W (listsN K n)) := by
  obtain ⟨i0, hi0, hz0, hz1, hz2⟩ := info_parts infoR9
  obtain ⟨i1, hi1, hy0, hy1, hy2⟩ := info_parts infoI
  have HL0 := Lib.hid (lv_zero W)
  have hb0 : Below W.heap.size W (((W.alloc (.cells #[] 3)).alloc (.cells #[.slice (some ⟨W.heap.size, 0, none⟩) 0 0] 43)).alloc (.cells #[.int .i64 0] 3)) := (((Below.refl _ W).alloc (Nat.le_refl _) _).alloc (by simp) _).alloc (by simp; omega) _
  have HB0 := Lib.hid hb0
  have R : Hid (∀ v9 v8 Rs w', Lv (levN K n n) v8 v9 Rs W.heap.size w' → Below W.heap.size W w' → ListsR9 W (listsN K n) (.returned v8) w') := fun v9 v8 Rs w' h hb => ⟨v8, Rs, rfl, h.rows, by
    rw [h.mem]
    unfold listsN
    rw [← lev_fst hn1, List.map_map]; rfl, hb⟩
  have HLL : Hid (∀ i, i ≤ n → (levN K n i).length ≤ 362880 ∧ (∀ s ∈ levN K n i, s.1.length = i ∧ s.2 ≤ i)) := fun i hi => ⟨Nat.le_trans (levN_len i hi) (facN_le (by omega)), fun s hs => ⟨(lev_mem i s hi hs).1, (lev_mem i s hi hs).2.1⟩⟩
  clear hb0
  go_enter Try.func211, Try.ntmps211
  go_wp2_with fail
  go_loopw [5, 6, 7] (fun v8 v9 iv wr => ∃ (i : Nat) (Rs : List Rw), i ≤ n ∧ iv = .int .i64 i ∧ Hid (Lv (levN K n i) v8 v9 Rs W.heap.size wr) ∧ Hid (Below W.heap.size W wr)) (fun _ _ iv _ => n - (intOf iv).toNat)
  case atStart => exact ⟨0, _, Nat.zero_le _, rfl, HL0, HB0⟩
  case round =>
    clear HL0 HB0
    obtain ⟨wi, rfl⟩ : ∃ wi : World, wi = wr := ⟨_, rfl⟩
    obtain ⟨i, Rs, hi, rfl, HL, HB⟩ := hrel
    by_cases hin : i < n
    · obtain ⟨A8, c8, A9, c9, rfl, rfl, hat⟩ := HL.out.forms
      have HAT := Lib.hid hat
      obtain ⟨hS1, hS2⟩ := HLL.out i hi
      have HS2 := Lib.hid hS2
      have HNX : Hid (∀ S', S' = levT K (n - 1 - i) (levN K n i) (levN K n i).length → S' = levN K n (i + 1)) := fun S' h => by rw [h, levT_all]; rfl
      have HTL : Hid (∀ k, k ≤ (levN K n i).length → (levT K (n - 1 - i) (levN K n i) k).length ≤ 3628800) := fun k hk => by
        have h1 := levT_len (K := K) (left := n - 1 - i) (i := i) (fun s hs => (hS2 s hs).2) k hk
        have h2 : (i + 1) * k ≤ 10 * 362880 := Nat.mul_le_mul (by omega) (by omega)
        omega
      have hLM := Lib.hid (lv_made wi wi.heap.size (Nat.le_refl _))
      have hbM : Hid (Below wi.heap.size wi ((wi.alloc (.cells #[] 43)).alloc (.cells #[] 3))) := ((Below.refl _ wi).alloc (Nat.le_refl _) _).alloc (by simp) _
      have hWi := HB.out.size
      clear hat hS2 HL
      generalize levN K n i = S at *
      generalize hlf : n - 1 - i = left at *
      go_wp2_with fail
      go_loopw [8, 9, 26] (fun v8 v9 jv wr => ∃ (k : Nat) (Rs2 : List Rw), k ≤ S.length ∧ jv = .int .i64 k ∧ Hid (Lv (levT K left S k) v8 v9 Rs2 wi.heap.size wr) ∧ Hid (Below wi.heap.size wi wr)) (fun _ _ jv _ => S.length - (intOf jv).toNat)
      case atStart => exact ⟨0, [], Nat.zero_le _, rfl, hLM, hbM⟩
      case round =>
        clear hLM hbM
        obtain ⟨wj, rfl⟩ : ∃ wj : World, wj = wr := ⟨_, rfl⟩
        obtain ⟨k, Rs2, hk, rfl, HL2, HB2⟩ := hrel
        by_cases hkl : k < S.length
        · obtain ⟨g8, g9, gr, cr, rfl, rfl, hat⟩ := HAT.out k hkl
          obtain ⟨hs1, hs2⟩ := HS2.out _ (List.getElem_mem hkl)
          have HSC : Hid (levT K left S (k + 1) = levT K left S k ++ extT K left S[k] (min ((S[k]).2 + 1) K)) := levT_succ K left hkl
          have hTL := HTL.out k hk
          have HL3 : Hid (Lv (levT K left S k ++ extT K left S[k] 0) u8 u9 Rs2 wi.heap.size wj) := by
            show Lv _ _ _ _ _ _
            rw [extT_zero, List.append_nil]; exact HL2.out
          have HXS : Hid (∀ t, extT K left S[k] (t + 1) = extT K left S[k] t ++ ext1 K left S[k] t) := fun t => extT_succ K left S[k] t
          have HXL : Hid (∀ t, (extT K left S[k] t).length ≤ t) := fun t => extT_len K left S[k] t
          have HX1 : Hid (∀ t, ext1 K left S[k] t = if K ≤ max (S[k]).2 (t + 1) + left then [((S[k]).1 ++ [t], max (S[k]).2 (t + 1))] else []) := fun t => rfl
          have hat2 := hat _ HB2.out
          obtain ⟨q8, -, -⟩ := hat2
          have HQ := Lib.hid hat
          clear hat HL2
          rw [hs1] at q8 HQ
          generalize extT K left S[k] = X at *
          generalize ext1 K left S[k] = X1 at *
          generalize levT K left S k = T at *
          generalize (S[k]).1 = c at *
          generalize (S[k]).2 = u at *
          go_wp2_with fail
          go_loopw [8, 9, 12] (fun v8 v9 tv wr => ∃ (t : Nat) (Rs3 : List Rw), t ≤ min (u + 1) K ∧ tv = .int .i64 t ∧ Hid (Lv (T ++ X t) v8 v9 Rs3 wi.heap.size wr) ∧ Hid (Below wi.heap.size wi wr)) (fun _ _ tv _ => min (u + 1) K - (intOf tv).toNat)
          case atStart => exact ⟨0, Rs2, Nat.zero_le _, rfl, HL3, HB2⟩
          case round =>
            clear HL3 HB2 q8
            obtain ⟨wo, rfl⟩ : ∃ wo : World, wo = wr := ⟨_, rfl⟩
            obtain ⟨t, Rs3, ht, rfl, HL3, HB3⟩ := hrel
            obtain ⟨-, q9, q7⟩ := HQ.out _ HB3.out
            by_cases htu : t ≤ u
            · by_cases htK : t < K
              · have hmax : ∀ (w : World) (x y : Int) (ts : Array TypeId) (t : TypeId), (Builtin.max_ ts t #[.int .i64 x, .int .i64 y]).run Try.prog w = .ok (.int .i64 (maxI x y)) w := run_maxI
                have hmx : maxI (u : Int) ((t : Int) + 1) = ((max u (t + 1) : Nat) : Int) := by
                  unfold maxI
                  split <;> omega
                obtain ⟨mx, hmm⟩ : ∃ mx, mx = max u (t + 1) := ⟨_, rfl⟩
                have hmx9 : mx ≤ 10 := by omega
                rw [← hmm] at hmx
                have HX2 := Lib.hid (HX1.out t)
                rw [← hmm] at HX2
                have HMX : Hid (mx = max u (t + 1)) := hmm
                clear hmm
                by_cases hge : K ≤ mx + left
                · have HX3 : Hid (X (t + 1) = X t ++ [(c ++ [t], mx)]) := by
                    show _ = _
                    rw [HXS.out, HX2.out, if_pos hge]
                  have hXl := HXL.out t
                  have hlen3 : Rs3.length ≤ 3628820 := by
                    have h1 := HL3.out.len
                    rw [List.length_append] at h1
                    omega
                  have hlen4 : (T ++ X t).length ≤ 3628820 := by rw [List.length_append]; omega
                  have own0 := World.ownsRow_lit (base := wo.heap.size) (e := 3) (size := 1) wo #[] 0 (Nat.le_refl _) (by decide) rfl
                  have b0 := below1 wo (.cells #[] 3)
                  have p7 := intsA_of (own_below q7 b0)
                  have hcl : c.length = i := hs1
                  have hio : wi.heap.size ≤ wo.heap.size := HB3.out.size
                  go_wp2_with (at_builtin; refine wpList_append_own_at _ rfl _ _ 43 rfl wo.heap.size 3 i1 (.int .i64 0) 1 8 Try.underlying43 hi1 hy0 hy1 hy2 rfl (by decide) _ _ _ rfl own0 ⟨gr, 0, none⟩ i cr (ints (castL c)) rfl ?d0 ?d1 ?d2 ?d3 ?d4 ?d5 ?_)
                  case d0 => rw [ints_len, castL_len]; exact hcl
                  case d1 => exact news_ints9 p7
                  case d2 => exact ints_one9 _
                  case d3 => unfold maxLen; omega
                  case d4 => omega
                  intro v6 w6 own6 hg6 _ _
                  have hb6 : Below wo.heap.size wo w6 := b0.grown hg6 (by simp) (fun k hk => by cases hk; exact Nat.le_refl _)
                  have hs6 := hb6.size
                  clear own0 b0 p7 q9 q7 hg6 HXS HX1 HX2
                  go_wp2_with (at_builtin; refine wpList_append_own_at _ rfl _ _ 43 rfl wo.heap.size 3 i1 (.int .i64 0) 1 8 Try.underlying43 hi1 hy0 hy1 hy2 rfl (by decide) _ _ _ rfl (own6.alloc _) ⟨w6.heap.size, 0, none⟩ 1 1 [.int .i64 (t : Int)] rfl rfl (World.news_of_block (cs := #[.int .i64 (t : Int)]) (t := 3) (fr := (0, 0)) (heap_alloc_new w6 _)) ?e2 ?e3 ?e4 ?e5 ?_)
                  case e2 => simp [Value.oneCell']
                  case e3 => unfold maxLen; omega
                  case e4 => omega
                  try (case e5 => first | omega | (simp; omega))
                  intro v7 w7 own7 hg7 _ _
                  have hb7 : Below wo.heap.size wo w7 := (hb6.alloc hb6.size (.cells #[.int .i64 (t : Int)] 3)).grown hg7 (by simp; omega) (fun k hk => (own6.lt k hk).1)
                  have hs7 := hb7.size
                  obtain ⟨r, hv7, hrm, hrl, hrow⟩ := row_of (M := castL (c ++ [t])) (by rw [castL_snoc, ints_snoc]; exact own7)
                  have hh : hdr r = .slice (some ⟨r.g, 0, none⟩) (i + 1) r.cap := by
                    unfold hdr
                    rw [hrm, castL_len, List.length_append, hcl]; rfl
                  obtain rfl := hv7.trans hh
                  have HH := Lib.hid hh
                  clear hv7 hh
                  have HRW := Lib.hid (own_base hrow hio)
                  have HRM := Lib.hid hrm
                  have HRL := Lib.hid hrl
                  have own8 := (own_below HL3.out.rows.out hb7).alloc (.cells #[.slice (some ⟨r.g, 0, none⟩) (i + 1) r.cap] 43)
                  clear own6 own7 hg7 hrm hrl hrow hb6
                  go_wp2_with (at_builtin; refine wpList_append_own_at _ rfl _ _ 148 rfl wi.heap.size 43 i0 (.slice none 0 0) 1 24 Try.underlying148 hi0 hz0 hz1 hz2 rfl (by decide) _ _ _ rfl own8 ⟨w7.heap.size, 0, none⟩ 1 1 [.slice (some ⟨r.g, 0, none⟩) (i + 1) r.cap] rfl rfl (World.news_of_block (cs := #[.slice (some ⟨r.g, 0, none⟩) (i + 1) r.cap]) (t := 43) (fr := (0, 0)) (heap_alloc_new w7 _)) ?f2 ?f3 ?f4 ?f5 ?_)
                  case f2 => simp [Value.oneCell']
                  case f3 => unfold maxLen; omega
                  case f4 => omega
                  try (case f5 => first | omega | (simp; omega))
                  intro v8 w8 o8 hg8 _ hat8
                  have own9 := HL3.out.cnt3 hb7 hg8
                  have hb8 : Below wi.heap.size wi w8 := ((below_on HB3.out hb7).alloc (Nat.le_trans hio hs7) (.cells #[.slice (some ⟨r.g, 0, none⟩) (i + 1) r.cap] 43)).grown hg8 (by simp; omega) (fun k hk => (HL3.out.rows.out.lt k hk).1)
                  have hs8 := hb8.size
                  have H8 := Lib.hid (And.intro o8 (And.intro hg8 hat8))
                  have HB8 := Lib.hid hb8
                  have HB7 := Lib.hid hb7
                  clear own8 o8 hg8 hat8 hb8 hb7
                  go_wp2_with (at_builtin; refine wpList_append_own_at _ rfl _ _ 43 rfl wi.heap.size 3 i1 (.int .i64 0) 1 8 Try.underlying43 hi1 hy0 hy1 hy2 rfl (by decide) _ _ _ rfl (own9.alloc _) ⟨w8.heap.size, 0, none⟩ 1 1 [.int .i64 (mx : Int)] rfl rfl (World.news_of_block (cs := #[.int .i64 (mx : Int)]) (t := 3) (fr := (0, 0)) (heap_alloc_new w8 _)) ?h2 ?h3 ?h4 ?h5 ?_)
                  case h2 => simp [Value.oneCell']
                  case h3 => unfold maxLen; omega
                  case h4 => omega
                  try (case h5 => first | omega | (simp; omega))
                  intro v9 w9 o9 hg9 _ hat9
                  have HL9 : Hid (Lv (T ++ X (t + 1)) v8 v9 (Rs3 ++ [r]) wi.heap.size w9) := by
                    show Lv _ _ _ _ _ _
                    rw [HX3.out, ← List.append_assoc]
                    exact HL3.out.push HH.out HB7.out HRW.out HRL.out HRM.out H8.out.1 H8.out.2.1 (by rw [size_alloc]; exact H8.out.2.2) (by simpa using o9) hg9 (by rw [size_alloc]; exact hat9)
                  have HB9 : Hid (Below wi.heap.size wi w9) := (HB8.out.alloc HB8.out.size (.cells #[.int .i64 (mx : Int)] 3)).grown hg9 (by simp; omega) (fun k hk => (HL3.out.cnt.lt k hk).1)
                  clear own9 o9 hg9 hat9 HL3 H8
                  go_wp2_with fail
                  go_roundw
                  case rel => exact ⟨t + 1, _, by omega, by go_num, HL9, HB9⟩
                  case measure => simp [intOf]; omega
                · have HX3 : Hid (X (t + 1) = X t) := by
                    show _ = _
                    rw [HXS.out, HX2.out, if_neg hge, List.append_nil]
                  have HL9 : Hid (Lv (T ++ X (t + 1)) u8 u9 Rs3 wi.heap.size wo) := by
                    show Lv _ _ _ _ _ _
                    rw [HX3.out]; exact HL3.out
                  clear q7 HX2 HX1 HXS HL3
                  go_wp2_with fail
                  go_roundw
                  case rel => exact ⟨t + 1, _, by omega, by go_num, HL9, HB3⟩
                  case measure => simp [intOf]; omega
              · have htm : t = min (u + 1) K := by omega
                have HL4 : Hid (Lv (levT K left S (k + 1)) u8 u9 Rs3 wi.heap.size wo) := by
                  show Lv _ _ _ _ _ _
                  rw [HSC.out, ← htm]; exact HL3.out
                clear q7 HL3 htm HX1 HXS
                go_wp2_with fail
                go_roundw
                case rel => exact ⟨k + 1, _, by omega, by go_num, HL4, HB3⟩
                case measure => simp [intOf]; omega
            · have htm : t = min (u + 1) K := by omega
              have HL4 : Hid (Lv (levT K left S (k + 1)) u8 u9 Rs3 wi.heap.size wo) := by
                show Lv _ _ _ _ _ _
                rw [HSC.out, ← htm]; exact HL3.out
              clear q7 HL3 htm HX1 HXS
              go_wp2_with fail
              go_roundw
              case rel => exact ⟨k + 1, _, by omega, by go_num, HL4, HB3⟩
              case measure => simp [intOf]; omega
        · obtain rfl : k = S.length := by omega
          have HL4 : Hid (Lv (levN K n (i + 1)) u8 u9 Rs2 W.heap.size wj) := by
            show Lv _ _ _ _ _ _
            rw [← HNX.out _ rfl]; exact HL2.out.base hWi
          have HB4 := Lib.hid (below_on HB.out HB2.out)
          clear HL2 HNX HTL
          go_wp2_with fail
          go_roundw
          case rel => exact ⟨i + 1, _, by omega, by go_num, HL4, HB4⟩
          case measure => simp [intOf]; omega
    · obtain rfl : i = n := by omega
      have RR := Lib.hid (R.out _ _ _ _ HL.out HB.out)
      clear HL HB HLL
      go_wp2_with fail
      go_ret
      exact RR.out
end Go.Proofs.Ytncahchhinfneaa

/-! Maker2 -/
namespace Go.Proofs.Ytncahchhinfneaa
open Go.Sort Go.RowKit

def lexP (md : Region.Mode) (ops : Array Oper) (base : Array Bool → Bool) : Nat → Nat → Array Bool → Bool
  | 0, _, listed => base listed
  | f + 1, k, listed => (Region.ready md ops listed).contains k && Region.free md ops listed k && lexP md ops base f (k + 1) (listed.setIfInBounds k true)
def onesP (md : Region.Mode) (ops : Array Oper) (base : Array Bool → Bool) : Nat → Nat → Array Bool → Bool
  | 0, _, listed => base listed
  | f + 1, k, listed => decide (Region.ready md ops listed = [k]) && onesP md ops base f (k + 1) (listed.setIfInBounds k true)
section
variable {F : Fence} {n : Nat} {P : Program} {ops : Array Oper} {md : Region.Mode} {C : World → Prop} {Q : Exit → Act → World → Prop}

theorem lexD {m q g : Nat} {K0 : Act → World → Prop} {Lq : Act → Prop} {w : World} {base : Array Bool → Bool} (hF : IsWide F) (hd : noDeferB ops = true) (hsel : Region.noSelect ops = true) (hs : Region.sinkB md ops q = true) (hc : Region.chainB md ops q = true) (hn : q < ops.size) (hmq : m ≤ q)
    (hT : ∀ listed a, HeadInv md ops q listed → base listed = true → Lq a → wpAnyC F n P md ops C K0 q g listed a w) :
    ∀ (l : List Oper) (k : Nat) (listed : Array Bool) (a : Act), (∀ j, j < l.length → l[j]? = ops[k + j]?) → k + l.length = m → HeadInv md ops q listed →
    lexP md ops base l.length k listed = true → (l.all fun o => pureOpB o.op) = true → C w → wpQuiet P ops C Lq l a → wpAnyC F n P md ops C K0 q (l.length + g) listed a w
  | [], k, listed, a, _, _, inv, hB, _, _, h => by
    rw [List.length_nil, Nat.zero_add]
    exact hT listed a inv (by simpa [lexP] using hB) h
  | o :: l, k, listed, a, hl, hk, inv, hB, hp, hC, h => by
    have h0 : ops[k]? = some o := by simpa using (hl 0 (by simp)).symm
    simp only [List.length_cons, lexP, Bool.and_eq_true] at hB
    obtain ⟨⟨hr, hf⟩, hB'⟩ := hB
    simp only [List.all_cons, Bool.and_eq_true] at hp
    have hkn : k < m := by simp only [List.length_cons] at hk; omega
    have hr' : k ∈ Region.ready md ops listed := by simpa using hr
    have hy : ∃ v, PureAt P ops C o v a ∧ wpQuiet P ops C Lq l (a.put o.dst v) := by
      unfold wpQuiet at h
      cases hw : Region.wanted o (yielded ops a.tmps)
      · rw [hw] at h
        exact ⟨undef, .inr ⟨hw, rfl⟩, by simpa using h⟩
      · rw [hw] at h
        simp only [if_true] at h
        obtain ⟨v, hv, hK⟩ := h
        exact ⟨v, .inl ⟨hw, fun w' hw' => pure_upon hp.1 (hv w' hw')⟩, hK⟩
    obtain ⟨v, hy, hK⟩ := hy
    rw [List.length_cons, show l.length + 1 + g = (l.length + g) + 1 by omega]
    exact firstC hF hd h0 (Region.noSelect_spec hsel) hs hc hn (by omega) _ listed a w inv (Region.free_spec h0 hf) hr' hy hC
      (lexD hF hd hsel hs hc hn hmq hT l (k + 1) _ _ (fun j hj => by have := hl (j + 1) (by simp; omega); simpa [Nat.add_assoc, Nat.add_comm 1 j] using this) (by simp only [List.length_cons] at hk; omega) (inv.set hr' (by omega)) hB' hp.2 hC hK)

/-- One operation that is ready alone. -/
theorem oneD {q g : Nat} {K0 K1 : Act → World → Prop} {o : Oper} {k : Nat} {listed : Array Bool} {a : Act} {w : World} (h0 : ops[k]? = some o) (hr : Region.ready md ops listed = [k])
    (h : wpListIn F n P ops (Exit.then K1 Bot) [o] a w) (hK : ∀ a' w', K1 a' w' → C w' ∧ wpAnyC F n P md ops C K0 q g (listed.setIfInBounds k true) a' w') : wpAnyC F n P md ops C K0 q (g + 1) listed a w := by
  refine ⟨fun h1 => (by rw [hr] at h1; cases h1), fun i hi => ?_⟩
  rw [hr] at hi
  have hik : i = k := by simpa using hi
  subst hik
  unfold wpOpIn
  simp only [h0]
  unfold wpListIn at h
  split
  · rename_i hw
    rw [if_pos hw] at h
    exact oper_bot (fun a' w' h' => by
      obtain ⟨h1, h2⟩ := hK a' w' h'
      exact ⟨fun _ => h1, h2⟩) h
  · rename_i hw
    rw [if_neg hw] at h
    refine ⟨h.1, ?_⟩
    obtain ⟨h1, h2⟩ := hK _ w h.2
    exact ⟨fun _ => h1, h2⟩
/-- Several, one by one; behind each the world is one that has grown. -/
def onesL (F : Fence) (n : Nat) (P : Program) (ops : Array Oper) (w : World) (Z : Act → World → Prop) : List Oper → Act → World → Prop
  | [], a, w' => Z a w'
  | o :: l, a, w' => wpListIn F n P ops (Exit.then (fun a1 w1 => Below w.heap.size w w1 ∧ onesL F n P ops w Z l a1 w1) Bot) [o] a w'
theorem onesD {w : World} {m q g : Nat} {K0 Z : Act → World → Prop} {base : Array Bool → Bool} (hC : ∀ w', Below w.heap.size w w' → C w') (hmq : m ≤ q)
    (hT : ∀ listed a w', HeadInv md ops q listed → base listed = true → C w' → Z a w' → wpAnyC F n P md ops C K0 q g listed a w') :
    ∀ (l : List Oper) (k : Nat) (listed : Array Bool) (a : Act) (w' : World), (∀ j, j < l.length → l[j]? = ops[k + j]?) → k + l.length = m → HeadInv md ops q listed →
    onesP md ops base l.length k listed = true → C w' → onesL F n P ops w Z l a w' → wpAnyC F n P md ops C K0 q (l.length + g) listed a w'
  | [], k, listed, a, w', _, _, inv, hB, hCw, h => by
    rw [List.length_nil, Nat.zero_add]
    exact hT listed a w' inv (by simpa [onesP] using hB) hCw h
  | o :: l, k, listed, a, w', hl, hk, inv, hB, _, h => by
    have h0 : ops[k]? = some o := by simpa using (hl 0 (by simp)).symm
    simp only [List.length_cons, onesP, Bool.and_eq_true, decide_eq_true_eq] at hB
    rw [List.length_cons, show l.length + 1 + g = (l.length + g) + 1 by omega]
    refine oneD h0 hB.1 h fun a1 w1 ⟨hb, h1⟩ => ⟨hC _ hb, ?_⟩
    exact onesD hC hmq hT l (k + 1) _ a1 w1 (fun j hj => by have := hl (j + 1) (by simp; omega); simpa [Nat.add_assoc, Nat.add_comm 1 j] using this) (by simp only [List.length_cons] at hk; omega) (inv.set (by rw [hB.1]; simp) (by simp only [List.length_cons] at hk; omega)) hB.2 (hC _ hb) h1

def make2B (md : Region.Mode) (ops : Array Oper) (m s r : Nat) : Bool :=
  Region.noSelect ops && decide (m + s + r < ops.size) && Region.sinkB md ops (m + s + r) && Region.chainB md ops (m + s + r) &&
    lexP md ops (onesP md ops (lexP md ops (Region.seqB md ops (ops.size - (m + s + r)) (m + s + r)) r (m + s)) s m) m 0 (Array.replicate ops.size false) &&
    ((ops.toList.take m).all fun o => pureOpB o.op) && (((ops.toList.drop (m + s)).take r).all fun o => pureOpB o.op)

theorem region_make2_in {id : Nat} {a : Act} {w : World} {l : List Oper} (m s r : Nat) (hF : IsWide F) (hd : noDeferB l.toArray = true) (hm : P.follows .mixedOrders = true) (hB : make2B .any l.toArray m s r = true)
    (h : wpQuiet P l.toArray (fun w' => ∃ p : Regrown, w' = grow (redrawn w p.d) p.os) (fun a' => ∀ w', (∃ p : Regrown, w' = grow (redrawn w p.d) p.os) →
      onesL F n P l.toArray w (fun a2 w2 => wpQuiet P l.toArray (fun w' => ∃ p : Regrown, w' = grow (redrawn w p.d) p.os) (fun a3 => wpListIn F n P l.toArray (Exit.then (Q .normal) Bot) (l.drop (m + s + r)) a3 w2) ((l.drop (m + s)).take r) a2)
        ((l.drop m).take s) a' w') (l.take m) a) :
    (Code.region id l.toArray true).wpIn F n P Q a w := by
  simp only [make2B, Bool.and_eq_true, decide_eq_true_eq] at hB
  obtain ⟨⟨⟨⟨⟨⟨hsel, hn⟩, hs⟩, hc⟩, hlex⟩, hpu⟩, hpu2⟩ := hB
  have hn' : m + s + r < l.length := by simpa using hn
  have htl : (l.take m).length = m := by simp; omega
  have hts : ((l.drop m).take s).length = s := by simp; omega
  have htr : ((l.drop (m + s)).take r).length = r := by simp; omega
  have inv0 : HeadInv .any l.toArray (m + s + r) (Array.replicate l.toArray.size false) :=
    ⟨by simp, fun j oj _ hl => (by rw [getD_replicate_false] at hl; cases hl), fun t _ ht => getD_in (by simpa using ht) (getD_replicate_false _ _)⟩
  have hC : ∃ p : Regrown, ({ w with drawn := w.drawn + 1 } : World) = grow (redrawn w p.d) p.os := ⟨⟨w.drawn + 1, #[]⟩, by rw [grow_empty]; rfl⟩
  obtain ⟨g, hg⟩ : ∃ g, g = l.toArray.size - (m + s + r) := ⟨_, rfl⟩
  have hdl : (l.drop (m + s + r)).length = g := by rw [hg]; simp
  have H := lexD (md := .any) (P := P) (F := F) (n := n) (C := fun w' => ∃ p : Regrown, w' = grow (redrawn w p.d) p.os) (K0 := Q .normal) (m := m) (q := m + s + r) (g := s + (r + g)) (w := { w with drawn := w.drawn + 1 }) (base := onesP .any l.toArray (lexP .any l.toArray (Region.seqB .any l.toArray g (m + s + r)) r (m + s)) s m) hF hd hsel hs hc hn (by omega)
    (fun listed a' inv hb hL => by
      have h1 := hL _ hC
      have := onesD (md := .any) (F := F) (n := n) (P := P) (C := fun w' => ∃ p : Regrown, w' = grow (redrawn w p.d) p.os) (w := w) (m := m + s) (q := m + s + r) (g := r + g) (K0 := Q .normal) (base := lexP .any l.toArray (Region.seqB .any l.toArray g (m + s + r)) r (m + s)) (fun w' hb => regrown_of_below hb) (by omega)
        (fun listed1 a1 w1 inv1 hb1 hC1 h2 => by
          have := lexD (md := .any) (P := P) (F := F) (n := n) (C := fun w' => ∃ p : Regrown, w' = grow (redrawn w p.d) p.os) (K0 := Q .normal) (m := m + s + r) (q := m + s + r) (g := g) (w := w1) (base := Region.seqB .any l.toArray g (m + s + r)) hF hd hsel hs hc hn (Nat.le_refl _)
            (fun listed2 a2 _ hb2 h3 => by
              have := seqC (md := .any) (C := fun w' => ∃ p : Regrown, w' = grow (redrawn w p.d) p.os) (q := m + s + r) (l.drop (m + s + r)) (m + s + r) listed2 a2 w1 (Nat.le_refl _) (fun j => by simp [List.getElem?_drop]) (by rw [hdl]; exact hb2) h3
              rwa [hdl] at this)
            ((l.drop (m + s)).take r) (m + s) listed1 a1 (fun j hj => by
              have hj' : j < r := by rw [htr] at hj; exact hj
              simp [hj', List.getElem?_drop]) (by rw [htr]) inv1 (by rw [htr]; exact hb1) (by simpa using hpu2) hC1 h2
          rwa [htr] at this)
        ((l.drop m).take s) m listed a' _ (fun j hj => by
          have hj' : j < s := by rw [hts] at hj; exact hj
          simp [hj', List.getElem?_drop]) (by rw [hts]) inv (by rw [hts]; exact hb) hC h1
      rwa [hts] at this)
    (l.take m) 0 _ a (fun j hj => by
      have hj' : j < m := by rw [htl] at hj; exact hj
      simp [hj']) (by simpa using htl) inv0 (by rw [htl, hg]; exact hlex) (by simpa using hpu) hC h
  rw [htl, show m + (s + (r + g)) = l.toArray.size by rw [hg]; simp at hn ⊢; omega] at H
  refine Go.wpIn_mono (wpIn_region_any hm (wpAnyC_any _ _ _ _ H)) ?_
  intro e a' w' h'
  cases e <;> first | exact h' | exact False.elim h'
end
end Go.Proofs.Ytncahchhinfneaa

/-! SeqC9 -/
namespace Go.Proofs.Ytncahchhinfneaa
open Go.RowKit Go.Sort
attribute [local go_sem] Oper.semAt_some

theorem cutsInto_any (w h M K : Int) (W : World) :
    Calls Try.prog 190 #[.int .i64 w, .int .i64 h, .int .i64 M, .int .i64 K] W fun e w' => e = .returned (.func (.func 213) #[] #[.pointer (some ⟨W.heap.size, 0, none⟩), .pointer (some ⟨W.heap.size + 1, 0, none⟩), .pointer (some ⟨W.heap.size + 1 + 1, 0, none⟩), .pointer (some ⟨W.heap.size + 1 + 1 + 1, 0, none⟩)]) ∧ (((W.alloc (.cells #[.int .i64 w] 3)).alloc (.cells #[.int .i64 h] 3)).alloc (.cells #[.int .i64 M] 3)).alloc (.cells #[.int .i64 K] 3) = w' := by
  go_enter Try.func190, Try.ntmps190
  go_wp2_with fail
  go_ret
  exact ⟨rfl, rfl⟩
/-- The lists of which a predicate holds. -/
def listsC (w h M K : Int) (wh : List Int → Bool) : List (List Int) := bif okC w h M then (listsN K.toNat (idxV w h M).length).filter wh else []
def IsWh (w h M : Int) (wh : List Int → Bool) : Prop := ∀ c, wh c = true ↔ AllP w h (pieV w h M c)
theorem isWh_ex (w h M : Int) : ∃ wh, IsWh w h M wh := ⟨fun c => @decide _ (Classical.propDecidable (AllP w h (pieV w h M c))), fun c => by simp⟩
theorem filter_sub {wh : List Int → Bool} {pre : List Rw} {x : Rw} (h : x ∈ pre.filter fun y => wh y.M) : x ∈ pre := (List.mem_filter.1 h).1
theorem filter_map {wh : List Int → Bool} (pre : List Rw) : (pre.filter fun y => wh y.M).map Rw.M = (pre.map Rw.M).filter wh := by
  rw [List.filter_map]; rfl
theorem filter_yes {wh : List Int → Bool} {pre : List Rw} {x : Rw} (h : wh x.M = true) : (pre ++ [x]).filter (fun y => wh y.M) = (pre.filter fun y => wh y.M) ++ [x] := by
  rw [List.filter_append]; simp [h]
theorem filter_no {wh : List Int → Bool} {pre : List Rw} {x : Rw} (h : wh x.M = false) : (pre ++ [x]).filter (fun y => wh y.M) = pre.filter fun y => wh y.M := by
  rw [List.filter_append]; simp [h]
/-- What the body of the loop finds in memory. -/
structure Env (w h : Int) (cl : List Int) (b0 b1 by0 bl : Nat) (lo : Nat) (Ac : Option Addr) (cc : Nat) (W : World) : Prop where
  w0 : Boxed W b0 3 (.int .i64 w)
  h0 : Boxed W b1 3 (.int .i64 h)
  y0 : Boxed W by0 76 (.func (.yield lo) #[] #[])
  l0 : Boxed W bl 43 (.slice Ac cl.length cc)
  row : IntsA W Ac cl
  rnf : ∀ g, Ac = some ⟨g, 0, none⟩ → ¬ ForeignO W.heap[g]?
theorem ints_as {W W' : World} {A : Option Addr} {M : List Int} (h : IntsA W A M) (hb : ∀ g, A = some ⟨g, 0, none⟩ → W'.heap[g]? = W.heap[g]?) : IntsA W' A M := fun k hk => by
  obtain ⟨g, e, hc⟩ := h k hk
  exact ⟨g, e, cell_same (hb g e) hc⟩
theorem ints_blk {W : World} {g : Nat} {M : List Int} (h : IntsA W (some ⟨g, 0, none⟩) M) (h1 : 1 ≤ M.length) : g < W.heap.size := by
  obtain ⟨g', e, hc⟩ := h 0 h1
  cases e
  exact World.block_lt_of_cell? W _ hc
theorem Env.as {w h : Int} {cl : List Int} {b0 b1 by0 bl lo gc : Nat} {cc : Nat} {W W' : World} (e : Env w h cl b0 b1 by0 bl lo (some ⟨gc, 0, none⟩) cc W) (hb : ∀ k, k = b0 ∨ k = b1 ∨ k = by0 ∨ k = bl ∨ k = gc → W'.heap[k]? = W.heap[k]?) : Env w h cl b0 b1 by0 bl lo (some ⟨gc, 0, none⟩) cc W' :=
  ⟨boxed_as e.w0 (hb _ (.inl rfl)), boxed_as e.h0 (hb _ (.inr (.inl rfl))), boxed_as e.y0 (hb _ (.inr (.inr (.inl rfl)))), boxed_as e.l0 (hb _ (.inr (.inr (.inr (.inl rfl))))), ints_as e.row (fun g hg => by cases hg; exact hb _ (.inr (.inr (.inr (.inr rfl))))), fun g hg => by cases hg; rw [hb _ (.inr (.inr (.inr (.inr rfl))))]; exact e.rnf _ rfl⟩
theorem Env.nf {w h : Int} {cl : List Int} {b0 b1 by0 bl lo gc : Nat} {cc : Nat} {W : World} (e : Env w h cl b0 b1 by0 bl lo (some ⟨gc, 0, none⟩) cc W) {k : Nat} (hk : k = b0 ∨ k = b1 ∨ k = by0 ∨ k = bl ∨ k = gc) : ¬ ForeignO W.heap[k]? := by
  rcases hk with rfl | rfl | rfl | rfl | rfl
  · exact box_nf e.w0 (.inl rfl)
  · exact box_nf e.h0 (.inl rfl)
  · exact box_nf e.y0 (.inr (.inr (.inl rfl)))
  · exact box_nf e.l0 (.inr (.inl rfl))
  · exact e.rnf _ rfl
theorem Env.lt {w h : Int} {cl : List Int} {b0 b1 by0 bl lo gc : Nat} {cc : Nat} {W : World} (e : Env w h cl b0 b1 by0 bl lo (some ⟨gc, 0, none⟩) cc W) (h1 : 1 ≤ cl.length) {k : Nat} (hk : k = b0 ∨ k = b1 ∨ k = by0 ∨ k = bl ∨ k = gc) : k < W.heap.size := by
  rcases hk with rfl | rfl | rfl | rfl | rfl
  · exact e.w0.lt
  · exact e.h0.lt
  · exact e.y0.lt
  · exact e.l0.lt
  · exact ints_blk e.row h1

set_option maxRecDepth 100000 in
set_option maxHeartbeats 8000000 in
theorem seqCuts (b0 b1 b2 b3 : Nat) (w h M K : Int) (wh : List Int → Bool) (HW : IsWh w h M wh) (w0 : World) (h0 : Boxed w0 b0 3 (.int .i64 w)) (h1 : Boxed w0 b1 3 (.int .i64 h)) (h2 : Boxed w0 b2 3 (.int .i64 M)) (h3 : Boxed w0 b3 3 (.int .i64 K)) :
    SeqG Try.prog 213 #[.pointer (some ⟨b0, 0, none⟩), .pointer (some ⟨b1, 0, none⟩), .pointer (some ⟨b2, 0, none⟩), .pointer (some ⟨b3, 0, none⟩)] (listsC w h M K wh) (fun k => k = b0 ∨ k = b1 ∨ k = b2 ∨ k = b3) w0 := by
  intro l T J Jx W hW hT hC hJ hJx hY hj0 m
  have g0 : Boxed W b0 3 (.int .i64 w) := boxed_as h0 (hW.block _ h0.lt)
  have g1 : Boxed W b1 3 (.int .i64 h) := boxed_as h1 (hW.block _ h1.lt)
  have g2 : Boxed W b2 3 (.int .i64 M) := boxed_as h2 (hW.block _ h2.lt)
  have g3 : Boxed W b3 3 (.int .i64 K) := boxed_as h3 (hW.block _ h3.lt)
  have HCT := Lib.hid (fun W => cellsTo_any w h M W)
  have HJ0 := Lib.hid hj0
  have hbA := below1 W (.cells #[.func (.yield l) #[] #[]] 76)
  have yA := Boxed.new W 76 (.func (.yield l) #[] #[])
  have k0 := (g0.alloc (.cells #[.func (.yield l) #[] #[]] 76)).cell
  have k1 := (g1.alloc (.cells #[.func (.yield l) #[] #[]] 76)).cell
  have k2 := (g2.alloc (.cells #[.func (.yield l) #[] #[]] 76)).cell
  have G0 := Lib.hid g0; have G1 := Lib.hid g1; have G3 := Lib.hid g3
  clear h0 h1 h2 h3 hj0 g0 g1 g2 g3
  cases hB : okC w h M
  · have hcc : cutCells w h M = [] := by unfold cutCells; rw [hB]; rfl
    rw [hcc] at HCT
    have hS : listsC w h M K wh = [] := by unfold listsC; rw [hB]; rfl
    have R : Hid (∀ w', Below W.heap.size W w' → ((∃ ys, ys.map Rw.M = listsC w h M K wh ∧ J ys w') ∨ (∃ pre, pre.map Rw.M <+: listsC w h M K wh ∧ Jx pre w'))) := fun w' hb => .inl ⟨[], by rw [hS]; rfl, hJ _ _ _ HJ0.out (KeepG.of_below hb)⟩
    clear hB hcc hS hY
    refine (callsIn_wide (n := m)).2 ?_
    go_enter Try.func213, Try.ntmps213
    go_wp2_with fail
    refine (HCT.out _).mono ?_
    rintro e w1 ⟨v, rfl, own, hb⟩
    obtain ⟨A1, c1, rfl, _⟩ := castL_intsA own
    have hb2 := below_on hbA hb
    have RR := Lib.hid (R.out _ (hb2.alloc hb2.size (.cells #[.slice A1 ([] : List Int).length c1] 43)))
    clear own hb hb2 R hbA
    go_wp2_with fail
    refine bodyPost_ret (results_none rfl _ _ _) rfl ?_
    exact ⟨⟨_, rfl⟩, RR.out⟩
  · obtain ⟨a, b, mm, n, rfl, rfl, rfl, hab, ha1, ha2, hb1, hb2, hm, hn36, hix, hpc, hl1, hl9, hSh⟩ := okC_nat hB
    have hcc : cutCells (a : Int) b mm = castL ((idxL mm n).map (2 ^ ·)) := by unfold cutCells; rw [hB, hix]; rfl
    rw [hcc] at HCT
    obtain ⟨I, hI⟩ : ∃ I, I = idxL mm n := ⟨_, rfl⟩
    have hSS : listsC a b mm K wh = (listsN K.toNat I.length).filter wh := by unfold listsC; rw [hB, hix, hI]; rfl
    rw [hSS] at hY ⊢
    rw [← hI] at HCT hl1 hl9 hix
    have HU := Lib.hid (fun A1 A2 c1 c2 C W h1 h2 h3 h4 => unite_any A1 A2 c1 c2 I C W h1 h2 h3 h4 (by rw [hI]; exact idx36 hn36))
    have HAW := Lib.hid (fun A c L W hP hL => areWhole_any (a : Int) b A c L W hP hL)
    have HWP : Hid (∀ C : List Nat, wh (castL C) = true ↔ AllP a b (castL (uniF [] I C))) := fun C => by
      have := HW (castL C)
      rw [pieV_cast, hix] at this
      exact this
    have hcl : (castL (I.map (2 ^ ·))).length = I.length := by rw [castL_len, List.length_map]
    clear hB hcc hSS hix hm hSh hpc hI HW
    refine (callsIn_wide (n := m)).2 ((callsIn_wide (n := 9)).1 ?_)
    refine callsIn_of_wp_marks Try.func213 rfl trivial ?_ rfl
    simp only [Try.ntmps213, List.size_toArray, List.length_cons, List.length_nil, Nat.reduceAdd, Nat.reduceSub, Array.replicate_succ, Array.replicate_zero, List.push_toArray, List.append_toArray, List.nil_append, List.cons_append]
    gi_wp2
    refine ⟨trivial, (wide0.calls (HCT.out _)).mono ?_⟩
    rintro e w1 ⟨v, rfl, own, hb⟩
    rw [hcl] at own
    obtain ⟨g6, c6, rfl⟩ := own_some own (by omega)
    have hbB := below_on hbA hb
    have bL := Boxed.new w1 43 (.slice (some ⟨g6, 0, none⟩) I.length c6)
    have hbC := hbB.alloc hbB.size (.cells #[.slice (some ⟨g6, 0, none⟩) I.length c6] 43)
    have p6 := intsA_on (intsA_of own) (below1 w1 (.cells #[.slice (some ⟨g6, 0, none⟩) I.length c6] 43))
    have yC := (boxed_as yA (hb.block _ yA.lt)).alloc (.cells #[.slice (some ⟨g6, 0, none⟩) I.length c6] 43)
    have hg6 := own.lt g6 rfl
    rw [size_alloc] at hg6
    have hy1 : W.heap.size < w1.heap.size := by have := hb.size; rw [size_alloc] at this; omega
    have cL := bL.cell
    have G3C : Boxed (w1.alloc (.cells #[.slice (some ⟨g6, 0, none⟩) I.length c6] 43)) b3 3 (.int .i64 K) := boxed_as G3.out (hbC.block _ G3.out.lt)
    have cK := G3C.cell
    have hn0 : ((I.length : Int) == 0) = false := by rw [beq_eq_false_iff_ne]; omega
    gi_wp2
    refine ⟨trivial, (wide0.calls (numberings_any I.length K _)).mono ?_⟩
    rintro e w3 ⟨rfl, rfl⟩
    obtain ⟨wC, hwC⟩ : ∃ wC, w1.alloc (.cells #[.slice (some ⟨g6, 0, none⟩) I.length c6] 43) = wC := ⟨_, rfl⟩
    have hsC : wC.heap.size = w1.heap.size + 1 := by rw [← hwC]; simp
    rw [hwC] at hbC p6 yC cL cK bL G3C ⊢
    obtain ⟨bN, hbN⟩ : ∃ bN, bN = wC.heap.size := ⟨_, rfl⟩
    rw [← hbN]
    have hbD := below2 wC (.cells #[.int .i64 (I.length : Int)] 3) (.cells #[.int .i64 K] 3)
    have n1 := (Boxed.new wC 3 (.int .i64 (I.length : Int))).alloc (.cells #[.int .i64 K] 3)
    have n2 := Boxed.new (wC.alloc (.cells #[.int .i64 (I.length : Int)] 3)) 3 (.int .i64 K)
    rw [World.size_alloc, ← hbN] at n2
    rw [← hbN] at n1
    obtain ⟨W0, hW0⟩ : ∃ W0, (wC.alloc (.cells #[.int .i64 (I.length : Int)] 3)).alloc (.cells #[.int .i64 K] 3) = W0 := ⟨_, rfl⟩
    have hs0 : W0.heap.size = bN + 2 := by rw [← hW0, hbN]; simp
    rw [hW0] at hbD n1 n2 ⊢
    have owC := own.alloc (.cells #[.slice (some ⟨g6, 0, none⟩) I.length c6] 43)
    rw [hwC] at owC
    have hbE := below_on hbC hbD
    have hbW : W.heap.size ≤ W0.heap.size := hbE.size
    have E0 : Env (a : Int) b (castL (I.map (2 ^ ·))) b0 b1 W.heap.size w1.heap.size l (some ⟨g6, 0, none⟩) c6 W0 :=
      ⟨boxed_as G0.out (hbE.block _ G0.out.lt), boxed_as G1.out (hbE.block _ G1.out.lt), boxed_as yC (hbD.block _ yC.lt), by rw [hcl]; exact boxed_as bL (hbD.block _ bL.lt), intsA_on p6 hbD, fun g hg => by cases hg; exact row_nf (own_below owC hbD) rfl⟩
    have HJ1 : Hid (J [] W0) := hJ _ _ _ HJ0.out (KeepG.of_below hbE)
    have hb0l := G0.out.lt; have hb1l := G1.out.lt
    have hbN1 : w1.heap.size < bN := by omega
    have hbN2 : bN + 1 < W0.heap.size := by omega
    have hbN3 : W.heap.size ≤ bN := by omega
    clear hbN hsC hs0
    have HC0 : Hid (¬ T b0 ∧ ¬ T b1) := ⟨hC b0 (.inl rfl), hC b1 (.inr (.inl rfl))⟩
    clear owC hW0 hwC hbD p6 yC bL cL cK G3C hbC hbB hbA yA hb own HJ0 hbE k0 k1 k2
    gi_wp2
    refine wpIn_rangeG (n := 9) (by decide) (gf := 232) (lb := #[.pointer (some ⟨bN, 0, none⟩), .pointer (some ⟨bN + 1, 0, none⟩)]) rfl (enters_of Try.func232 (by kernel_rfl) rfl)
      (seqN bN (bN + 1) I.length K W0 hl1 hl9 n1 n2) (Below.refl _ _) rfl T (fun k hk => by have := hT k hk; omega) (fun k hk => ⟨fun h => by have := hT k h; omega, by omega⟩)
      (fun pre W' => J (pre.filter fun y => wh y.M) W' ∧ Env (a : Int) b (castL (I.map (2 ^ ·))) b0 b1 W.heap.size w1.heap.size l (some ⟨g6, 0, none⟩) c6 W' ∧ ∀ y ∈ pre, W0.heap.size + 2 ≤ y.g)
      (fun cd pre W' => cd = .ret ∧ Jx (pre.filter fun y => wh y.M) W' ∧ ∀ y ∈ pre, W0.heap.size + 2 ≤ y.g)
      (fun s X Y hs hk => ⟨hJ _ _ _ hs.1 ⟨hk.os, hk.tape, hk.output, hk.size, fun k hk1 hk2 => hk.block k hk1 (hk2.imp (fun h => by omega) (fun ⟨y, hy, e⟩ => ⟨y, filter_sub hy, e⟩)), hk.foreign⟩, hs.2.1.as (fun k hk1 => hk.block k (hs.2.1.lt (by rw [hcl]; exact hl1) hk1) (.inl (by omega))), hs.2.2⟩)
      (fun cd s X Y hs hk => ⟨hs.1, hJx _ _ _ hs.2.1 ⟨hk.os, hk.tape, hk.output, hk.size, fun k hk1 hk2 => hk.block k hk1 (hk2.imp (fun h => by omega) (fun ⟨y, hy, e⟩ => ⟨y, filter_sub hy, e⟩)), hk.foreign⟩, hs.2.2⟩)
      ⟨HJ1.out, E0, fun y hy => by cases hy⟩
      (fun x => { tmps := #[.func (.yield l) #[] #[], .pointer (some ⟨b0, 0, none⟩), .pointer (some ⟨b1, 0, none⟩), .pointer (some ⟨b2, 0, none⟩), .pointer (some ⟨b3, 0, none⟩), .pointer (some ⟨W.heap.size, 0, none⟩), .pointer (some ⟨w1.heap.size, 0, none⟩), hdr x, .int .i64 a, .int .i64 b, .int .i64 mm, .slice (some ⟨g6, 0, none⟩) I.length c6, .slice (some ⟨g6, 0, none⟩) I.length c6, .int .i64 I.length, .bool false, .slice (some ⟨g6, 0, none⟩) I.length c6, .int .i64 I.length, .int .i64 K, .func (.func 232) #[] #[.pointer (some ⟨bN, 0, none⟩), .pointer (some ⟨bN + 1, 0, none⟩)], hdr x, undef, undef, undef, undef, undef, undef, undef, undef, undef, undef, undef, undef], defers := [] }) ?assign ?body ?done ?stop
    case assign =>
      intro l2 x W2 K2 hK2
      gi_wp2
      exact hK2
    case body =>
      rintro l2 pre x W2 ⟨hj, env, hge⟩ hx hge2 ⟨hl2, hl3⟩
      obtain ⟨C, hCm, hCx⟩ : ∃ C, C ∈ numsD K.toNat I.length 0 ∧ castL C = x.M := by
        have := hx.next.subset (List.mem_append_right _ (List.mem_singleton.2 rfl))
        exact List.mem_map.1 this
      obtain ⟨hCl, hCn, -, -⟩ := numsD_mem _ _ _ hCm
      have hxl : x.M.length = I.length := by rw [← hCx, castL_len, hCl]
      have hxr := hx.at_.ints
      have HX := Lib.hid hx
      have HEV := Lib.hid env
      have HJ2 := Lib.hid hj
      have HGE := Lib.hid hge
      have HWC := Lib.hid (HWP.out C)
      rw [hCx] at HWC
      have HUQ := Lib.hid (fun A1 A2 c1 c2 W h1 h2 => HU.out A1 A2 c1 c2 C W h1 h2 hCl.symm (by omega) hCn)
      rw [hCx] at HUQ
      have hul : (uniF [] I C).length ≤ 1048576 := by have := uni_ge (I := I) (C := C) hCl.symm hCn; omega
      have HAQ := Lib.hid (fun A c W hP => HAW.out A c (castL (uniF [] I C)) W hP (by rw [castL_len]; exact hul))
      rw [castL_len] at HAQ
      rw [hCl] at HUQ
      have hhx : hdr x = .slice (some ⟨x.g, 0, none⟩) I.length x.cap := by unfold hdr; rw [hxl]
      have k0 := cell_regrown env.w0.cell
      have k1 := cell_regrown env.h0.cell
      have k2 := cell_regrown env.l0.cell
      have k3 := cell_regrown env.y0.cell
      rw [hcl] at k2
      rw [hhx]
      have HHX := Lib.hid hhx
      generalize uniF [] I C = U at *
      clear hCm hCl hCn hCx hxl hj env hge hx hul hhx HU HAW HWP
      gi_wp2
      refine region_make2_in 4 3 2 (wideR l2) (by kernel_rfl) (by kernel_rfl) (by kernel_rfl) ?_
      simp only [List.take_succ_cons, List.take_zero, List.drop_succ_cons, List.drop_zero]
      repeat (first
        | go_big_quiet_step (fail)
        | quiet_step (fail))
      refine wpQuiet_nil ?_
      rintro _ ⟨⟨dq, osq⟩, rfl⟩
      simp only [onesL]
      have hb4 := below_regrown W2 dq osq
      clear k0 k1 k2
      generalize grow (redrawn W2 dq) osq = W4 at *
      have H1 := Lib.hid (HUQ.out (some ⟨g6, 0, none⟩) (some ⟨x.g, 0, none⟩) c6 x.cap W4 (intsA_on HEV.out.row hb4) (intsA_on hxr hb4))
      gi_wp2
      refine ⟨trivial, ((wideR l2).calls H1.out).mono ?_⟩
      rintro e W5 ⟨v5, rfl, own5, hb5'⟩
      rw [castL_len] at own5
      have hb5 := hb4.trans (hb5'.mono hb4.size)
      obtain ⟨A5, c5, rfl⟩ := own_castL own5
      have H2 := Lib.hid (HAQ.out A5 c5 W5 (intsA_of own5))
      clear own5 hb5' hb4 H1
      gi_wp2
      refine ⟨hb5, ?_⟩
      gi_wp2
      refine ⟨trivial, ((wideR l2).calls H2.out).mono ?_⟩
      rintro e W6 ⟨v, rfl, hv, hb6'⟩
      have hb6 := hb5.trans (hb6'.mono hb5.size)
      have hwx : wh x.M = v := by rw [Bool.eq_iff_iff, HWC.out, hv]
      have HWX := Lib.hid hwx
      have env6 := HEV.out.as (fun k hk => hb6.block k (HEV.out.lt (by rw [hcl]; exact hl1) hk))
      have HJ6 : Hid (J (pre.filter fun y => wh y.M) W6) := hJ _ _ _ HJ2.out (KeepG.of_below hb6)
      have hb6n := hb6
      clear hv hb6' hb5 hwx
      cases v
      · have R : Hid (ButT T W2 W6 ∧ J ((pre ++ [x]).filter fun y => wh y.M) W6 ∧ Env (a : Int) b (castL (I.map (2 ^ ·))) b0 b1 W.heap.size w1.heap.size l (some ⟨g6, 0, none⟩) c6 W6 ∧ ∀ y ∈ pre ++ [x], W0.heap.size + 2 ≤ y.g) := by
          refine ⟨ButT.of_below hb6, by rw [filter_no HWX.out]; exact HJ6.out, env6, fun y hy => ?_⟩
          rcases List.mem_append.1 hy with h | h
          · exact HGE.out y h
          · simp only [List.mem_singleton] at h; rw [h]; exact HX.out.far
        clear env6 hb6
        gi_wp2
        refine ⟨hb6n, ?_⟩
        gi_wp2
        refine ⟨hb6n, ?_⟩
        clear hb6n
        repeat (first
          | go_big_quiet_step (fail)
          | quiet_step (fail))
        refine wpQuiet_nil ?_
        gi_wp2
        refine ⟨fun _ h => (by cases h), ?_⟩
        gi_wp2
        exact R.out
      · have cy := env6.y0.cell
        have hrx : RowAt W6 x := HX.out.at_.below hb6
        obtain ⟨fn, tmps, assign, body, hy, hR⟩ := hY 6 (pre.filter fun y => wh y.M) x W6 HJ6.out ⟨hrx, by
            have h1 := HX.out.next.filter wh
            rw [List.filter_append] at h1
            rw [filter_map]
            simpa [HWX.out] using h1, by have := HX.out.far; omega, fun y hy => HX.out.apart y (filter_sub hy)⟩
        have R : Hid (∀ (e : Ending) W' a0, ((e = .returned (.bool true) ∧ J ((pre.filter fun y => wh y.M) ++ [x]) W' ∧ ButT T W6 W') → postG T (fun pre W' => J (pre.filter fun y => wh y.M) W' ∧ Env (a : Int) b (castL (I.map (2 ^ ·))) b0 b1 W.heap.size w1.heap.size l (some ⟨g6, 0, none⟩) c6 W' ∧ ∀ y ∈ pre, W0.heap.size + 2 ≤ y.g)
            (fun cd pre W' => cd = .ret ∧ Jx (pre.filter fun y => wh y.M) W' ∧ ∀ y ∈ pre, W0.heap.size + 2 ≤ y.g) (pre ++ [x]) W2 .normal a0 W') ∧
            ((e = .returned (.bool false) ∧ Jx ((pre.filter fun y => wh y.M) ++ [x]) W' ∧ ButT T W6 W') → postG T (fun pre W' => J (pre.filter fun y => wh y.M) W' ∧ Env (a : Int) b (castL (I.map (2 ^ ·))) b0 b1 W.heap.size w1.heap.size l (some ⟨g6, 0, none⟩) c6 W' ∧ ∀ y ∈ pre, W0.heap.size + 2 ≤ y.g)
            (fun cd pre W' => cd = .ret ∧ Jx (pre.filter fun y => wh y.M) W' ∧ ∀ y ∈ pre, W0.heap.size + 2 ≤ y.g) (pre ++ [x]) W2 .ret a0 W')) := by
          intro e W' a0
          have hgx : ∀ y ∈ pre ++ [x], W0.heap.size + 2 ≤ y.g := fun y hy => by
            rcases List.mem_append.1 hy with h | h
            · exact HGE.out y h
            · simp only [List.mem_singleton] at h; rw [h]; exact HX.out.far
          have kT : ∀ k, k = b0 ∨ k = b1 ∨ k = W.heap.size ∨ k = w1.heap.size ∨ k = g6 → ¬ T k := fun k hk h => by
            have := hT k h
            rcases hk with rfl | rfl | rfl | rfl | rfl
            · exact HC0.out.1 h
            · exact HC0.out.2 h
            · omega
            · omega
            · have := hg6.1; omega
          refine ⟨fun ⟨_, h1, h2⟩ => ⟨(ButT.of_below hb6).trans h2, by rw [filter_yes HWX.out]; exact h1, env6.as (fun k hk => h2.block k (env6.lt (by rw [hcl]; exact hl1) hk) (kT k hk) (env6.nf hk)), hgx⟩, fun ⟨_, h1, h2⟩ => ⟨(ButT.of_below hb6).trans h2, rfl, by rw [filter_yes HWX.out]; exact h1, hgx⟩⟩
        rw [HHX.out] at hy
        clear env6 hb6 hrx
        gi_wp2
        refine ⟨hb6n, ?_⟩
        gi_wp2
        refine ⟨hb6n, ?_⟩
        clear hb6n
        repeat (first
          | go_big_quiet_step (fail)
          | quiet_step (fail))
        refine wpQuiet_nil ?_
        gi_wp2
        refine RoundIn.mono (show RoundIn (Fence.wide.inRound (W0.heap.size + 1)) 6 Try.prog l fn tmps assign body W6 _ from hR) ?_
        intro e W7 h7
        rcases h7 with h7 | h7
        · have RR := Lib.hid (fun a0 => (R.out e W7 a0).1 h7)
          obtain ⟨rfl, -, -⟩ := h7
          gi_wp2
          exact RR.out _
        · have RR := Lib.hid (fun a0 => (R.out e W7 a0).2 h7)
          obtain ⟨rfl, -, -⟩ := h7
          gi_wp2
          exact RR.out _
    case done =>
      rintro D xs W7 hD hxs ⟨hj, -, hge⟩ hK
      have HJ7 : Hid (J (xs.filter fun y => wh y.M) (W7.putObj D (.deferred none))) := hJ _ _ _ hj (KeepG.putObj W7 D _ (by omega) (fun ⟨y, hy, e⟩ => by have := hge y (filter_sub hy); omega) (no_foreign hK (fun _ _ _ e => by cases e)))
      clear hj hge
      gi_wp2
      refine ⟨by simp, .inl ⟨_, _, rfl, run_takeDeferred hK, ?_⟩⟩
      exact ⟨_, results_none rfl _ _ _, ⟨_, rfl⟩, .inl ⟨_, by rw [filter_map, hxs], HJ7.out⟩⟩
    case stop =>
      rintro D cd pre W7 hD hpre ⟨rfl, hj, hge⟩ hK
      have HJ7 : Hid (Jx (pre.filter fun y => wh y.M) (W7.putObj D (.deferred none))) := hJx _ _ _ hj (KeepG.putObj W7 D _ (by omega) (fun ⟨y, hy, e⟩ => by have := hge y (filter_sub hy); omega) (no_foreign hK (fun _ _ _ e => by cases e)))
      clear hj hge
      gi_wp2
      refine ⟨by simp, .inl ⟨_, _, rfl, run_takeDeferred hK, ?_⟩⟩
      exact ⟨_, results_none rfl _ _ _, ⟨_, rfl⟩, .inr ⟨_, by rw [filter_map]; exact hpre.filter wh, HJ7.out⟩⟩
end Go.Proofs.Ytncahchhinfneaa

/-! CntI9 -/
namespace Go.Proofs.Ytncahchhinfneaa
open Go.RowKit Go.Sort
attribute [local go_sem] Oper.semAt_some

theorem listsC_le {w h M K : Int} {wh : List Int → Bool} : (listsC w h M K wh).length ≤ 362880 := by
  unfold listsC
  cases hB : okC w h M
  · simp
  · obtain ⟨a, b, m, n, _, _, _, _, _, _, _, _, _, _, hix, _, h1, h9, _⟩ := okC_nat hB
    simp only [cond_true]
    refine Nat.le_trans (List.length_filter_le _ _) ?_
    unfold listsN
    rw [List.length_map, hix]
    exact numsD_len h1 h9
theorem okC_len {w h M : Int} (hB : okC w h M = true) : ∃ q, (cutCells w h M).length = q ∧ 1 ≤ q ∧ q ≤ 9 := by
  obtain ⟨a, b, m, n, _, _, _, _, _, _, _, _, _, _, hix, _, hl1, hl9, _⟩ := okC_nat hB
  exact ⟨(idxL m n).length, by unfold cutCells; rw [hB, hix]; simp [castL_len], hl1, hl9⟩
/-- What CountCuts answers. -/
def CountP (w h M K : Int) (v : Int) : Prop := (okC w h M = false ∧ v = -1) ∨ (okC w h M = true ∧ ∀ wh, IsWh w h M wh → v = ((listsC w h M K wh).length : Nat))
theorem CountP.uniq {w h M K v v' : Int} (h1 : CountP w h M K v) (h2 : CountP w h M K v') : v = v' := by
  obtain ⟨wh, hw⟩ := isWh_ex w h M
  rcases h1 with ⟨a, rfl⟩ | ⟨a, h1⟩ <;> rcases h2 with ⟨b, rfl⟩ | ⟨b, h2⟩
  · rfl
  · rw [a] at b; cases b
  · rw [a] at b; cases b
  · rw [h1 wh hw, h2 wh hw]
theorem listsC_same {w h M K : Int} {wh wh' : List Int → Bool} (h1 : IsWh w h M wh) (h2 : IsWh w h M wh') : listsC w h M K wh = listsC w h M K wh' := by
  have : wh = wh' := by funext c; rw [Bool.eq_iff_iff, h1 c, h2 c]
  rw [this]
def CountQ (w h M K : Int) (W : World) (e : Ending) (w' : World) : Prop := ∃ v : Int, e = .returned (.int .i64 v) ∧ CountP w h M K v ∧ Below W.heap.size W w'
end Go.Proofs.Ytncahchhinfneaa

/-! AllS9 -/
namespace Go.Proofs.Ytncahchhinfneaa
open Go.RowKit

theorem row_num {Rs : List Rw} {K q : Nat} (hM : Rs.map Rw.M = listsN K q) (k : Nat) (hk : k < Rs.length) : ∃ C, C ∈ numsD K q 0 ∧ (Rs[k]).M = castL C := by
  have h1 : (Rs[k]).M ∈ listsN K q := by
    rw [← hM]; exact List.mem_map_of_mem (List.getElem_mem hk)
  obtain ⟨C, hC, e⟩ := List.mem_map.1 h1
  exact ⟨C, hC, e.symm⟩
theorem rows_filter {w : World} {B B' : Nat} {v v9 : Value} {Rs Qs : List Rw} {f : Rw → Bool} (h : RowsR w B v Rs) (hB : B' ≤ B) (hq : Qs = Rs.filter f) (ho : w.ownsRow B' 43 1 v9 Qs.length (Qs.map hdr)) (hf : ∀ r ∈ Rs, v9.ownBlock ≠ some r.g) : RowsR w B' v9 Qs := by
  subst hq
  exact ⟨ho, fun r hr => own_base (h.row r (List.mem_filter.1 hr).1) hB, fun r hr => hf r (List.mem_filter.1 hr).1, h.nodup.sublist (List.filter_sublist.map _)⟩
set_option maxRecDepth 100000 in
set_option maxHeartbeats 8000000 in
theorem specAll_any (w h M : Int) (K : Nat) (wh : List Int → Bool) (HW : IsWh w h M wh) (hB : okC w h M = true) (hK9 : K ≤ 9) (W : World) :
    Calls Try.prog 187 #[.int .i64 w, .int .i64 h, .int .i64 M, .int .i64 K] W (ListsR9 W (listsC w h M K wh)) := by
  obtain ⟨i0, hi0, hz0, hz1, hz2⟩ := info_parts infoR9
  obtain ⟨a, b, m, n, rfl, rfl, rfl, hab, ha1, ha2, hb1, hb2, hm, hn36, hix, hpc, hl1, hl9, hS⟩ := okC_nat hB
  have HNS := Lib.hid (fun W => ones_any m W (Nat.lt_of_lt_of_le hm (Nat.pow_le_pow_right (by omega) hn36)))
  rw [hpc] at HNS
  obtain ⟨I, hI⟩ : ∃ I, I = idxL m n := ⟨_, rfl⟩
  have HSS : Hid (listsC (a : Int) b m K wh = (listsN K I.length).filter wh) := by
    show _ = _
    unfold listsC; rw [hB, hix, hI]; rfl
  have HP := Lib.hid (fun A c C W (h2 : IntsA W A (castL C)) (hl : C.length = (idxL m n).length) (hN : numF 0 C = true) => specPieces_any a m n A c C W ⟨ha1, ha2⟩ hm hn36 h2 hl.symm (by omega) hN)
  have HWH := Lib.hid (fun (C : List Nat) A c W hP (hl : C.length = (idxL m n).length) (hN : numF 0 C = true) => specWhole_any a b n A c (uniF [] (idxL m n) C) W (shape_of_lt hab ⟨ha1, ha2⟩ ⟨hb1, hb2⟩) hab ⟨ha1, ha2⟩ ⟨hb1, hb2⟩ hn36 hP (by
      have := uni_ge (I := idxL m n) (C := C) hl.symm hN
      omega) (uni_lt hl.symm hN))
  have HWP : Hid (∀ C : List Nat, wh (castL C) = true ↔ AllP a b (castL (uniF [] I C))) := fun C => by
    have := HW (castL C)
    rw [pieV_cast, hix, ← hI] at this
    exact this
  rw [← hI] at HP HWH HNS hl1 hl9
  have HNM := Lib.hid (fun W => specNums_any I.length K W hl1 hl9 hK9)
  have HLE : Hid ((listsN K I.length).length ≤ 362880) := by
    show _ ≤ _
    unfold listsN; rw [List.length_map]; exact numsD_len hl1 hl9
  have own0 := World.ownsRow_lit (base := W.heap.size) (e := 43) (size := 1) W #[] 0 (Nat.le_refl _) (by decide) rfl
  have b0 := below1 W (.cells #[] 43)
  have HO0 := Lib.hid own0
  have HB0 := Lib.hid b0
  clear hB hab hm hix hpc hS HW hI own0 b0
  go_enter Try.func187, Try.ntmps187
  go_wp2_with fail
  refine (HNS.out _).mono ?_
  rintro e w0 ⟨rfl, rfl⟩
  go_wp2_with fail
  refine (HNM.out _).mono ?_
  rintro e w1 ⟨v, Rs, rfl, hR, hM, hb1⟩
  rw [size_alloc] at hR
  obtain ⟨A, c, rfl, -⟩ := hR.form
  have HR0 := Lib.hid hR
  have HM := Lib.hid hM
  have hRl : Rs.length ≤ 362880 := by
    have := congrArg List.length hM
    rw [List.length_map] at this
    rw [this]; exact HLE.out
  have HOW : Hid (w1.ownsRow W.heap.size 43 1 (.slice (some ⟨W.heap.size, 0, none⟩) 0 0) ([] : List Rw).length (([] : List Rw).map hdr)) := own_below HO0.out hb1
  have HBW := Lib.hid (below_on HB0.out hb1)
  have hs1 : W.heap.size < w1.heap.size := by have := hb1.size; rw [size_alloc] at this; omega
  clear hR hM hb1 HO0 HB0 HLE
  go_wp2_with fail
  go_loopw [9, 20] (fun v9 iv wr => ∃ (k : Nat) (Qs : List Rw), k ≤ Rs.length ∧ iv = .int .i64 k ∧ Qs.length ≤ k ∧ Hid (Qs = (Rs.take k).filter (fun r => wh r.M)) ∧ Hid (wr.ownsRow W.heap.size 43 1 v9 Qs.length (Qs.map hdr)) ∧ Hid (∀ g, v9.ownBlock = some g → g = W.heap.size ∨ w1.heap.size ≤ g) ∧
      Hid (RowsR wr (W.heap.size + 1) (.slice A Rs.length c) Rs) ∧ Hid (Below W.heap.size W wr) ∧ w1.heap.size ≤ wr.heap.size) (fun _ iv _ => Rs.length - (intOf iv).toNat)
  case atStart => exact ⟨0, [], Nat.zero_le _, rfl, Nat.le_refl _, rfl, HOW, fun g hg => by cases hg; exact .inl rfl, HR0, HBW, Nat.le_refl _⟩
  case round =>
    have HT : Hid (∀ r ∈ Rs, W.heap.size < r.g ∧ r.g < w1.heap.size) := fun r hr => HR0.out.lt hr
    have HTA : Hid (∀ g, (Value.slice A Rs.length c).ownBlock = some g → W.heap.size < g ∧ g < w1.heap.size) := fun g hg => HR0.out.out.lt g hg
    clear HOW HR0 HBW
    obtain ⟨wo, rfl⟩ : ∃ wo : World, wo = wr := ⟨_, rfl⟩
    obtain ⟨k, Qs, hk, rfl, hQk, HQ, HOW, HOB, HR, HB, hw1⟩ := hrel
    by_cases hkl : k < Rs.length
    · obtain ⟨A', c', hv, hat⟩ := HR.out.form
      cases hv
      obtain ⟨gA, rfl, hc1⟩ := hat k hkl
      obtain ⟨C, hCm, hCM⟩ := row_num HM.out k hkl
      obtain ⟨hCl, hCn, -, -⟩ := numsD_mem _ _ _ hCm
      have hrow := HR.out.row _ (List.getElem_mem hkl)
      have hTk : Hid (Rs.take (k + 1) = Rs.take k ++ [Rs[k]]) := take_snoc hkl
      have hrm := List.getElem_mem hkl
      have HTR := Lib.hid (HT.out _ hrm)
      have hq9 : I.length ≤ 9 := hl9
      have HHW := HWP.out C
      obtain ⟨r, hr⟩ : ∃ r, r = Rs[k] := ⟨_, rfl⟩
      rw [← hr] at hc1 hCM hrow hTk HTR
      have hh : hdr r = .slice (some ⟨r.g, 0, none⟩) C.length r.cap := by unfold hdr; rw [hCM, castL_len]
      rw [hh] at hc1 hrow
      rw [hCM, castL_len] at hrow
      have HP1 := Lib.hid (HP.out _ r.cap C wo (intsA_of hrow) hCl hCn)
      have HW1 := Lib.hid (fun A c W hP => HWH.out C A c W hP hCl hCn)
      have HHH := Lib.hid hh
      have HCM := Lib.hid hCM
      rw [← HCM.out] at HHW
      have HWW := Lib.hid HHW
      generalize uniF [] I C = U at *
      rw [hCl] at hc1 HP1 HHH
      clear hCm hCl hCn hr hrm hh hCM hrow hat HHW
      go_wp2_with fail
      refine HP1.out.mono ?_
      rintro e w3 ⟨v3, rfl, own3, hb3⟩
      rw [castL_len] at own3
      obtain ⟨A3, c3, rfl⟩ := own_castL own3
      have H3 := Lib.hid (HW1.out A3 c3 w3 (intsA_of own3))
      have hs3 := hb3.size
      have HB3 := Lib.hid hb3
      clear own3 hb3 HP1 HW1 hc1
      go_wp2_with fail
      refine H3.out.mono ?_
      rintro e w4 ⟨y, rfl, hy, rfl⟩
      have HR3 := Lib.hid (HR.out.below HB3.out)
      have HOW3 := Lib.hid (own_below HOW.out HB3.out)
      have HBB := Lib.hid (below_on HB.out HB3.out)
      have HY : Hid (wh r.M = y) := by
        show _ = _
        rw [Bool.eq_iff_iff, HWW.out, hy]
      clear hy H3 HR HOW HB
      cases y
      · have HQ2 : Hid (Qs = (Rs.take (k + 1)).filter (fun r => wh r.M)) := by
          show _ = _
          rw [hTk.out, filter_no HY.out]; exact HQ.out
        clear HQ
        go_wp2_with fail
        go_roundw
        case rel => exact ⟨k + 1, Qs, by omega, by go_num, by omega, HQ2, HOW3, HOB, HR3, HBB, by omega⟩
        case measure => simp [intOf]; omega
      · have HQ2 : Hid (Qs ++ [r] = (Rs.take (k + 1)).filter (fun r => wh r.M)) := by
          show _ = _
          rw [hTk.out, filter_yes HY.out, ← HQ.out]
        have own8 := HOW3.out.alloc (.cells #[.slice (some ⟨r.g, 0, none⟩) I.length r.cap] 43)
        have hs0 := HBB.out.size
        clear HQ
        go_wp2_with (at_builtin; refine wpList_append_own_at _ rfl _ _ 148 rfl W.heap.size 43 i0 (.slice none 0 0) 1 24 Try.underlying148 hi0 hz0 hz1 hz2 rfl (by decide) _ _ _ rfl own8 ⟨w4.heap.size, 0, none⟩ 1 1 [.slice (some ⟨r.g, 0, none⟩) I.length r.cap] rfl rfl (World.news_of_block (cs := #[.slice (some ⟨r.g, 0, none⟩) I.length r.cap]) (t := 43) (fr := (0, 0)) (heap_alloc_new w4 _)) ?d2 ?d3 ?d4 ?d5 ?_)
        case d2 => simp [Value.oneCell']
        case d3 => unfold maxLen; omega
        case d4 => omega
        try (case d5 => first | omega | (simp; omega))
        intro v8 w8 o8 hg8 _ hat8
        have hOB := HOB.out
        have hgb : ∀ g, u9.ownBlock = some g → W.heap.size ≤ g := fun g hg => (HOW3.out.lt g hg).1
        have HR8 : Hid (RowsR w8 (W.heap.size + 1) (.slice (some ⟨gA, 0, none⟩) Rs.length c) Rs) := (HR3.out.below (below1 w4 (.cells #[.slice (some ⟨r.g, 0, none⟩) I.length r.cap] 43))).kept9 hg8 (fun g hg => by
          have h1 := hOB g hg
          refine ⟨fun e => ?_, fun x hx e => ?_⟩
          · have := HTA.out g e; omega
          · have := HT.out x hx; omega)
        have HB8 : Hid (Below W.heap.size W w8) := (HBB.out.alloc hs0 (.cells #[.slice (some ⟨r.g, 0, none⟩) I.length r.cap] 43)).grown hg8 (by simp; omega) hgb
        have HO8 : Hid (w8.ownsRow W.heap.size 43 1 v8 (Qs ++ [r]).length ((Qs ++ [r]).map hdr)) := by
          show World.ownsRow _ _ _ _ _ _ _
          rw [List.length_append, List.map_append, List.map_singleton, HHH.out]; exact o8
        have HOB8 : Hid (∀ g, v8.ownBlock = some g → g = W.heap.size ∨ w1.heap.size ≤ g) := fun g hg => by
          rcases hat8 with e | e
          · exact hOB g (e.symm.trans hg)
          · rw [e] at hg
            have := Option.some.inj hg
            omega
        have hw8 : w1.heap.size ≤ w8.heap.size := by have := hg8.size; rw [size_alloc] at this; omega
        clear own8 o8 hg8 hat8 hOB hgb HR3 HOW3 HBB
        go_wp2_with fail
        go_roundw
        case rel => exact ⟨k + 1, Qs ++ [r], by omega, by go_num, by simp; omega, HQ2, HO8, HOB8, HR8, HB8, hw8⟩
        case measure => simp [intOf]; omega
    · obtain rfl : k = Rs.length := by omega
      have RR : Hid (ListsR9 W (listsC (a : Int) b m K wh) (.returned u9) wo) := by
        have hq := HQ.out
        rw [List.take_length] at hq
        refine ⟨u9, Qs, rfl, rows_filter HR.out (Nat.le_succ _) hq HOW.out (fun r hr e => ?_), ?_, HB.out⟩
        · have h1 := HT.out r hr
          have h2 := HOB.out _ e
          omega
        · rw [HSS.out, hq, filter_map, HM.out]
      clear HQ HOW HOB HR HB
      go_wp2_with fail
      go_ret
      exact RR.out
end Go.Proofs.Ytncahchhinfneaa

/-! CntS9 -/
namespace Go.Proofs.Ytncahchhinfneaa
open Go.RowKit

theorem listsC_none {w h M K : Int} {wh : List Int → Bool} {q : Nat} (hB : okC w h M = true) (hq : (idxV w h M).length = q) (h1 : 1 ≤ q) (hK : inB K 1 (q : Int) = false) : listsC w h M K wh = [] := by
  unfold listsC
  rw [hB, hq]
  simp only [cond_true]
  have e : listsN K.toNat q = [] := by
    unfold listsN
    have : numsD K.toNat q 0 = [] := by
      unfold inB at hK
      simp only [Bool.and_eq_false_iff, decide_eq_false_iff_not] at hK
      by_cases h2 : (q : Int) < K
      · exact numsD_none (by omega)
      · obtain ⟨t, rfl⟩ : ∃ t, q = t + 1 := ⟨q - 1, by omega⟩
        have h3 : K.toNat = 0 := by omega
        rw [h3]
        simp [numsD]
    rw [this]; rfl
  rw [e]; rfl
/-- What the two laws of a spec function are told by the shape. -/
theorem okC_pc {w h M : Int} (hB : okC w h M = true) : ∃ m q : Nat, M = m ∧ m < 68719476736 ∧ pc 64 m = q ∧ (idxV w h M).length = q ∧ 1 ≤ q ∧ q ≤ 9 := by
  obtain ⟨a, b, m, n, rfl, rfl, rfl, hab, ha1, ha2, hb1, hb2, hm, hn36, hix, hpc, hl1, hl9, hS⟩ := okC_nat hB
  exact ⟨m, (idxL m n).length, rfl, Nat.lt_of_lt_of_le hm (Nat.le_trans (Nat.pow_le_pow_right (show 2 > 0 by omega) (show n ≤ 36 by omega)) (by decide)), hpc, by rw [hix], hl1, hl9⟩
theorem inB_K {K : Int} {q : Nat} (h : inB K 1 (q : Int) = true) (h9 : q ≤ 9) : ∃ k : Nat, K = k ∧ k ≤ 9 ∧ 1 ≤ k := by
  unfold inB at h
  simp only [Bool.and_eq_true, decide_eq_true_eq] at h
  exact ⟨K.toNat, by omega, by omega, by omega⟩
end Go.Proofs.Ytncahchhinfneaa

/-! FstI9 -/
namespace Go.Proofs.Ytncahchhinfneaa
open Go.RowKit Go.Sort
attribute [local go_sem] Oper.semAt_some

theorem run_var1 (w : World) (t : TypeId) (g : Nat) (v : Value) (ha : ∀ w, (isAgg t).run Try.prog w = .ok false w) (h : w.cell? ⟨g, 0, none⟩ = some v) : (loadVar t ⟨g, 0, none⟩).run Try.prog w = .ok v w := by
  simp [loadVar, Sem.run_bind, ha, go_sem, h, Result.andThen]
theorem results_cells2 {fn : Func} {p q : Tmp} (h : fn.results = #[.cell p 43, .cell q 4]) (tmps : Array Value) (w : World) (g1 g2 : Nat) (v u : Value) (hp : tmps.getD p undef = .pointer (some ⟨g1, 0, none⟩)) (hq : tmps.getD q undef = .pointer (some ⟨g2, 0, none⟩))
    (h1 : w.cell? ⟨g1, 0, none⟩ = some v) (h2 : w.cell? ⟨g2, 0, none⟩ = some u) : (results fn tmps).run Try.prog w = .ok (.tuple #[v, u]) w := by
  have hp' : tmps[p]?.getD undef = .pointer (some ⟨g1, 0, none⟩) := by simpa using hp
  have hq' : tmps[q]?.getD undef = .pointer (some ⟨g2, 0, none⟩) := by simpa using hq
  have e1 := run_var1 w 43 g1 v (by intro w; simp [isAgg, go_sem, Try.underlying43]) h1
  have e2 := run_var1 w 4 g2 u (by intro w; simp [isAgg, go_sem, Try.underlying4]) h2
  simp [results, h, hp', hq', asAddr, Sem.run_bind, e1, e2, Result.andThen]
theorem RowAt.own {W : World} {x : Rw} {B : Nat} (h : RowAt W x) (hB : B ≤ x.g) : W.ownsRow B 3 1 (hdr x) x.M.length (Go.Proofs.Ytncahchhinfneaa.ints x.M) := by
  rcases h.2 with ⟨h1, _⟩ | ⟨g, cap, cur, hv, hg, r⟩
  · cases h1
  · have : x.g = g := by
      have := congrArg Value.ownBlock hv
      simpa [hdr, Value.ownBlock] using this
    exact ⟨h.1, .inr ⟨g, cap, cur, hv, by omega, r⟩⟩
/-- The first of a list of lists, and whether there is one. -/
def headV : List (List Int) → List Int × Bool
  | [] => ([], false)
  | x :: _ => (x, true)
/-- What FirstCut answers. -/
def FirstP (w h M K : Int) (V : List Int × Bool) : Prop := (∀ wh, IsWh w h M wh → V = headV (listsC w h M K wh)) ∧ V.1.length ≤ 9
theorem FirstP.uniq {w h M K : Int} {V V' : List Int × Bool} (h1 : FirstP w h M K V) (h2 : FirstP w h M K V') : V = V' := by
  obtain ⟨wh, hw⟩ := isWh_ex w h M
  rw [h1.1 wh hw, h2.1 wh hw]
theorem listsC_mem {w h M K : Int} {wh : List Int → Bool} : ∀ c ∈ listsC w h M K wh, c.length ≤ 9 := by
  unfold listsC
  cases hB : okC w h M
  · intro c hc; cases hc
  · obtain ⟨q, hcl, hl1, hl9⟩ := okC_len hB
    obtain ⟨a, b, m, n, rfl, rfl, rfl, _, _, _, _, _, _, _, hix, _, h1, h9, _⟩ := okC_nat hB
    intro c hc
    simp only [cond_true] at hc
    obtain ⟨C, hC, rfl⟩ := List.mem_map.1 (List.mem_filter.1 hc).1
    rw [castL_len, (numsD_mem _ _ _ hC).1, hix]
    exact h9
theorem headV_len {L : List (List Int)} (h : ∀ c ∈ L, c.length ≤ 9) : (headV L).1.length ≤ 9 := by
  cases L with
  | nil => simp [headV]
  | cons x L => exact h x (by simp)
theorem firstP_of {w h M K : Int} {wh : List Int → Bool} (hw : IsWh w h M wh) : FirstP w h M K (headV (listsC w h M K wh)) := ⟨fun wh' h' => by rw [listsC_same h' hw], headV_len listsC_mem⟩
def FirstQ (P : List Int × Bool → Prop) (W : World) (e : Ending) (w' : World) : Prop := ∃ V v, e = .returned (.tuple #[v, .bool V.2]) ∧ P V ∧ w'.ownsRow W.heap.size 3 1 v V.1.length (ints V.1) ∧ Below W.heap.size W w'
end Go.Proofs.Ytncahchhinfneaa

/-! DisP10 -/
namespace Go.Proofs.Ytncahchhinfneaa
open Go.RowKit

/-! ### Cells are counted piece by piece -/
theorem countP_or (f g : Nat → Bool) : ∀ n, (∀ j, f j = true → g j = false) → (List.range n).countP (fun j => f j || g j) = (List.range n).countP f + (List.range n).countP g
  | 0, _ => rfl
  | n + 1, h => by
    have ih := countP_or f g n h
    rw [List.range_succ, List.countP_append, List.countP_append, List.countP_append, ih]
    have := h n
    cases hf : f n <;> cases hg : g n <;> simp_all <;> omega
theorem pc_or {p q : Nat} (h : ∀ j, p.testBit j = true → q.testBit j = false) : pc 64 (p ||| q) = pc 64 p + pc 64 q := by
  rw [pc_count, pc_count, pc_count, ← countP_or _ _ 64 h]
  congr 1
  funext j
  rw [Nat.testBit_or]
theorem pc_orL : ∀ L, apartL L → pc 64 (orL L) = (L.map (pc 64)).sum
  | [], _ => by simp only [orL, List.map_nil, List.sum_nil]; exact pc_zero 64
  | p :: L, h => by
    rw [orL, pc_or h.1, pc_orL L h.2]; rfl
/-! ### Names and kinds of the pieces of a cut -/
def namesV (w h M : Int) (c : List Int) : List Int := (pieV w h M c).map (nameV w h)
theorem kinds_names {w h M : Int} {c : List Int} (hc : CutP w h M c) : kindsV w h (pieV w h M c) = (namesV w h M c).map some := by
  obtain ⟨P, hP, -, -, hS⟩ := pie_nat hc
  unfold kindsV namesV
  rw [List.map_map]
  apply List.map_congr_left
  intro x hx
  rw [hP] at hx
  unfold castL at hx
  obtain ⟨p, hp, rfl⟩ := List.mem_map.1 hx
  unfold kindV
  rw [if_pos (hS p hp)]
  rfl
/-- Do the pieces of two cuts match? -/
def hitD (w h a b : Int) (x y : List Int) : Bool := decide (sortN (namesV w h a x) = sortN (namesV w h b y))
theorem hit_match {w h a b : Int} {x y : List Int} (hx : CutP w h a x) (hy : CutP w h b y) : hitD w h a b x y = (matchV (kindsV w h (pieV w h a x)) (kindsV w h (pieV w h b y))).isSome := by
  unfold hitD
  rw [Bool.eq_iff_iff, decide_eq_true_eq, kinds_names hx, kinds_names hy, match_sort]
/-- The number of cells that goes with a name. -/
noncomputable def cellsOfName (w h n : Int) : Nat := @dite Nat (∃ p : Nat, shapeB w h p = true ∧ nameV w h p = n) (Classical.propDecidable _) (fun h => pc 64 (Classical.choose h)) (fun _ => 0)
theorem cellsOfName_eq {a b : Nat} {p : Nat} (hS : shapeB a b p = true) : cellsOfName a b (nameV a b p) = pc 64 p := by
  have hex : ∃ q : Nat, shapeB a b q = true ∧ nameV a b q = nameV a b p := ⟨p, hS, rfl⟩
  unfold cellsOfName
  rw [dif_pos hex]
  obtain ⟨h1, h2⟩ := Classical.choose_spec hex
  exact same_count h1 hS h2
theorem cut_cells {w h M : Int} {c : List Int} (hc : CutP w h M c) : pc 64 M.toNat = ((namesV w h M c).map (cellsOfName w h)).sum := by
  obtain ⟨a, b, m, n, C, k⟩ := cutAt_of hc
  unfold namesV
  have e1 : pc 64 m = ((uniF [] (idxL m n) C).map (pc 64)).sum := by
    rw [← pc_orL _ (uniF_apart k.len (idxL_nodup m n) k.num)]
    exact congrArg (pc 64) (uniF_or k.lt k.len k.num).symm
  rw [k.pie, k.ew, k.eh, k.em, Int.toNat_natCast, e1]
  clear e1
  unfold castL
  rw [List.map_map, List.map_map]
  refine congrArg List.sum ?_
  apply List.map_congr_left
  intro p hp
  have hS := shape_of_lt k.en k.a6 k.b6 p (k.plt p hp)
  exact (cellsOfName_eq hS).symm
theorem hit_cells {w h a b : Int} {x y : List Int} (hx : CutP w h a x) (hy : CutP w h b y) (hh : hitD w h a b x y = true) : pc 64 a.toNat = pc 64 b.toNat := by
  unfold hitD at hh
  rw [decide_eq_true_eq, sortN_eq] at hh
  rw [cut_cells hx, cut_cells hy]
  exact (hh.map _).sum_nat
/-! ### The first pair -/
def findD (f : List Int → List Int → Bool) (LA LB : List (List Int)) : Option (List Int × List Int) := LA.findSome? fun x => (LB.find? (f x)).map fun y => (x, y)
theorem findD_nil (f : List Int → List Int → Bool) (LA : List (List Int)) : findD f LA [] = none := by
  unfold findD
  rw [List.findSome?_eq_none_iff]
  intro x _
  rfl
theorem findD_none {f : List Int → List Int → Bool} {LA LB : List (List Int)} (h : ∀ x ∈ LA, ∀ y ∈ LB, f x y = false) : findD f LA LB = none := by
  unfold findD
  rw [List.findSome?_eq_none_iff]
  intro x hx
  rw [Option.map_eq_none_iff, List.find?_eq_none]
  intro y hy
  rw [h x hx y hy]; simp
theorem findD_at {f : List Int → List Int → Bool} {LA LB : List (List Int)} {i j : Nat} (hi : i < LA.length) (hj : j < LB.length) (hl : ∀ k (hk : k < LA.length), k < i → ∀ y ∈ LB, f LA[k] y = false) (hm : ∀ k (hk : k < LB.length), k < j → f LA[i] LB[k] = false) (hh : f LA[i] LB[j] = true) :
    findD f LA LB = some (LA[i], LB[j]) := by
  have e1 : LA = LA.take i ++ LA[i] :: LA.drop (i + 1) := by rw [← List.drop_eq_getElem_cons hi, List.take_append_drop]
  have e2 : LB.find? (f LA[i]) = some LB[j] := by
    rw [List.find?_eq_some_iff_getElem]
    refine ⟨hh, j, hj, rfl, fun k hk => ?_⟩
    rw [hm k (by omega) hk]; rfl
  have e3 : (LA.take i).findSome? (fun x => (LB.find? (f x)).map fun y => (x, y)) = none := by
    rw [List.findSome?_eq_none_iff]
    intro x hx
    obtain ⟨k, hk, rfl⟩ := List.mem_take_iff_getElem.1 hx
    rw [Option.map_eq_none_iff, List.find?_eq_none]
    intro y hy
    rw [hl k (by omega) (by omega) y hy]; simp
  unfold findD
  generalize LA[i] = x at *
  generalize LB[j] = y at *
  rw [e1, List.findSome?_append, e3, Option.none_or, List.findSome?_cons]
  simp only [e2, Option.map_some]
/-- The cuts of a list are cuts. -/
theorem listsC_cut {w h M K : Int} {wh : List Int → Bool} (HW : IsWh w h M wh) : ∀ c ∈ listsC w h M K wh, CutP w h M c := by
  unfold listsC
  cases hB : okC w h M
  · intro c hc; cases hc
  · obtain ⟨a, b, m, n, rfl, rfl, rfl, _, _, _, _, _, _, _, hix, _, h1, h9, _⟩ := okC_nat hB
    intro c hc
    simp only [cond_true] at hc
    obtain ⟨h2, h3⟩ := List.mem_filter.1 hc
    obtain ⟨C, hC, rfl⟩ := List.mem_map.1 h2
    obtain ⟨q1, q2, -, -⟩ := numsD_mem _ _ _ hC
    exact ⟨hB, by rw [castL_len, q1], by rw [numV_cast]; exact q2, (HW _).1 h3⟩
/-! ### What Dissect answers -/
def seven (w h M : Int) : Bool := shapeB w h M && decide (1 ≤ pc 64 M.toNat ∧ pc 64 M.toNat ≤ 7)
theorem seven_ok {w h M : Int} (h7 : seven w h M = true) : okC w h M = true := by
  unfold seven at h7
  unfold okC
  rw [Bool.and_eq_true, decide_eq_true_eq] at h7 ⊢
  exact ⟨h7.1, h7.2.1, by omega⟩
def resD : Option (List Int × List Int) → List Int × List Int × Bool
  | some (x, y) => (x, y, true)
  | none => ([], [], false)
structure DisD (w h a b K : Int) (V : List Int × List Int × Bool) : Prop where
  eq : ∀ wa wb, IsWh w h a wa → IsWh w h b wb → V = resD (if seven w h a = true ∧ seven w h b = true then findD (hitD w h a b) (listsC w h a K wa) (listsC w h b K wb) else none)
  le1 : V.1.length ≤ 9
  le2 : V.2.1.length ≤ 9
theorem DisD.uniq {w h a b K : Int} {V V' : List Int × List Int × Bool} (h1 : DisD w h a b K V) (h2 : DisD w h a b K V') : V = V' := by
  obtain ⟨wa, ha⟩ := isWh_ex w h a
  obtain ⟨wb, hb⟩ := isWh_ex w h b
  rw [h1.eq wa wb ha hb, h2.eq wa wb ha hb]
theorem disD_no {w h a b K : Int} (hn : ∀ wa wb, IsWh w h a wa → IsWh w h b wb → (if seven w h a = true ∧ seven w h b = true then findD (hitD w h a b) (listsC w h a K wa) (listsC w h b K wb) else none) = none) : DisD w h a b K ([], [], false) :=
  ⟨fun wa wb ha hb => by rw [hn wa wb ha hb]; rfl, by simp, by simp⟩
theorem disD_of {w h a b K : Int} {wa wb : List Int → Bool} (ha : IsWh w h a wa) (hb : IsWh w h b wb) (h7 : seven w h a = true ∧ seven w h b = true) {V : List Int × List Int × Bool} (hV : V = resD (findD (hitD w h a b) (listsC w h a K wa) (listsC w h b K wb))) : DisD w h a b K V := by
  have hin : ∀ x y, findD (hitD w h a b) (listsC w h a K wa) (listsC w h b K wb) = some (x, y) → x ∈ listsC w h a K wa ∧ y ∈ listsC w h b K wb := fun x y hf => by
    unfold findD at hf
    obtain ⟨u, hu, h2⟩ := List.exists_of_findSome?_eq_some hf
    rw [Option.map_eq_some_iff] at h2
    obtain ⟨v, h3, h4⟩ := h2
    simp only [Prod.mk.injEq] at h4
    obtain ⟨rfl, rfl⟩ := h4
    exact ⟨hu, List.mem_of_find?_eq_some h3⟩
  refine ⟨fun wa' wb' ha' hb' => ?_, ?_, ?_⟩
  · rw [if_pos h7, listsC_same ha' ha, listsC_same hb' hb]; exact hV
  · rw [hV]
    cases hf : findD (hitD w h a b) (listsC w h a K wa) (listsC w h b K wb) with
    | none => simp [resD]
    | some q => exact listsC_mem _ (hin q.1 q.2 hf).1
  · rw [hV]
    cases hf : findD (hitD w h a b) (listsC w h a K wa) (listsC w h b K wb) with
    | none => simp [resD]
    | some q => exact listsC_mem _ (hin q.1 q.2 hf).2
/-- Shapes with different numbers of cells. -/
theorem disD_apart {w h a b K : Int} (hne : pc 64 a.toNat ≠ pc 64 b.toNat) : DisD w h a b K ([], [], false) := disD_no fun wa wb ha hb => by
  split
  · refine findD_none fun x hx y hy => ?_
    cases hh : hitD w h a b x y
    · rfl
    · exact absurd (hit_cells (listsC_cut ha x hx) (listsC_cut hb y hy) hh) hne
  · rfl
/-- A number of pieces that is none. -/
theorem disD_few {w h a b K : Int} (hS : seven w h a = true) (hK : inB K 1 (pc 64 a.toNat : Nat) = false) : DisD w h a b K ([], [], false) := disD_no fun wa wb ha hb => by
  have hok := seven_ok hS
  obtain ⟨m, q, hm, -, hpc, hq, h1, -⟩ := okC_pc hok
  rw [hm, Int.toNat_natCast, hpc] at hK
  rw [listsC_none hok hq h1 hK]
  split
  · rfl
  · rfl
end Go.Proofs.Ytncahchhinfneaa

/-! NamS10 -/
namespace Go.Proofs.Ytncahchhinfneaa
open Go.RowKit

set_option maxRecDepth 100000 in
set_option maxHeartbeats 1000000 in
theorem equalS_any (A1 A2 : Option Addr) (c1 c2 : Nat) (L M : List Int) (W : World) (h1 : IntsA W A1 L) (h2 : IntsA W A2 M) (l1 : L.length ≤ 1048576) (l2 : M.length ≤ 1048576) :
    Calls Try.prog 189 #[.slice A1 L.length c1, .slice A2 M.length c2] W fun e w' => e = .returned (.bool (decide (L = M))) ∧ w' = W := by
  have H1 := Lib.hid h1
  have H2 := Lib.hid h2
  clear h1 h2
  by_cases hl : L.length = M.length
  case neg =>
    have hd : decide (L = M) = false := decide_eq_false (fun e => hl (by rw [e]))
    have hne : ((L.length : Int) != (M.length : Int)) = true := by rw [bne_iff_ne]; omega
    rw [hd]
    clear hd hl
    go_enter Try.func189, Try.ntmps189
    go_wp2_with fail
    go_ret
    exact ⟨rfl, rfl⟩
  have HL := Lib.hid hl
  have hne : ((L.length : Int) != (M.length : Int)) = false := by rw [hl]; simp
  clear hl
  go_enter Try.func189, Try.ntmps189
  go_wp2_with fail
  go_loopw [5, 6, 14] (fun _ _ i wr => ∃ k : Nat, k ≤ L.length ∧ i = .int .i64 k ∧ Hid (∀ j (h1 : j < L.length) (h2 : j < M.length), j < k → L[j] = M[j]) ∧ wr = W) (fun _ _ i _ => L.length - (intOf i).toNat)
  case atStart => exact ⟨0, Nat.zero_le _, rfl, fun j _ _ h => absurd h (Nat.not_lt_zero j), rfl⟩
  case round =>
    obtain ⟨k, hk, rfl, HK, rfl⟩ := hrel
    by_cases hlt : k < L.length
    · have hlt2 : k < M.length := by have := HL.out; omega
      obtain ⟨g1, rfl, e1⟩ := H1.out k hlt
      obtain ⟨g2, rfl, e2⟩ := H2.out k hlt2
      have HN : Hid (L[k] = M[k] → ∀ j (h1 : j < L.length) (h2 : j < M.length), j < k + 1 → L[j] = M[j]) := fun h j h1 h2 hj => by
        rcases Nat.lt_or_ge j k with q | q
        · exact HK.out j h1 h2 q
        · obtain rfl : j = k := by omega
          exact h
      have HF : Hid (L[k] ≠ M[k] → decide (L = M) = false) := fun h => decide_eq_false (fun e => h (by simp [e]))
      generalize L[k] = x at *
      generalize M[k] = y at *
      by_cases hxy : x = y
      · have HN2 := Lib.hid (HN.out hxy)
        subst hxy
        have hne2 : (x != x) = false := by simp
        clear HN HF
        go_wp2_with fail
        go_roundw
        case rel => exact ⟨k + 1, by omega, by go_num, HN2, by first | trivial | rfl⟩
        case measure => simp [intOf]; omega
      · have HR := Lib.hid (HF.out hxy)
        have hne2 : (x != y) = true := by rw [bne_iff_ne]; exact hxy
        clear HN HF hxy
        go_wp2_with fail
        go_ret
        exact ⟨HR.out ▸ rfl, rfl⟩
    · have HR : Hid (decide (L = M) = true) := decide_eq_true (List.ext_getElem HL.out (fun j h1 h2 => HK.out j h1 h2 (by omega)))
      go_wp2_with fail
      go_ret
      exact ⟨HR.out ▸ rfl, rfl⟩
theorem int_news {w : World} {g : Nat} {M : List Int} (h : IntsA w (some ⟨g, 0, none⟩) M) (q m : Nat) : ∀ j z, (ints ((M.drop q).take m))[j]? = some z → w.cell? (Addr.add ⟨g, q, none⟩ j) = some z := fun j z hz => by
  have hj : j < (ints ((M.drop q).take m)).length := (List.getElem?_eq_some_iff.1 hz).1
  rw [ints_len, List.length_take, List.length_drop] at hj
  obtain ⟨g', e, hc⟩ := h (q + j) (by omega)
  cases e
  have e1 : (ints ((M.drop q).take m))[j]? = some (.int .i64 (M[q + j]'(by omega))) := by
    simp [ints, hj, List.getElem?_take, List.getElem?_drop]
  rw [e1] at hz
  cases hz
  have ea : Addr.add ⟨g, q, none⟩ j = ⟨g, q + j, none⟩ := by
    unfold Addr.add
    split
    · subst_vars; rfl
    · simp
  rw [ea]; exact hc
theorem ints_one1 (M : List Int) : ∀ z ∈ ints M, z.oneCell' = true := fun z hz => by
  obtain ⟨x, _, rfl⟩ := List.mem_map.1 hz
  rfl
set_option maxRecDepth 100000 in
set_option maxHeartbeats 4000000 in
theorem namesS_any (w h : Int) (A : Option Addr) (c : Nat) (P : List Int) (W : World) (hA : IntsA W A P) (hS : ∀ p ∈ P, shapeB w h p = true) (hL : P.length ≤ 9) :
    Calls Try.prog 188 #[.int .i64 w, .int .i64 h, .slice A P.length c] W (ListsI W (sortN (P.map (nameV w h)))) := by
  have HN : Hid (∀ p ∈ P, ∀ W, Calls Try.prog 212 #[.int .i64 w, .int .i64 h, .int .i64 p] W fun e w' => e = .returned (.int .i64 (nameV w h p)) ∧ Below W.heap.size W w') := fun p hp W => by
    have hB := hS p hp
    obtain ⟨a, b, m, rfl, rfl, rfl, -, -, -, -, -, -⟩ := mask_nat hB
    rw [name_yes hB]
    exact nameS_any a b m W hB
  obtain ⟨i0, hi0, hz0, hz1, hz2⟩ := info_parts infoI
  have HA := Lib.hid hA
  have own0 := World.ownsRow_lit (base := W.heap.size) (e := 3) (size := 1) W #[] 0 (Nat.le_refl _) (by decide) rfl
  have b0 := below1 W (.cells #[] 3)
  have HU : Hid (∀ (k : Nat) (hk : k < P.length), sortN ((P.take (k + 1)).map (nameV w h)) = insN (nameV w h P[k]) (sortN ((P.take k).map (nameV w h)))) := fun k hk => by
    rw [take_snoc hk, List.map_append, List.map_cons, List.map_nil, sortN_snoc]
  clear hA hS
  go_enter Try.func188, Try.ntmps188
  go_wp2_with fail
  generalize W.alloc (.cells #[] 3) = w1 at *
  go_loopw [7, 9, 10, 11, 12, 16] (fun s _ _ _ _ i wr => ∃ (k g cap : Nat) (l : List Int), k ≤ P.length ∧ i = .int .i64 k ∧ l.length = k ∧ Hid (l = sortN ((P.take k).map (nameV w h))) ∧ s = .slice (some ⟨g, 0, none⟩) l.length cap ∧ wr.ownsRow W.heap.size 3 1 (.slice (some ⟨g, 0, none⟩) l.length cap) l.length (ints l) ∧ Below W.heap.size W wr) (fun _ _ _ _ _ i _ => P.length - (intOf i).toNat)
  case atStart => exact ⟨0, W.heap.size, 0, [], Nat.zero_le _, rfl, rfl, rfl, rfl, own0, b0⟩
  case round =>
    clear own0 b0
    obtain ⟨wo, rfl⟩ : ∃ wo : World, wo = wr := ⟨_, rfl⟩
    obtain ⟨k, g, cap, l, hk, rfl, hlk, HLS, rfl, own, hb⟩ := hrel
    by_cases hlt : k < P.length
    · obtain ⟨gx, rfl, hc⟩ := intsA_on HA.out hb k hlt
      have HC := Lib.hid (HN.out P[k] (List.getElem_mem hlt) wo)
      have hu := HU.out k hlt
      rw [← HLS.out] at hu
      have HIN := Lib.hid hu
      have HAS : Hid (Asc l) := by show Asc _; rw [HLS.out]; exact sortN_asc _
      clear hu HLS
      generalize nameV w h P[k] = x at *
      generalize P[k] = p at *
      go_wp2_with fail
      refine HC.out.mono ?_
      rintro e w2 ⟨rfl, hb2⟩
      have hb3 := below_on hb hb2
      replace own := own_below own hb2
      have hl9 : l.length ≤ 9 := by omega
      have hcap : l.length ≤ cap := by
        rcases own.2 with ⟨h1, -⟩ | ⟨g', cap', cur, hv', -, -, hn, -⟩
        · cases h1
        · simp only [Value.slice.injEq] at hv'; omega
      have HOW := Lib.hid own
      have HB3 := Lib.hid hb3
      clear hb hb2 hb3 own HC hc
      go_upto_block 2 with fail
      go_cut [11] from 26 to 38 (fun s wx => ∃ q : Nat, q ≤ l.length ∧ s = .int .i64 q ∧ Hid (insN x l = l.take q ++ x :: l.drop q) ∧ wx = w2)
      case first =>
        have HOC : Hid (∀ (t : Nat) (ht : t < l.length), w2.cell? ⟨g, t, none⟩ = some (.int .i64 l[t])) := fun t ht => by
          rw [HOW.out.cellAt t (by omega)]
          simp [ints, ht]
        go_wp2_with fail
        go_loopw [11] (fun s wr => ∃ q : Nat, q ≤ l.length ∧ s = .int .i64 q ∧ Hid (∀ j, q ≤ j → j < l.length → x < l.getD j 0) ∧ wr = w2) (fun s _ => (intOf s).toNat)
        case atStart => exact ⟨l.length, Nat.le_refl _, by first | rfl | rw [hlk], fun j h1 h2 => by omega, rfl⟩
        case round =>
          obtain ⟨q, hq, rfl, HG, rfl⟩ := hrel
          by_cases hq0 : q = 0
          · have HI : Hid (insN x l = l.take q ++ x :: l.drop q) := insN_take HAS.out hq HG.out (.inl hq0)
            have hq0' : ¬ (0 : Int) < (q : Int) := by omega
            clear hq0
            go_wp2_with fail
            go_meet
            exact ⟨q, hq, rfl, HI, rfl⟩
          · obtain ⟨t, ht⟩ : ∃ t : Nat, q = t + 1 := ⟨q - 1, by omega⟩
            have htl : t < l.length := by omega
            have hc1 := HOC.out t htl
            have hq1 : (q : Int) - 1 = (t : Int) := by omega
            have hq2 : (0 : Int) < (q : Int) := by omega
            have HY : Hid (l.getD t 0 = l[t]) := by show _ = _; simp [htl]
            have HI2 : Hid (l[t] ≤ x → insN x l = l.take q ++ x :: l.drop q) := fun h => insN_take HAS.out hq HG.out (.inr (by rw [show q - 1 = t by omega, HY.out]; exact h))
            have HG2 : Hid (x < l[t] → ∀ j, t ≤ j → j < l.length → x < l.getD j 0) := fun h j h1 h2 => by
              rcases Nat.lt_or_ge t j with h3 | h3
              · exact HG.out j (by omega) h2
              · obtain rfl : j = t := by omega
                rw [HY.out]; exact h
            clear HY HG ht
            generalize l[t] = y at *
            by_cases hxy : x < y
            · have HG3 := Lib.hid (HG2.out hxy)
              clear HG2 HI2 hq0
              go_wp2_with fail
              go_roundw
              case rel => exact ⟨t, by omega, by first | rfl | (rw [hq1]), HG3, by first | trivial | rfl⟩
              case measure => simp [intOf]; omega
            · have HI := Lib.hid (HI2.out (by omega))
              clear HG2 HI2 hq0
              go_wp2_with fail
              go_meet
              exact ⟨q, hq, rfl, HI, rfl⟩
      case rest =>
        obtain ⟨q, hq, rfl, HI, rfl⟩ := hcut
        have hgl := (HOW.out.lt g rfl).2
        have hsz := HB3.out.size
        have hqc : q ≤ cap := by omega
        have hqk : q ≤ k := by omega
        have hkc : k ≤ cap := by omega
        have own0 := World.ownsRow_lit (base := W.heap.size) (e := 3) (size := 1) wc #[] 0 hsz (by decide) rfl
        have b0 := below_on HB3.out (below1 wc (.cells #[] 3))
        have p0 := intsA_of (own_below HOW.out (below1 wc (.cells #[] 3)))
        have HN1 : Hid (∀ j z, (ints (l.take q))[j]? = some z → (wc.alloc (.cells #[] 3)).cell? (Addr.add ⟨g, 0, none⟩ j) = some z) := by
          have := int_news p0 0 q
          rw [List.drop_zero] at this
          exact this
        have HL1 : Hid ((ints (l.take q)).length = q * 1) := by show _ = _; rw [ints_len, List.length_take]; omega
        clear p0
        go_wp2_with (at_builtin; refine wpList_append_own_at _ rfl _ _ 43 rfl W.heap.size 3 i0 (.int .i64 0) 1 8 Try.underlying43 hi0 hz0 hz1 hz2 rfl (by decide) _ _ _ rfl own0 ⟨g, 0, none⟩ q cap (ints (l.take q)) rfl HL1.out HN1.out (ints_one1 _) ?a3 ?a4 ?a5 ?_)
        case a3 => unfold maxLen; omega
        case a4 => omega
        case a5 => first | omega | (simp; omega)
        intro v6 w6 own6 hg6 _ hat6
        try simp only [Nat.zero_add, List.nil_append] at own6
        have hv6 : ∃ g6, v6.ownBlock = some g6 ∧ wc.heap.size ≤ g6 := by
          rcases hat6 with e | e
          · exact ⟨_, e, Nat.le_refl _⟩
          · exact ⟨_, e, by first | omega | simp⟩
        obtain ⟨g6, hgo6', hge6⟩ := hv6
        have HGO6 := Lib.hid hgo6'
        clear hgo6'
        have B6 : Below W.heap.size W w6 := b0.grown hg6 (by first | omega | (simp; omega)) (fun k hk => (own0.lt k hk).1)
        have O6 := ((HOW.out.alloc (.cells #[] 3)).kept hg6 (.inr (by simp [Value.ownBlock]; omega)))
        have hs6 : wc.heap.size ≤ w6.heap.size := by have := hg6.size; simp at this; omega
        have HO6 := Lib.hid O6
        have HB6 := Lib.hid B6
        have hsz6 := B6.size
        clear own0 b0 hg6 hat6 HN1 HL1 O6 B6
        go_wp2_with (at_builtin; refine wpList_append_own_at _ rfl _ _ 43 rfl W.heap.size 3 i0 (.int .i64 0) 1 8 Try.underlying43 hi0 hz0 hz1 hz2 rfl (by decide) _ _ _ rfl (own6.alloc _) ⟨w6.heap.size, 0, none⟩ 1 1 [.int .i64 x] rfl rfl ?c1 ?c2 ?c3 ?c4 ?c5 ?_)
        case c1 => exact World.news_of_block (cs := #[.int .i64 x]) (t := 3) (fr := (0, 0)) (heap_alloc_new w6 _)
        case c2 => simp [Value.oneCell']
        case c3 => unfold maxLen; omega
        case c4 => omega
        case c5 => simp; omega
        intro v7 w7 own7 hg7 _ hat7
        have hv7 : ∃ g7, v7.ownBlock = some g7 ∧ wc.heap.size ≤ g7 := by
          rcases hat7 with e | e
          · exact ⟨g6, e.trans HGO6.out, hge6⟩
          · exact ⟨_, e, by first | omega | (simp; omega)⟩
        obtain ⟨g7, hgo7', hge7⟩ := hv7
        have HGO7 := Lib.hid hgo7'
        clear hgo7'
        have B7 : Below W.heap.size W w7 := (HB6.out.alloc hsz6 _).grown hg7 (by first | omega | (simp; omega)) (fun k hk => (own6.lt k hk).1)
        have O7 := ((HO6.out.alloc (.cells #[.int .i64 x] 3)).kept hg7 (.inr (by rw [HGO6.out]; simp [Value.ownBlock]; omega)))
        have HO7 := Lib.hid O7
        have HB7 := Lib.hid B7
        have hsz7 := B7.size
        have hlk' : l.length - q = k - q := by omega
        obtain ⟨ad, HAD⟩ : ∃ ad : Addr, Hid (ad = if q = cap then ⟨g, 0, none⟩ else ⟨g, q, none⟩) := ⟨_, rfl⟩
        have HN2 : Hid (∀ j z, (ints (l.drop q))[j]? = some z → w7.cell? (ad.add j) = some z) := by
          intro j z h
          by_cases huc : q = cap
          · have e : l.drop q = [] := List.drop_eq_nil_of_le (by omega)
            rw [e] at h
            simp [ints] at h
          · rw [HAD.out, if_neg huc]
            have := int_news (intsA_of HO7.out) q (l.length - q) j z
            rw [List.take_of_length_le (by rw [List.length_drop]; exact Nat.le_refl _)] at this
            exact this h
        have HL2 : Hid ((ints (l.drop q)).length = (k - q) * 1) := by show _ = _; rw [ints_len, List.length_drop]; omega
        clear own6 hg7 hat7 O7 B7 HO6 HB6 HGO6
        have HFIN : Hid (∀ v9 w9, w9.ownsRow W.heap.size 3 1 v9 (q + 1 + (k - q)) (ints (l.take q) ++ [.int .i64 x] ++ ints (l.drop q)) → w7.grownBy w9 v7.ownBlock → ∃ (g9 c9 : Nat) (l9 : List Int), v9 = .slice (some ⟨g9, 0, none⟩) l9.length c9 ∧ l9.length = k + 1 ∧ l9 = sortN ((P.take (k + 1)).map (nameV w h)) ∧ w9.ownsRow W.heap.size 3 1 (.slice (some ⟨g9, 0, none⟩) l9.length c9) l9.length (ints l9) ∧ Below W.heap.size W w9) := fun v9 w9 o9 hg9 => by
          have e1 : ints (l.take q) ++ [.int .i64 x] ++ ints (l.drop q) = ints (insN x l) := by
            rw [HI.out]; simp [ints]
          have e2 : (insN x l).length = q + 1 + (k - q) := by rw [HI.out, List.length_append, List.length_cons, List.length_take, List.length_drop]; omega
          rw [e1, ← e2] at o9
          have hb9 := HB7.out.grown hg9 HB7.out.size (fun b hb => by rw [HGO7.out] at hb; cases hb; omega)
          obtain ⟨_, A9, c9, rfl, _⟩ := own_ints o9
          rcases o9.2 with ⟨h1, _⟩ | ⟨g9, cap9, cur, hv, _⟩
          · simp only [Value.slice.injEq] at h1
            omega
          · simp only [Value.slice.injEq] at hv
            obtain ⟨rfl, -, rfl⟩ := hv
            exact ⟨g9, c9, insN x l, rfl, by omega, HIN.out.symm, o9, hb9⟩
        by_cases huc : q = cap
        · have hkq : k = q := by omega
          subst huc
          subst hkq
          have HFIN2 : Hid (∀ v9 w9, w9.ownsRow W.heap.size 3 1 v9 (k + 1 + 0) (ints (l.take k) ++ [.int .i64 x] ++ []) → w7.grownBy w9 v7.ownBlock → ∃ (g9 c9 : Nat) (l9 : List Int), v9 = .slice (some ⟨g9, 0, none⟩) l9.length c9 ∧ l9.length = k + 1 ∧ l9 = sortN ((P.take (k + 1)).map (nameV w h)) ∧ w9.ownsRow W.heap.size 3 1 (.slice (some ⟨g9, 0, none⟩) l9.length c9) l9.length (ints l9) ∧ Below W.heap.size W w9) := fun v9 w9 o9 hg9 => HFIN.out v9 w9 (by
            have e : l.drop k = [] := List.drop_eq_nil_of_le (by omega)
            rw [Nat.sub_self, e]; exact o9) hg9
          clear HFIN HN2 HL2 HAD
          go_wp2_with (at_builtin; refine wpList_append_own_at _ rfl _ _ 43 rfl W.heap.size 3 i0 (.int .i64 0) 1 8 Try.underlying43 hi0 hz0 hz1 hz2 rfl (by decide) _ _ _ rfl own7 ⟨g, 0, none⟩ 0 0 [] rfl rfl (fun j z h => by simp at h) (fun z h => by cases h) ?e3 ?e4 ?e5 ?_)
          case e3 => unfold maxLen; omega
          case e4 => omega
          case e5 => omega
          intro v9 w9 own9 hg9 _ hat9
          obtain ⟨g9, c9, l9, rfl, q1, q2, q3⟩ := HFIN2.out v9 w9 (by simpa using own9) hg9
          have R := Lib.hid (And.intro q2 q3)
          clear own9 hg9 hat9 q2 q3 own7
          go_wp2_with fail
          go_roundw
          case rel => exact ⟨k + 1, g9, c9, l9, by omega, by go_num, q1, R.out.1, rfl, R.out.2⟩
          case measure => simp [intOf]; omega
        · have hd : ad = ⟨g, q, none⟩ := by rw [HAD.out, if_neg huc]
          subst hd
          clear HAD
          go_wp2_with (at_builtin; refine wpList_append_own_at _ rfl _ _ 43 rfl W.heap.size 3 i0 (.int .i64 0) 1 8 Try.underlying43 hi0 hz0 hz1 hz2 rfl (by decide) _ _ _ rfl own7 ⟨g, q, none⟩ (k - q) (cap - q) (ints (l.drop q)) rfl HL2.out HN2.out (ints_one1 _) ?f3 ?f4 ?f5 ?_)
          case f3 => unfold maxLen; omega
          case f4 => omega
          case f5 => omega
          intro v9 w9 own9 hg9 _ hat9
          obtain ⟨g9, c9, l9, rfl, q1, q2, q3⟩ := HFIN.out v9 w9 (by simpa using own9) hg9
          have R := Lib.hid (And.intro q2 q3)
          clear own9 hg9 hat9 q2 q3 own7 HFIN HN2 HL2
          go_wp2_with fail
          go_roundw
          case rel => exact ⟨k + 1, g9, c9, l9, by omega, by go_num, q1, R.out.1, rfl, R.out.2⟩
          case measure => simp [intOf]; omega
    · obtain rfl : k = P.length := by omega
      rw [List.take_length] at HLS
      have R : Hid (ListsI W (sortN (P.map (nameV w h))) (.returned (.slice (some ⟨g, 0, none⟩) l.length cap)) wo) := by
        rw [← HLS.out]
        exact ⟨_, rfl, own, hb⟩
      clear own hb HLS
      go_wp2_with fail
      go_ret
      exact R.out
end Go.Proofs.Ytncahchhinfneaa

/-! FndS10 -/
namespace Go.Proofs.Ytncahchhinfneaa
open Go.RowKit

theorem cut_pieces {w h M : Int} {c : List Int} (hc : CutP w h M c) : (∀ p ∈ pieV w h M c, shapeB w h p = true) ∧ (pieV w h M c).length ≤ 9 ∧ ∃ n, (pieV w h M c).length = n + 1 := by
  obtain ⟨P, hP, lP, -, hS⟩ := pie_nat hc
  refine ⟨fun p hp => ?_, by rw [hP, castL_len]; exact lP, ?_⟩
  · rw [hP] at hp
    unfold castL at hp
    obtain ⟨x, hx, rfl⟩ := List.mem_map.1 hp
    exact hS x hx
  · obtain ⟨a, b, m, n, C, k⟩ := cutAt_of hc
    rw [k.pie, castL_len, uniF_len _ _ [] k.len k.num]
    have hok := hc.1
    obtain ⟨a', b', m', n', e1, e2, e3, _, _, _, _, _, _, _, hix, _, h1, _, _⟩ := okC_nat hok
    have hl : 1 ≤ C.length := by
      have := hc.2.1
      rw [hix, k.ec, castL_len] at this
      omega
    have hn := k.num
    cases C with
    | nil => simp at hl
    | cons x C =>
      rw [numF, Bool.and_eq_true, decide_eq_true_eq] at hn
      have := bgF_ge C (max 0 (x + 1))
      refine ⟨bgF 0 (x :: C) - 1, ?_⟩
      have e : bgF ([] : List Nat).length (x :: C) = bgF (max 0 (x + 1)) C := rfl
      have e' : bgF 0 (x :: C) = bgF (max 0 (x + 1)) C := rfl
      rw [e, e']
      omega
def DisQ (P : List Int × List Int × Bool → Prop) (W : World) (e : Ending) (w' : World) : Prop := ∃ V v1 v2, e = .returned (.tuple #[v1, v2, .bool V.2.2]) ∧ P V ∧ w'.ownsRow W.heap.size 3 1 v1 V.1.length (ints V.1) ∧ w'.ownsRow W.heap.size 3 1 v2 V.2.1.length (ints V.2.1) ∧ (v1.ownBlock = none ∨ v1.ownBlock ≠ v2.ownBlock) ∧ Below W.heap.size W w'
theorem DisQ.on {P : List Int × List Int × Bool → Prop} {W w w' : World} {e : Ending} (h : DisQ P W e w) (hb : Below w.heap.size w w') : DisQ P W e w' := by
  obtain ⟨V, v1, v2, q1, q2, q3, q4, q5, q6⟩ := h
  exact ⟨V, v1, v2, q1, q2, own_below q3 hb, own_below q4 hb, q5, below_on q6 hb⟩
/-- The names of a cut's pieces, in order. -/
def sortV (w h M : Int) (c : List Int) : List Int := sortN (namesV w h M c)
theorem sort_names {w h M : Int} {c : List Int} (hc : CutP w h M c) : (∃ n, (sortV w h M c).length = n + 1) ∧ (sortV w h M c).length ≤ 9 ∧ ∀ A cp W, IntsA W A (pieV w h M c) → Calls Try.prog 188 #[.int .i64 w, .int .i64 h, .slice A (pieV w h M c).length cp] W (ListsI W (sortV w h M c)) := by
  obtain ⟨h1, h2, n, h3⟩ := cut_pieces hc
  have hl : (sortV w h M c).length = (pieV w h M c).length := by unfold sortV namesV; rw [sortN_len, List.length_map]
  exact ⟨⟨n, by rw [hl, h3]⟩, by rw [hl]; exact h2, fun A cp W hA => namesS_any w h A cp (pieV w h M c) W hA h1 h2⟩
theorem hit_sort (w h a b : Int) (x y : List Int) : hitD w h a b x y = decide (sortV w h a x = sortV w h b y) := rfl
set_option maxRecDepth 100000 in
set_option maxHeartbeats 8000000 in
theorem findS_any (w h a b : Int) (K : Nat) (wa wb : List Int → Bool) (HA : IsWh w h a wa) (HB : IsWh w h b wb) (oa : okC w h a = true) (ob : okC w h b = true) (hK : K ≤ 9) (W : World) :
    Calls Try.prog 131 #[.int .i64 w, .int .i64 h, .int .i64 a, .int .i64 b, .int .i64 K] W (DisQ (fun V => V = resD (findD (hitD w h a b) (listsC w h a K wa) (listsC w h b K wb))) W) := by
  obtain ⟨i0, hi0, hz0, hz1, hz2⟩ := info_parts infoR9
  have SA := Lib.hid (fun W => specAll_any w h a K wa HA oa hK W)
  have SB := Lib.hid (fun W => specAll_any w h b K wb HB ob hK W)
  have CA := Lib.hid (listsC_cut HA (K := (K : Int)))
  have CB := Lib.hid (listsC_cut HB (K := (K : Int)))
  have LEA : Hid ((listsC w h a K wa).length ≤ 362880) := listsC_le
  have LEB : Hid ((listsC w h b K wb).length ≤ 362880) := listsC_le
  obtain ⟨LA, hLA⟩ : ∃ LA, LA = listsC w h a K wa := ⟨_, rfl⟩
  obtain ⟨LB, hLB⟩ : ∃ LB, LB = listsC w h b K wb := ⟨_, rfl⟩
  rw [← hLA] at SA CA LEA
  rw [← hLB] at SB CB LEB
  rw [← hLA, ← hLB]
  have HFN : Hid ((∀ x ∈ LA, ∀ y ∈ LB, hitD w h a b x y = false) → findD (hitD w h a b) LA LB = none) := findD_none
  have HFA : Hid (∀ i j (hi : i < LA.length) (hj : j < LB.length), (∀ k (hk : k < LA.length), k < i → ∀ y ∈ LB, hitD w h a b LA[k] y = false) → (∀ k (hk : k < LB.length), k < j → hitD w h a b LA[i] LB[k] = false) → hitD w h a b LA[i] LB[j] = true → findD (hitD w h a b) LA LB = some (LA[i], LB[j])) := fun i j hi hj => findD_at hi hj
  generalize findD (hitD w h a b) LA LB = FD at *
  clear HA HB oa ob hLA hLB
  go_enter Try.func131, Try.ntmps131
  go_wp2_with fail
  refine (SB.out _).mono ?_
  rintro e w1 ⟨vB, RsB, rfl, hRB, hMB, hb1⟩
  obtain ⟨AB, cB, rfl, -⟩ := hRB.form
  have HRB := Lib.hid hRB
  have HMB := Lib.hid hMB
  have HB1 := Lib.hid hb1
  have hlB : RsB.length ≤ 362880 := by
    have := LEB.out
    rw [← hMB, List.length_map] at this; exact this
  have own0 := World.ownsRow_lit (base := w1.heap.size) (e := 43) (size := 1) w1 #[] 0 (Nat.le_refl _) (by decide) rfl
  have HN0 : Hid (RowsR (w1.alloc (.cells #[] 43)) w1.heap.size (.slice (some ⟨w1.heap.size, 0, none⟩) 0 0) []) := ⟨own0, fun r h => (by cases h), fun r h => (by cases h), by simp⟩
  have HB0 : Hid (Below w1.heap.size w1 (w1.alloc (.cells #[] 43))) := below1 w1 _
  clear hRB hMB hb1 own0 SB LEB
  go_wp2_with fail
  generalize w1.alloc (.cells #[] 43) = w2 at *
  go_loopw [14, 16, 30] (fun vn _ i wr => ∃ (k : Nat) (Ns : List Rw), k ≤ RsB.length ∧ i = .int .i64 k ∧ Ns.length = k ∧ Hid (Ns.map Rw.M = (RsB.take k).map (fun r => sortV w h b r.M)) ∧ Hid (RowsR wr w1.heap.size vn Ns) ∧ Hid (Below w1.heap.size w1 wr)) (fun _ _ i _ => RsB.length - (intOf i).toNat)
  case atStart => exact ⟨0, [], Nat.zero_le _, rfl, rfl, rfl, HN0, HB0⟩
  case round =>
    clear HN0 HB0
    obtain ⟨wo, rfl⟩ : ∃ wo : World, wo = wr := ⟨_, rfl⟩
    obtain ⟨k, Ns, hk, rfl, hNk, HNM, HNR, HBW⟩ := hrel
    by_cases hlt : k < RsB.length
    · have hRB2 := HRB.out.below HBW.out
      obtain ⟨A', c', hv, hat⟩ := hRB2.form
      cases hv
      obtain ⟨gA, rfl, hc1⟩ := hat k hlt
      have hrow := hRB2.row _ (List.getElem_mem hlt)
      have hmem : (RsB[k]).M ∈ LB := by rw [← HMB.out]; exact List.mem_map.2 ⟨_, List.getElem_mem hlt, rfl⟩
      have hcut := CB.out _ hmem
      obtain ⟨lp, hp⟩ := spec_l09 hcut
      obtain ⟨⟨sn, hsn⟩, sl, hs⟩ := sort_names hcut
      have HTK : Hid ((RsB.take (k + 1)).map (fun r => sortV w h b r.M) = (RsB.take k).map (fun r => sortV w h b r.M) ++ [sortV w h b (RsB[k]).M]) := by
        show _ = _
        rw [take_snoc hlt, List.map_append]; rfl
      generalize RsB[k] = r at *
      have hh : hdr r = .slice (some ⟨r.g, 0, none⟩) r.M.length r.cap := rfl
      rw [hh] at hc1 hrow
      have HP1 := Lib.hid (hp wo _ r.cap (intsA_of hrow))
      have HS1 := Lib.hid hs
      have HSN := Lib.hid hsn
      clear hrow hmem hcut hp hs hsn hh hat hRB2
      generalize pieV w h b r.M = PV at *
      generalize sortV w h b r.M = SV at *
      go_wp2_with fail
      refine HP1.out.mono ?_
      rintro e w3 ⟨v3, rfl, own3, hb3⟩
      obtain ⟨_, A3, c3, rfl, p3⟩ := own_ints own3
      have HS2 := Lib.hid (HS1.out A3 c3 w3 p3)
      have HB3 := Lib.hid hb3
      clear own3 hb3 HP1 hc1 p3
      go_wp2_with fail
      refine HS2.out.mono ?_
      rintro e w4 ⟨v4, rfl, own4, hb4⟩
      rw [HSN.out] at own4
      obtain ⟨q, hv4, hqM, hqg, hqr⟩ := row_of own4
      have hb34 := below_on HB3.out hb4
      have HB4 := Lib.hid hb34
      have HBW4 := Lib.hid (below_on HBW.out hb34)
      have HNR4 := Lib.hid (HNR.out.below hb34)
      have hs4 : wo.heap.size ≤ w3.heap.size := HB3.out.size
      have hs5 : w1.heap.size ≤ w4.heap.size := HBW4.out.size
      have HQR := Lib.hid hqr
      have HQM := Lib.hid hqM
      have hv5 : v4 = .slice (some ⟨q.g, 0, none⟩) q.M.length q.cap := hv4
      subst hv5
      have own8 := HNR4.out.out.alloc (.cells #[.slice (some ⟨q.g, 0, none⟩) q.M.length q.cap] 43)
      clear hv4 own4 hb4 hb34 hqr hqM HS2 HS1
      have hNl : Ns.length ≤ 362880 := by omega
      go_wp2_with (at_builtin; refine wpList_append_own_at _ rfl _ _ 148 rfl w1.heap.size 43 i0 (.slice none 0 0) 1 24 Try.underlying148 hi0 hz0 hz1 hz2 rfl (by decide) _ _ _ rfl own8 ⟨w4.heap.size, 0, none⟩ 1 1 [.slice (some ⟨q.g, 0, none⟩) q.M.length q.cap] rfl rfl ?d1 ?d2 ?d3 ?d4 ?d5 ?_)
      case d1 => exact World.news_of_block (cs := #[.slice (some ⟨q.g, 0, none⟩) q.M.length q.cap]) (t := 43) (fr := (0, 0)) (heap_alloc_new w4 _)
      case d2 => simp [Value.oneCell']
      case d3 => unfold maxLen; omega
      case d4 => omega
      case d5 => first | omega | (simp; omega)
      intro v8 w8 o8 hg8 _ hat8
      have hrw := fun k hk => (HNR4.out.out.lt k hk).1
      have HN8 : Hid (RowsR w8 w1.heap.size v8 (Ns ++ [q])) := HNR.out.snoc9 (below_grown9 HB4.out) (own_base HQR.out (Nat.le_trans HBW.out.size hs4)) (Nat.le_trans hs4 hqg) (World.grownBy_alloc w4 _ none) (by rw [hNk]; exact o8) hg8 (by simpa using hat8)
      have HM8 : Hid ((Ns ++ [q]).map Rw.M = (RsB.take (k + 1)).map (fun r => sortV w h b r.M)) := by
        show _ = _
        rw [HTK.out, List.map_append, HNM.out, ← HQM.out]; rfl
      have HB8 : Hid (Below w1.heap.size w1 w8) := (HBW4.out.alloc hs5 _).grown hg8 (by first | omega | (simp; omega)) hrw
      have hln : (Ns ++ [q]).length = k + 1 := by simp [hNk]
      clear o8 hg8 hat8 hrw own8 HNR HNM HTK HQR HQM HNR4 HBW4 HB4 HB3
      go_wp2_with fail
      go_roundw
      case rel => exact ⟨k + 1, _, by omega, by go_num, hln, HM8, HN8, HB8⟩
      case measure => simp [intOf]; omega
    · obtain rfl : k = RsB.length := by omega
      rw [List.take_length] at HNM
      obtain ⟨AN, cN, rfl, -⟩ := HNR.out.form
      have HRB2 := Lib.hid (HRB.out.below HBW.out)
      have HBB := Lib.hid (below_on HB1.out HBW.out)
      rw [hNk]
      clear HRB
      go_wp2_with fail
      refine (SA.out _).mono ?_
      rintro e w3 ⟨vA, RsA, rfl, hRA, hMA, hb3⟩
      obtain ⟨AA, cA, rfl, -⟩ := hRA.form
      have HRA := Lib.hid hRA
      have HMA := Lib.hid hMA
      have HB3 := Lib.hid (below_on HBB.out hb3)
      have HRB3 := Lib.hid (HRB2.out.below hb3)
      have HNR3 := Lib.hid (HNR.out.below hb3)
      have hlA : RsA.length ≤ 362880 := by
        have := LEA.out
        rw [← hMA, List.length_map] at this; exact this
      have HAP : Hid (∀ r ∈ RsA, ∀ s ∈ RsB, r.g ≠ s.g) := fun r hr s hs e => by
        have h1 := (hRA.lt hr).1
        have h2 := (HRB2.out.lt hs).2
        omega
      have hsW : W.heap.size ≤ wo.heap.size := HBB.out.size
      have HRAB : Hid (RowsR w3 W.heap.size (.slice AA RsA.length cA) RsA) := hRA.base hsW
      clear hRA hMA hb3 SA LEA HRB2 HNR HBW HBB HRA
      go_wp2_with fail
      go_loopw [18, 19, 20, 21, 51] (fun _ _ _ _ i wr => ∃ t : Nat, t ≤ RsA.length ∧ i = .int .i64 t ∧ Hid (∀ k (hk : k < LA.length), k < t → ∀ y ∈ LB, hitD w h a b LA[k] y = false) ∧ Hid (Below w3.heap.size w3 wr)) (fun _ _ _ _ i _ => RsA.length - (intOf i).toNat)
      case atStart => exact ⟨0, Nat.zero_le _, rfl, fun k _ h => absurd h (Nat.not_lt_zero k), Below.refl _ _⟩
      case round =>
        obtain ⟨wi, rfl⟩ : ∃ wi : World, wi = wr := ⟨_, rfl⟩
        obtain ⟨t, ht, rfl, HT, HBI⟩ := hrel
        have hLAl : LA.length = RsA.length := by rw [← HMA.out, List.length_map]
        have HLAL := Lib.hid hLAl
        by_cases htl : t < RsA.length
        · have hRA2 := HRAB.out.below HBI.out
          obtain ⟨A', c', hv, hat⟩ := hRA2.form
          cases hv
          obtain ⟨gA, rfl, hc1⟩ := hat t htl
          have hrow := hRA2.row _ (List.getElem_mem htl)
          have hLAt : LA[t]'(by omega) = (RsA[t]).M := by simp only [← HMA.out, List.getElem_map]
          have hmem : (RsA[t]).M ∈ LA := by rw [← hLAt]; exact List.getElem_mem _
          have hcut := CA.out _ hmem
          obtain ⟨lp, hp⟩ := spec_l09 hcut
          obtain ⟨⟨sn, hsn⟩, sl, hs⟩ := sort_names hcut
          have HT2 : Hid ((∀ y ∈ LB, hitD w h a b (RsA[t]).M y = false) → ∀ k (hk : k < LA.length), k < t + 1 → ∀ y ∈ LB, hitD w h a b LA[k] y = false) := fun hq k hk hkt => by
            rcases Nat.lt_or_ge k t with q | q
            · exact HT.out k hk q
            · obtain rfl : k = t := by omega
              rw [hLAt]; exact hq
          have HF2 : Hid (∀ j (hj : j < LB.length), (∀ k (hk : k < LB.length), k < j → hitD w h a b (RsA[t]).M LB[k] = false) → hitD w h a b (RsA[t]).M LB[j] = true → FD = some ((RsA[t]).M, LB[j])) := fun j hj h1 h2 => by
            have := HFA.out t j (by omega) hj HT.out (by rw [hLAt]; exact h1) (by rw [hLAt]; exact h2)
            rw [hLAt] at this
            exact this
          have HRM : Hid (RsA[t] ∈ RsA) := List.getElem_mem htl
          have HHS : Hid (∀ y, hitD w h a b (RsA[t]).M y = decide (sortV w h a (RsA[t]).M = sortV w h b y)) := fun y => hit_sort w h a b _ y
          generalize RsA[t] = r at *
          have hh : hdr r = .slice (some ⟨r.g, 0, none⟩) r.M.length r.cap := rfl
          rw [hh] at hc1 hrow
          have HP1 := Lib.hid (hp wi _ r.cap (intsA_of hrow))
          have HS1 := Lib.hid hs
          have HRW := Lib.hid hrow
          clear hrow hmem hcut hp hs hsn hh hat hRA2 hLAt hLAl
          generalize pieV w h a r.M = PV at *
          generalize sortV w h a r.M = SV at *
          go_wp2_with fail
          refine HP1.out.mono ?_
          rintro e w4 ⟨v4, rfl, own4, hb4⟩
          obtain ⟨_, A4, c4, rfl, p4⟩ := own_ints own4
          have HS2 := Lib.hid (HS1.out A4 c4 w4 p4)
          have HB4 := Lib.hid (below_on HBI.out hb4)
          have HRW4 := Lib.hid (own_below HRW.out hb4)
          clear own4 hb4 HP1 hc1 p4 HRW
          go_wp2_with fail
          refine HS2.out.mono ?_
          rintro e w5 ⟨v5, rfl, own5, hb5⟩
          obtain ⟨_, A5, c5, rfl, p5⟩ := own_ints own5
          have HB5 := Lib.hid (below_on HB4.out hb5)
          have HRW5 := Lib.hid (own_below HRW4.out hb5)
          have HSP := Lib.hid p5
          clear own5 hb5 HS2 p5 HB4 HRW4 HS1
          have HNR5 := Lib.hid (HNR3.out.below HB5.out)
          have HRB5 := Lib.hid (HRB3.out.below HB5.out)
          go_wp2_with fail
          go_loopw [20, 21, 64] (fun _ _ i wr => ∃ j : Nat, j ≤ RsB.length ∧ i = .int .i64 j ∧ Hid (∀ k (hk : k < LB.length), k < j → hitD w h a b r.M LB[k] = false) ∧ wr = w5) (fun _ _ i _ => RsB.length - (intOf i).toNat)
          case atStart => exact ⟨0, Nat.zero_le _, rfl, fun k _ h => absurd h (Nat.not_lt_zero k), rfl⟩
          case round =>
            obtain ⟨j, hj, rfl, HJ, rfl⟩ := hrel
            have hLBl : LB.length = RsB.length := by rw [← HMB.out, List.length_map]
            by_cases hjl : j < RsB.length
            · obtain ⟨A', c', hv, hat⟩ := HNR5.out.form
              cases hv
              have hjn : j < Ns.length := by omega
              obtain ⟨gN, rfl, hc1⟩ := hat j hjn
              have hrow := HNR5.out.row _ (List.getElem_mem hjn)
              have hNM : (Ns[j]).M = sortV w h b (RsB[j]).M := by
                have := congrArg (fun l => l[j]?) HNM.out
                simpa [hjn, hjl] using this
              have hLBj : LB[j]'(by omega) = (RsB[j]).M := by simp only [← HMB.out, List.getElem_map]
              have hHJ := HHS.out (LB[j]'(by omega))
              rw [hLBj, ← hNM] at hHJ
              have HHJ := Lib.hid hHJ
              have HJ2 : Hid (hitD w h a b r.M (RsB[j]).M = false → ∀ k (hk : k < LB.length), k < j + 1 → hitD w h a b r.M LB[k] = false) := fun hq k hk hkt => by
                rcases Nat.lt_or_ge k j with q | q
                · exact HJ.out k hk q
                · obtain rfl : k = j := by omega
                  rw [hLBj]; exact hq
              have HFD : Hid (hitD w h a b r.M (RsB[j]).M = true → FD = some (r.M, (RsB[j]).M)) := fun hq => by
                have := HF2.out j (by omega) HJ.out (by rw [hLBj]; exact hq)
                rw [hLBj] at this
                exact this
              have hlnm : (Ns[j]).M.length ≤ 1048576 := by
                rw [hNM]
                have := (sort_names (CB.out _ (show (RsB[j]).M ∈ LB by rw [← hLBj]; exact List.getElem_mem _))).2.1
                omega
              generalize Ns[j] = s at *
              have hhs : hdr s = .slice (some ⟨s.g, 0, none⟩) s.M.length s.cap := rfl
              rw [hhs] at hc1 hrow
              have HEQ := Lib.hid (equalS_any A5 _ c5 s.cap SV s.M wr HSP.out (intsA_of hrow) (by omega) hlnm)
              clear hrow hat hNM hHJ hhs hlnm
              by_cases heq : SV = s.M
              · have HQ := Lib.hid (HFD.out (by rw [HHJ.out]; exact decide_eq_true heq))
                have hd : decide (SV = s.M) = true := decide_eq_true heq
                rw [hd] at HEQ
                obtain ⟨A', c', hv2, hat2⟩ := HRB5.out.form
                cases hv2
                obtain ⟨gB, rfl, hcB⟩ := hat2 j hjl
                have hrB := HRB5.out.row _ (List.getElem_mem hjl)
                have hap := HAP.out _ HRM.out _ (List.getElem_mem hjl)
                generalize RsB[j] = y at *
                have RR : Hid (DisQ (fun V => V = resD FD) W (.returned (.tuple #[hdr r, hdr y, .bool true])) wr) := ⟨(r.M, y.M, true), hdr r, hdr y, rfl, by rw [HQ.out]; rfl, HRW5.out, hrB, .inr (fun e => hap (by simpa [hdr, Value.ownBlock] using e)), below_on HB3.out HB5.out⟩
                have hhy : hdr y = .slice (some ⟨y.g, 0, none⟩) y.M.length y.cap := rfl
                have hhr : hdr r = .slice (some ⟨r.g, 0, none⟩) r.M.length r.cap := rfl
                rw [hhy] at hcB
                rw [hhy, hhr] at RR
                clear hat2 hrB hap hd heq HQ HFD HJ2 HHJ hhy hhr
                go_wp2_with fail
                refine HEQ.out.mono ?_
                rintro e w6 ⟨rfl, rfl⟩
                have k1 := cell_regrown hcB
                go_wp2_with fail
                refine wp_region_quiet_below (by kernel_rfl) (by kernel_rfl) ?_
                repeat (first
                  | go_big_quiet_step (fail)
                  | quiet_step (fail))
                refine wpQuiet_nil ?_
                rintro _ ⟨⟨dq, osq⟩, rfl⟩
                have RR2 := Lib.hid (RR.out.on (below_regrown w6 dq osq))
                clear k1 hcB
                go_wp2_with fail
                go_ret3
                exact RR2.out
              · have HJ3 := Lib.hid (HJ2.out (by rw [HHJ.out]; exact decide_eq_false heq))
                have hd : decide (SV = s.M) = false := decide_eq_false heq
                rw [hd] at HEQ
                clear hd heq HFD HJ2 HHJ
                go_wp2_with fail
                refine HEQ.out.mono ?_
                rintro e w6 ⟨rfl, rfl⟩
                go_wp2_with fail
                go_roundw
                case rel => exact ⟨j + 1, by omega, by go_num, HJ3, by first | trivial | rfl⟩
                case measure => simp [intOf]; omega
            · have HT3 := Lib.hid (HT2.out (fun y hy => by
                obtain ⟨k, hk, rfl⟩ := List.getElem_of_mem hy
                exact HJ.out k hk (by omega)))
              clear HT2 HF2 HHS HJ hLBl
              go_wp2_with fail
              go_roundw
              case rel => exact ⟨t + 1, by omega, by go_num, HT3, HB5⟩
              case measure => simp [intOf]; omega
        · have HN := Lib.hid (HFN.out (fun x hx y hy => by
            obtain ⟨k, hk, rfl⟩ := List.getElem_of_mem hx
            exact HT.out k hk (by have := HLAL.out; omega) y hy))
          have RR : Hid (DisQ (fun V => V = resD FD) W (.returned (.tuple #[.slice none 0 0, .slice none 0 0, .bool false])) wi) := ⟨([], [], false), _, _, rfl, by rw [HN.out]; rfl, World.ownsRow_nil _ _ _ _, World.ownsRow_nil _ _ _ _, .inl rfl, below_on HB3.out HBI.out⟩
          clear hLAl HT HN
          go_wp2_with fail
          go_ret3
          exact RR.out
end Go.Proofs.Ytncahchhinfneaa

/-! DscS10 -/
namespace Go.Proofs.Ytncahchhinfneaa
open Go.RowKit

set_option maxRecDepth 100000 in
theorem sevenS_any (w h M : Int) (W : World) : Calls Try.prog 128 #[.int .i64 w, .int .i64 h, .int .i64 M] W fun e w' => e = .returned (.bool (seven w h M)) ∧ w' = W := by
  have HS := Lib.hid (fun W => spec_shape w h M W)
  cases hS : shapeB w h M
  · have HV : Hid (seven w h M = false) := by
      show _ = _
      unfold seven; rw [hS]; rfl
    rw [hS] at HS
    rw [HV.out]
    clear hS
    go_enter Try.func128, Try.ntmps128
    go_wp2_with fail
    refine (HS.out _).mono ?_
    rintro e w1 ⟨rfl, rfl⟩
    go_wp2_with fail
    go_ret
    exact ⟨rfl, rfl⟩
  · rw [hS] at HS
    have HV : Hid (seven w h M = inB (pc 64 M.toNat : Nat) 1 7) := by
      show _ = _
      unfold seven inB
      rw [hS, Bool.true_and, Bool.eq_iff_iff, decide_eq_true_eq, Bool.and_eq_true, decide_eq_true_eq, decide_eq_true_eq]
      omega
    rw [HV.out]
    obtain ⟨a, b, m, rfl, rfl, rfl, ha1, ha2, hb1, hb2, hm, hab⟩ := mask_nat hS
    rw [Int.toNat_natCast]
    have HO := Lib.hid (fun W => ones_any m W (lt62 hm hab))
    have HI := Lib.hid (fun W => in_any (pc 64 m : Nat) 1 7 W)
    clear hS HV hm hab
    generalize pc 64 m = k at *
    generalize inB (k : Int) 1 7 = r at *
    go_enter Try.func128, Try.ntmps128
    go_wp2_with fail
    refine (HS.out _).mono ?_
    rintro e w1 ⟨rfl, rfl⟩
    go_wp2_with fail
    refine (HO.out _).mono ?_
    rintro e w1 ⟨rfl, rfl⟩
    go_wp2_with fail
    refine (HI.out _).mono ?_
    rintro e w1 ⟨rfl, rfl⟩
    go_wp2_with fail
    go_ret
    exact ⟨rfl, rfl⟩
theorem seven_nat {w h M : Int} (h7 : seven w h M = true) : ∃ m : Nat, M = m ∧ m < 2 ^ 36 ∧ 1 ≤ pc 64 m ∧ pc 64 m ≤ 7 := by
  unfold seven at h7
  rw [Bool.and_eq_true, decide_eq_true_eq] at h7
  obtain ⟨a, b, m, rfl, rfl, rfl, _, _, _, _, hm, hab⟩ := mask_nat h7.1
  rw [Int.toNat_natCast] at h7
  exact ⟨m, rfl, lt62 hm hab, h7.2.1, h7.2.2⟩
set_option maxRecDepth 100000 in
set_option maxHeartbeats 4000000 in
theorem spec_dissect (w h a b K : Int) (W : World) : Calls Try.prog 62 #[.int .i64 w, .int .i64 h, .int .i64 a, .int .i64 b, .int .i64 K] W (DisQ (DisD w h a b K) W) := by
  have H1 := Lib.hid (fun W => sevenS_any w h a W)
  have H2 := Lib.hid (fun W => sevenS_any w h b W)
  have RN : Hid (DisD w h a b K ([], [], false) → DisQ (DisD w h a b K) W (.returned (.tuple #[.slice none 0 0, .slice none 0 0, .bool false])) W) := fun hd => ⟨([], [], false), _, _, rfl, hd, World.ownsRow_nil _ _ _ _, World.ownsRow_nil _ _ _ _, .inl rfl, Below.refl _ _⟩
  cases h7a : seven w h a
  · have R := Lib.hid (RN.out (disD_no fun wa wb _ _ => by rw [if_neg (by simp [h7a])]))
    rw [h7a] at H1
    clear h7a RN H2
    go_enter Try.func62, Try.ntmps62
    go_wp2_with fail
    refine (H1.out _).mono ?_
    rintro e w1 ⟨rfl, rfl⟩
    go_wp2_with fail
    go_ret3
    exact R.out
  cases h7b : seven w h b
  · have R := Lib.hid (RN.out (disD_no fun wa wb _ _ => by rw [if_neg (by simp [h7b])]))
    rw [h7a] at H1
    rw [h7b] at H2
    clear h7a h7b RN
    go_enter Try.func62, Try.ntmps62
    go_wp2_with fail
    refine (H1.out _).mono ?_
    rintro e w1 ⟨rfl, rfl⟩
    go_wp2_with fail
    refine (H2.out _).mono ?_
    rintro e w1 ⟨rfl, rfl⟩
    go_wp2_with fail
    go_ret3
    exact R.out
  obtain ⟨m, rfl, hm, p1, p7⟩ := seven_nat h7a
  obtain ⟨n, rfl, hn, q1, q7⟩ := seven_nat h7b
  have O1 := Lib.hid (fun W => ones_any m W hm)
  have O2 := Lib.hid (fun W => ones_any n W hn)
  rw [h7a] at H1
  rw [h7b] at H2
  by_cases hpc : pc 64 m = pc 64 n
  case neg =>
    have R := Lib.hid (RN.out (disD_apart (by simpa using hpc)))
    have hne : ((pc 64 m : Int) != (pc 64 n : Int)) = true := by rw [bne_iff_ne]; omega
    clear RN h7a h7b hm hn
    generalize pc 64 m = pm at *
    generalize pc 64 n = pn at *
    clear hpc
    go_enter Try.func62, Try.ntmps62
    go_wp2_with fail
    refine (H1.out _).mono ?_
    rintro e w1 ⟨rfl, rfl⟩
    go_wp2_with fail
    refine (H2.out _).mono ?_
    rintro e w1 ⟨rfl, rfl⟩
    go_wp2_with fail
    refine (O1.out _).mono ?_
    rintro e w1 ⟨rfl, rfl⟩
    go_wp2_with fail
    refine (O2.out _).mono ?_
    rintro e w1 ⟨rfl, rfl⟩
    go_wp2_with fail
    go_ret3
    exact R.out
  have HI := Lib.hid (fun W => in_any K 1 (pc 64 m : Nat) W)
  have hne : ((pc 64 m : Int) != (pc 64 m : Int)) = false := by simp
  rw [← hpc] at O2
  cases hin : inB K 1 (pc 64 m : Nat)
  · have R := Lib.hid (RN.out (disD_few h7a (by simpa using hin)))
    rw [hin] at HI
    clear RN h7a h7b hm hn hpc hin
    generalize pc 64 m = pm at *
    go_enter Try.func62, Try.ntmps62
    go_wp2_with fail
    refine (H1.out _).mono ?_
    rintro e w1 ⟨rfl, rfl⟩
    go_wp2_with fail
    refine (H2.out _).mono ?_
    rintro e w1 ⟨rfl, rfl⟩
    go_wp2_with fail
    refine (O1.out _).mono ?_
    rintro e w1 ⟨rfl, rfl⟩
    go_wp2_with fail
    refine (O2.out _).mono ?_
    rintro e w1 ⟨rfl, rfl⟩
    go_wp2_with fail
    refine (O1.out _).mono ?_
    rintro e w1 ⟨rfl, rfl⟩
    go_wp2_with fail
    refine (HI.out _).mono ?_
    rintro e w1 ⟨rfl, rfl⟩
    go_wp2_with fail
    go_ret3
    exact R.out
  · rw [hin] at HI
    obtain ⟨k, rfl, hk9, -⟩ := inB_K hin (by omega)
    obtain ⟨wa, ha⟩ := isWh_ex w h m
    obtain ⟨wb, hb⟩ := isWh_ex w h n
    have HF := Lib.hid (fun W => findS_any w h m n k wa wb ha hb (seven_ok h7a) (seven_ok h7b) hk9 W)
    have HD : Hid (∀ V, V = resD (findD (hitD w h m n) (listsC w h m k wa) (listsC w h n k wb)) → DisD w h m n k V) := fun V hV => disD_of ha hb ⟨h7a, h7b⟩ hV
    clear RN h7a h7b hm hn hpc hin ha hb
    generalize pc 64 m = pm at *
    generalize findD (hitD w h m n) (listsC w h m k wa) (listsC w h n k wb) = FD at *
    go_enter Try.func62, Try.ntmps62
    go_wp2_with fail
    refine (H1.out _).mono ?_
    rintro e w1 ⟨rfl, rfl⟩
    go_wp2_with fail
    refine (H2.out _).mono ?_
    rintro e w1 ⟨rfl, rfl⟩
    go_wp2_with fail
    refine (O1.out _).mono ?_
    rintro e w1 ⟨rfl, rfl⟩
    go_wp2_with fail
    refine (O2.out _).mono ?_
    rintro e w1 ⟨rfl, rfl⟩
    go_wp2_with fail
    refine (O1.out _).mono ?_
    rintro e w1 ⟨rfl, rfl⟩
    go_wp2_with fail
    refine (HI.out _).mono ?_
    rintro e w1 ⟨rfl, rfl⟩
    go_wp2_with fail
    refine (HF.out _).mono ?_
    rintro e w2 ⟨V, v1, v2, rfl, hV, o1, o2, hap, hb2⟩
    have R : Hid (DisQ (DisD w h m n k) w1 (.returned (.tuple #[v1, v2, .bool V.2.2])) w2) := ⟨V, v1, v2, rfl, HD.out V hV, o1, o2, hap, hb2⟩
    clear hV o1 o2 hap hb2
    go_wp2_with fail
    go_ret3
    exact R.out
theorem sevenI_any (w h M : Int) (W : World) : Calls Try.prog 132 #[.int .i64 w, .int .i64 h, .int .i64 M] W fun e w' => e = .returned (.bool (seven w h M)) ∧ w' = W := by
  have HC := Lib.hid (fun W => impl_cells w h M W)
  have HF := Lib.hid (fun W => from_any (cellsV w h M) 1 7 W)
  have HV : Hid (inB (cellsV w h M) 1 7 = seven w h M) := by
    show _ = _
    unfold seven cellsV inB
    cases shapeB w h M
    · rw [cond_false, Bool.false_and]; decide
    · rw [cond_true, Bool.true_and, Bool.eq_iff_iff, decide_eq_true_eq, Bool.and_eq_true, decide_eq_true_eq, decide_eq_true_eq]
      omega
  rw [HV.out] at HF
  generalize cellsV w h M = c at *
  generalize seven w h M = s at *
  go_enter Try.func132, Try.ntmps132
  go_wp2_with fail
  refine (HC.out _).mono ?_
  rintro e w1 ⟨rfl, rfl⟩
  go_wp2_with fail
  refine (HF.out _).mono ?_
  rintro e w1 ⟨rfl, rfl⟩
  go_wp2_with fail
  go_ret
  exact ⟨rfl, rfl⟩
end Go.Proofs.Ytncahchhinfneaa

/-! CwpI10 -/
namespace Go.Proofs.Ytncahchhinfneaa
open Go.RowKit Go.Sort
attribute [local go_sem] Oper.semAt_some

/-- A cut in its block, and the values of its pieces in theirs. -/
structure Cp where
  r : Rw
  pg : Nat
  pcap : Nat
  L : List (Option Int)
def pcV (c : Cp) : Value := .slice (some ⟨c.pg, 0, none⟩) c.L.length c.pcap
def cpF (c : Cp) : List Value := [hdr c.r, pcV c]
theorem cpF_len (Cs : List Cp) : (Cs.flatMap cpF).length = Cs.length * 2 := by
  induction Cs with
  | nil => rfl
  | cons c Cs ih => simp only [List.flatMap_cons, List.length_append, List.length_cons, ih, cpF, List.length_nil]; omega
/-- v is a list of cuts with pieces, all owned from block B on. -/
structure CpsR (W : World) (B : Nat) (v : Value) (Cs : List Cp) : Prop where
  out : W.ownsRow B 142 2 v Cs.length (Cs.flatMap cpF)
  row : ∀ c ∈ Cs, W.ownsRow B 3 1 (hdr c.r) c.r.M.length (ints c.r.M)
  prow : ∀ c ∈ Cs, W.ownsRow B 129 1 (pcV c) c.L.length (c.L.map ivV)
theorem CpsR.below {W W' : World} {B : Nat} {v : Value} {Cs : List Cp} (h : CpsR W B v Cs) (hb : Below W.heap.size W W') : CpsR W' B v Cs := ⟨own_below h.out hb, fun c hc => own_below (h.row c hc) hb, fun c hc => own_below (h.prow c hc) hb⟩
theorem CpsR.base {W : World} {B B' : Nat} {v : Value} {Cs : List Cp} (h : CpsR W B v Cs) (hB : B' ≤ B) : CpsR W B' v Cs := ⟨own_base h.out hB, fun c hc => own_base (h.row c hc) hB, fun c hc => own_base (h.prow c hc) hB⟩
theorem row_foreign {W : World} {B n s g : Nat} {e : TypeId} {v : Value} {xs : List Value} (ow : W.ownsRow B e s v n xs) (hg : v.ownBlock = some g) (he : ¬ ownT e) : ForeignO W.heap[g]? := by
  rcases ow.2 with ⟨h3, _⟩ | ⟨g', cap, cur, hv, _, hh, _⟩
  · subst h3; cases hg
  · subst hv
    have e' : g' = g := by simpa [Value.ownBlock] using hg
    subst e'
    exact ⟨cur, e, (0, 0), hh, he⟩
/-- Rows of different types lie in different blocks. -/
theorem own_type_ne {W : World} {B1 B2 s1 s2 n1 n2 : Nat} {e1 e2 : TypeId} {v1 v2 : Value} {xs1 xs2 : List Value} (h1 : W.ownsRow B1 e1 s1 v1 n1 xs1) (h2 : W.ownsRow B2 e2 s2 v2 n2 xs2) (hne : e1 ≠ e2) : v1.ownBlock = none ∨ v1.ownBlock ≠ v2.ownBlock := by
  rcases h1.2 with ⟨q, _⟩ | ⟨g, cap, cur, hv, _, hh, _⟩
  · subst q; exact .inl rfl
  · refine .inr fun e => ?_
    rcases h2.2 with ⟨q, _⟩ | ⟨g2, cap2, cur2, hv2, _, hh2, _⟩
    · subst q; subst hv; cases e
    · subst hv; subst hv2
      have e' : g = g2 := by simpa [Value.ownBlock] using e
      subst e'
      rw [hh] at hh2
      simp only [Option.some.injEq, Obj.cells.injEq] at hh2
      exact hne hh2.2.1
theorem nown_cwp : ¬ ownT 142 := by unfold ownT; decide
theorem nown_pc : ¬ ownT 129 := by unfold ownT; decide
/-- What an iterator keeps of it. -/
theorem CpsR.keep {W W' : World} {B B0 : Nat} {v : Value} {Cs : List Cp} (h : CpsR W B v Cs) (hk : KeepG B0 (fun k => ∃ x ∈ Cs.map Cp.r, x.g = k) W W') : CpsR W' B v Cs :=
  ⟨own_as h.out fun g hg => hk.foreign g (h.out.lt g hg).2 (row_foreign h.out hg nown_cwp),
    fun c hc => own_as (h.row c hc) fun g hg => hk.block g ((h.row c hc).lt g hg).2 (.inr ⟨c.r, List.mem_map.2 ⟨c, hc, rfl⟩, by simpa [hdr, Value.ownBlock] using hg⟩),
    fun c hc => own_as (h.prow c hc) fun g hg => hk.foreign g ((h.prow c hc).lt g hg).2 (row_foreign (h.prow c hc) hg nown_pc)⟩
theorem CpsR.snoc {w w1 : World} {B : Nat} {v v' : Value} {Cs : List Cp} {c : Cp} (h : CpsR w B v Cs) (hr : w.ownsRow B 3 1 (hdr c.r) c.r.M.length (ints c.r.M)) (hp : w.ownsRow B 129 1 (pcV c) c.L.length (c.L.map ivV))
    (hg : w.grownBy w1 v.ownBlock) (ho : w1.ownsRow B 142 2 v' (Cs.length + 1) (Cs.flatMap cpF ++ cpF c)) : CpsR w1 B v' (Cs ++ [c]) := by
  refine ⟨by simpa using ho, fun x hx => ?_, fun x hx => ?_⟩
  · rcases List.mem_append.1 hx with hx | hx
    · exact (h.row x hx).kept hg (own_type_ne (h.row x hx) h.out (by decide))
    · rw [List.mem_singleton.1 hx]; exact hr.kept hg (own_type_ne hr h.out (by decide))
  · rcases List.mem_append.1 hx with hx | hx
    · exact (h.prow x hx).kept hg (own_type_ne (h.prow x hx) h.out (by decide))
    · rw [List.mem_singleton.1 hx]; exact hp.kept hg (own_type_ne hp h.out (by decide))
theorem infoCw : (Try.prog.info? 142).map (fun i => (i.zero, i.size, i.bytes)) = some (some (.agg #[.slice none 0 0, .slice none 0 0]), 2, 48) := by kernel_rfl
def CwpQ (w h M K : Int) (W : World) (e : Ending) (w' : World) : Prop := ∃ v Cs, e = .returned v ∧ CpsR w' W.heap.size v Cs ∧ (∀ wh, IsWh w h M wh → Cs.map (fun c => c.r.M) = listsC w h M K wh) ∧ (∀ c ∈ Cs, c.L = kindsV w h (pieV w h M c.r.M)) ∧ Below W.heap.size W w'
set_option maxRecDepth 100000 in
set_option maxHeartbeats 8000000 in
theorem cwp_any (w h M K : Int) (W : World) : Calls Try.prog 133 #[.int .i64 w, .int .i64 h, .int .i64 M, .int .i64 K] W (CwpQ w h M K W) := by
  obtain ⟨i0, hi0, hz0, hz1, hz2⟩ := info_parts infoCw
  obtain ⟨wh, hwh⟩ := isWh_ex w h M
  have HWH := Lib.hid hwh
  have HCUT := Lib.hid (listsC_cut hwh (K := K))
  have HLE : Hid ((listsC w h M K wh).length ≤ 362880) := listsC_le
  clear hwh
  refine (callsIn_wide (n := 9)).1 ?_
  refine callsIn_of_wp_marks Try.func133 rfl trivial ?_ rfl
  simp only [Try.ntmps133, List.size_toArray, List.length_cons, List.length_nil, Nat.reduceAdd, Nat.reduceSub, Array.replicate_succ, Array.replicate_zero, List.push_toArray, List.append_toArray, List.nil_append, List.cons_append]
  have bA := (((Boxed.new W 3 (.int .i64 w)).alloc (.cells #[.int .i64 h] 3)).alloc (.cells #[.int .i64 M] 3)).alloc (.cells #[.slice none 0 0] 139)
  have bB := ((Boxed.new (W.alloc (.cells #[.int .i64 w] 3)) 3 (.int .i64 h)).alloc (.cells #[.int .i64 M] 3)).alloc (.cells #[.slice none 0 0] 139)
  have bC := (Boxed.new ((W.alloc (.cells #[.int .i64 w] 3)).alloc (.cells #[.int .i64 h] 3)) 3 (.int .i64 M)).alloc (.cells #[.slice none 0 0] 139)
  have bD := Boxed.new (((W.alloc (.cells #[.int .i64 w] 3)).alloc (.cells #[.int .i64 h] 3)).alloc (.cells #[.int .i64 M] 3)) 139 (.slice none 0 0)
  simp only [World.size_alloc] at bB bC bD
  have hb1 : Below W.heap.size W ((((W.alloc (.cells #[.int .i64 w] 3)).alloc (.cells #[.int .i64 h] 3)).alloc (.cells #[.int .i64 M] 3)).alloc (.cells #[.slice none 0 0] 139)) := ((((Below.refl _ W).alloc (Nat.le_refl _) _).alloc (by simp) _).alloc (by simp; omega) _).alloc (by simp; omega) _
  have cA := bA.cell; have cB := bB.cell; have cC := bC.cell
  gi_wp2
  refine ⟨trivial, (wide0.calls (cutsInto_any w h M K _)).mono ?_⟩
  rintro e w3 ⟨rfl, rfl⟩
  obtain ⟨wC, hwC⟩ : ∃ wC, (((W.alloc (.cells #[.int .i64 w] 3)).alloc (.cells #[.int .i64 h] 3)).alloc (.cells #[.int .i64 M] 3)).alloc (.cells #[.slice none 0 0] 139) = wC := ⟨_, rfl⟩
  have hsC : wC.heap.size = W.heap.size + 4 := by rw [← hwC]; simp
  rw [hwC] at bA bB bC bD hb1 ⊢
  clear cA cB cC
  obtain ⟨bN, hbN⟩ : ∃ bN, bN = wC.heap.size := ⟨_, rfl⟩
  rw [← hbN]
  have n1 := (((Boxed.new wC 3 (.int .i64 w)).alloc (.cells #[.int .i64 h] 3)).alloc (.cells #[.int .i64 M] 3)).alloc (.cells #[.int .i64 K] 3)
  have n2 := ((Boxed.new (wC.alloc (.cells #[.int .i64 w] 3)) 3 (.int .i64 h)).alloc (.cells #[.int .i64 M] 3)).alloc (.cells #[.int .i64 K] 3)
  have n3 := (Boxed.new ((wC.alloc (.cells #[.int .i64 w] 3)).alloc (.cells #[.int .i64 h] 3)) 3 (.int .i64 M)).alloc (.cells #[.int .i64 K] 3)
  have n4 := Boxed.new (((wC.alloc (.cells #[.int .i64 w] 3)).alloc (.cells #[.int .i64 h] 3)).alloc (.cells #[.int .i64 M] 3)) 3 (.int .i64 K)
  have hbD : Below wC.heap.size wC ((((wC.alloc (.cells #[.int .i64 w] 3)).alloc (.cells #[.int .i64 h] 3)).alloc (.cells #[.int .i64 M] 3)).alloc (.cells #[.int .i64 K] 3)) := ((((Below.refl _ wC).alloc (Nat.le_refl _) _).alloc (by simp) _).alloc (by simp; omega) _).alloc (by simp; omega) _
  simp only [World.size_alloc] at n2 n3 n4
  rw [← hbN] at n1 n2 n3 n4
  obtain ⟨W0, hW0⟩ : ∃ W0, (((wC.alloc (.cells #[.int .i64 w] 3)).alloc (.cells #[.int .i64 h] 3)).alloc (.cells #[.int .i64 M] 3)).alloc (.cells #[.int .i64 K] 3) = W0 := ⟨_, rfl⟩
  have hs0 : W0.heap.size = bN + 4 := by rw [← hW0, hbN]; simp
  rw [hW0] at hbD n1 n2 n3 n4 ⊢
  have a0 : Boxed W0 W.heap.size 3 (.int .i64 w) := boxed_as bA (hbD.block _ bA.lt)
  have a1 : Boxed W0 (W.heap.size + 1) 3 (.int .i64 h) := boxed_as bB (hbD.block _ bB.lt)
  have a2 : Boxed W0 (W.heap.size + 1 + 1) 3 (.int .i64 M) := boxed_as bC (hbD.block _ bC.lt)
  have a3 : Boxed W0 (W.heap.size + 1 + 1 + 1) 139 (.slice none 0 0) := boxed_as bD (hbD.block _ bD.lt)
  have hb3 := below_on hb1 hbD
  have hlt1 : W.heap.size + 3 < bN := by omega
  have hlt2 : bN + 1 + 1 + 1 < W0.heap.size := by omega
  have HS := Lib.hid (seqCuts bN (bN + 1) (bN + 1 + 1) (bN + 1 + 1 + 1) w h M K wh HWH.out W0 n1 n2 n3 n4)
  have HFIN : Hid (∀ (v : Value) (Cs : List Cp) w', CpsR w' W.heap.size v Cs → Cs.map (fun c => c.r.M) = listsC w h M K wh → (∀ c ∈ Cs, c.L = kindsV w h (pieV w h M c.r.M)) → Below W.heap.size W w' → CwpQ w h M K W (.returned v) w') := fun v Cs w' h1 h2 h3 h4 => ⟨v, Cs, rfl, h1, fun wh' hw' => by rw [h2, listsC_same hw' HWH.out], h3, h4⟩
  generalize listsC w h M K wh = LL at *
  clear hwC hW0 hbD n1 n2 n3 n4 bA bB bC bD hsC hbN hs0 hb1 HWH
  gi_wp2
  refine wpIn_rangeG (n := 9) (by decide) (gf := 213) (lb := #[.pointer (some ⟨bN, 0, none⟩), .pointer (some ⟨bN + 1, 0, none⟩), .pointer (some ⟨bN + 1 + 1, 0, none⟩), .pointer (some ⟨bN + 1 + 1 + 1, 0, none⟩)]) rfl (enters_of Try.func213 (by kernel_rfl) rfl)
    HS.out (Below.refl _ _) rfl (fun k => k = W.heap.size + 1 + 1 + 1) (fun k hk => by omega) (fun k hk => ⟨fun h => by omega, by omega⟩)
    (fun pre W' => ∃ v Cs, Boxed W' (W.heap.size + 1 + 1 + 1) 139 v ∧ CpsR W' W.heap.size v Cs ∧ Cs.map Cp.r = pre ∧ (∀ c ∈ Cs, c.L = kindsV w h (pieV w h M c.r.M)) ∧ Boxed W' W.heap.size 3 (.int .i64 w) ∧ Boxed W' (W.heap.size + 1) 3 (.int .i64 h) ∧ Boxed W' (W.heap.size + 1 + 1) 3 (.int .i64 M) ∧ Below W.heap.size W W')
    (fun _ _ _ => False)
    (fun s X Y hs hk => by
      obtain ⟨v, Cs, q1, q2, rfl, q4, q5, q6, q7, q8⟩ := hs
      exact ⟨v, Cs, boxed_as q1 (hk.block _ q1.lt (.inl (by omega))), q2.keep hk, rfl, q4, boxed_as q5 (hk.block _ q5.lt (.inl (by omega))), boxed_as q6 (hk.block _ q6.lt (.inl (by omega))), boxed_as q7 (hk.block _ q7.lt (.inl (by omega))), q8.trans ⟨hk.os, hk.tape, hk.output, hk.size, fun k hk1 => hk.block k (Nat.lt_of_lt_of_le hk1 q8.size) (.inl (by omega))⟩⟩)
    (fun _ _ _ _ hs _ => hs)
    ⟨_, [], a3, ⟨World.ownsRow_nil _ _ _ _, fun c hc => (by cases hc), fun c hc => (by cases hc)⟩, rfl, fun c hc => (by cases hc), a0, a1, a2, hb3⟩
    (fun x => { tmps := #[.int .i64 w, .int .i64 h, .int .i64 M, .int .i64 K, .pointer (some ⟨W.heap.size, 0, none⟩), .pointer (some ⟨W.heap.size + 1, 0, none⟩), .pointer (some ⟨W.heap.size + 1 + 1, 0, none⟩), undef, .slice none 0 0, .pointer (some ⟨W.heap.size + 1 + 1 + 1, 0, none⟩), hdr x, .int .i64 w, .int .i64 h, .int .i64 M, .int .i64 K, .func (.func 213) #[] #[.pointer (some ⟨bN, 0, none⟩), .pointer (some ⟨bN + 1, 0, none⟩), .pointer (some ⟨bN + 1 + 1, 0, none⟩), .pointer (some ⟨bN + 1 + 1 + 1, 0, none⟩)], hdr x, undef, undef, undef, undef, undef, undef, undef, undef, undef, undef, undef, undef, undef, undef], defers := [] }) ?assign ?body ?done ?stop
  case assign =>
    intro l2 x W2 K2 hK2
    gi_wp2
    simpa using hK2
  case body =>
    rintro l2 pre x W2 ⟨v, Cs, bL, hC, hm, hLs, b0, b1, b2, hb⟩ hx - -
    have hmem : x.M ∈ LL := hx.next.subset (List.mem_append_right _ (List.mem_singleton.2 rfl))
    have hcut := HCUT.out _ hmem
    have hxl : x.M.length ≤ 9 := by
      obtain ⟨a', b', m', n', C', k'⟩ := cutAt_of hcut
      rw [k'.ec, castL_len]; exact k'.l9
    have hlc : Cs.length ≤ 362880 := by
      have h1 := hx.next.length_le
      rw [← hm] at h1
      simp only [List.length_append, List.length_map, List.length_singleton] at h1
      have := HLE.out
      omega
    obtain ⟨-, lp9, lpn, hlpn⟩ := cut_pieces hcut
    have HP1 := Lib.hid (fun W A c h => impl_l09 hcut (by omega) W A c h)
    have HX := Lib.hid hx
    have HC := Lib.hid hC
    have HM := Lib.hid hm
    have HLS := Lib.hid hLs
    have HBW := Lib.hid hb
    have hhx : hdr x = .slice (some ⟨x.g, 0, none⟩) x.M.length x.cap := rfl
    rw [hhx]
    obtain ⟨PV, hPV⟩ : ∃ PV, PV = pieV w h M x.M := ⟨_, rfl⟩
    have HPV := Lib.hid hPV
    rw [← hPV] at HP1 lp9 hlpn
    have hlp1 : 0 < PV.length := by omega
    have k0 := cell_regrown b0.cell
    have k1 := cell_regrown b1.cell
    have k2 := cell_regrown b2.cell
    have k3 := cell_regrown bL.cell
    have B0 := Lib.hid b0; have B1 := Lib.hid b1; have B2 := Lib.hid b2; have BL := Lib.hid bL
    clear hmem hcut hC hm hLs hb hx hhx hPV b0 b1 b2 bL hlpn
    gi_wp2
    refine region_make2_in 8 4 0 (wideR l2) (by kernel_rfl) (by kernel_rfl) (by kernel_rfl) ?_
    simp only [List.take_succ_cons, List.take_zero, List.drop_succ_cons, List.drop_zero]
    repeat (first
      | go_big_quiet_step (fail)
      | quiet_step (fail))
    refine wpQuiet_nil ?_
    rintro _ ⟨⟨dq, osq⟩, rfl⟩
    simp only [onesL]
    have hb4 := below_regrown W2 dq osq
    clear k0 k1 k2 k3
    generalize grow (redrawn W2 dq) osq = W4 at *
    have H1 := Lib.hid (HP1.out W4 (some ⟨x.g, 0, none⟩) x.cap (intsA_on HX.out.at_.ints hb4))
    gi_wp2
    refine ⟨trivial, ((wideR l2).calls H1.out).mono ?_⟩
    rintro e W5 ⟨v5, rfl, own5, hb5'⟩
    have hb5 := hb4.trans (hb5'.mono hb4.size)
    obtain ⟨_, A5, c5, rfl, p5⟩ := own_ints own5
    have H2 := Lib.hid (piecesFrom_any w h A5 c5 PV W5 p5 (by omega))
    clear own5 hb5' hb4 H1 p5
    gi_wp2
    refine ⟨hb5, ?_⟩
    gi_wp2
    refine ⟨trivial, ((wideR l2).calls H2.out).mono ?_⟩
    intro e W6 h6
    obtain ⟨v6, rfl, -, own6, hb6'⟩ := h6
    have hb6 := hb5.trans (hb6'.mono hb5.size)
    obtain ⟨g6, c6, rfl⟩ := own_some own6 hlp1
    have hs6 := hb6.size
    have HC6 := Lib.hid (HC.out.below hb6)
    have HO6 := Lib.hid (own_base own6 (Nat.le_trans HBW.out.size hb5.size))
    have HBB := Lib.hid (below_on HBW.out hb6)
    have hsB := HBB.out.size
    have HB6 := Lib.hid hb6
    have HR6 : Hid (RowAt W6 x) := HX.out.at_.below hb6
    clear own6 hb6' hb5 H2
    gi_wp2
    refine ⟨hb6, ?_⟩
    gi_wp2
    refine ⟨hb6, ?_⟩
    gi_wp2
    refine ⟨hb6.alloc hb6.size _, ?_⟩
    refine wpQuiet_nil ?_
    clear hb6
    obtain ⟨cp, hcp⟩ : ∃ cp : Cp, cp = ⟨x, g6, c6, kindsV w h PV⟩ := ⟨_, rfl⟩
    have hcv : cpF cp = [.slice (some ⟨x.g, 0, none⟩) x.M.length x.cap, .slice (some ⟨g6, 0, none⟩) PV.length c6] := by
      rw [hcp]
      unfold cpF pcV hdr
      rw [kinds_len]
    have BL6 : Boxed W6 (W.heap.size + 1 + 1 + 1) 139 v := boxed_as BL.out (HB6.out.block _ BL.out.lt)
    have BL7 := BL6.alloc (.cells #[.slice (some ⟨x.g, 0, none⟩) x.M.length x.cap, .slice (some ⟨g6, 0, none⟩) PV.length c6] 142)
    have HCP := Lib.hid hcp
    have HCV := Lib.hid hcv
    have own8 := HC6.out.out.alloc (.cells #[.slice (some ⟨x.g, 0, none⟩) x.M.length x.cap, .slice (some ⟨g6, 0, none⟩) PV.length c6] 142)
    have cL := BL7.cell
    have fL := BL7.frozen
    have HBL := Lib.hid BL7
    clear hcp hcv BL6 BL7
    gi_wp2_with (gi_at_builtin; refine wpListIn_append_own _ rfl _ _ 139 rfl W.heap.size 142 i0 (.agg #[.slice none 0 0, .slice none 0 0]) 2 48 Try.underlying139 hi0 hz0 hz1 hz2 rfl (by decide) _ _ _ rfl own8 ⟨W6.heap.size, 0, none⟩ 1 1 [.slice (some ⟨x.g, 0, none⟩) x.M.length x.cap, .slice (some ⟨g6, 0, none⟩) PV.length c6] rfl rfl ?d1 ?d2 ?d3 ?d4 ?d5 ?_)
    case d1 => exact World.news_of_block (cs := #[.slice (some ⟨x.g, 0, none⟩) x.M.length x.cap, .slice (some ⟨g6, 0, none⟩) PV.length c6]) (t := 142) (fr := (0, 0)) (heap_alloc_new W6 _)
    case d2 => simp [Value.oneCell']
    case d3 => unfold maxLen; omega
    case d4 => omega
    case d5 => first | omega | (simp; omega)
    intro v' w7 own7 hgrow _
    obtain ⟨g7, cap7, hv'⟩ : ∃ g c, v' = .slice (some ⟨g, 0, none⟩) (Cs.length + 1) c := by
      rcases own7.2 with ⟨_, q, _⟩ | ⟨g, cap, cur, hv, _⟩
      exact ⟨g, cap, by rw [hv]⟩
    subst hv'
    have hv7 : Boxed w7 (W.heap.size + 1 + 1 + 1) 139 v := HBL.out.kept hgrow (HBL.out.not_row (by decide) own8)
    have c7 := hv7.cell
    have f7 := hv7.frozen
    have hA7 : Below W6.heap.size W6 (W6.alloc (.cells #[.slice (some ⟨x.g, 0, none⟩) x.M.length x.cap, .slice (some ⟨g6, 0, none⟩) PV.length c6] 142)) := below1 W6 _
    have hxg : W.heap.size ≤ x.g := by have := HX.out.far; have := hlt2; omega
    have hrx : W6.ownsRow W.heap.size 3 1 (hdr x) x.M.length (ints x.M) := by
      have h1 := HR6.out
      rcases h1.2 with ⟨q, _⟩ | ⟨g, cap, cur, hv, _, r⟩
      · cases q
      · refine ⟨h1.1, .inr ⟨g, cap, cur, hv, ?_, r⟩⟩
        have : x.g = g := by
          have := congrArg Value.ownBlock hv
          simpa [hdr, Value.ownBlock] using this
        omega
    have hS7 : CpsR w7 W.heap.size (Value.slice (some ⟨g7, 0, none⟩) (Cs.length + 1) cap7) (Cs ++ [cp]) := (HC6.out.below hA7).snoc (c := cp) (by rw [HCP.out]; exact own_below hrx hA7)
      (by
        have := own_below HO6.out hA7
        rw [HCP.out]
        unfold pcV
        simp only [kinds_len]
        exact this) hgrow (by rw [HCV.out]; exact own7)
    have hS8 : CpsR (w7.setCell ⟨W.heap.size + 1 + 1 + 1, 0, none⟩ (Value.slice (some ⟨g7, 0, none⟩) (Cs.length + 1) cap7)) W.heap.size (Value.slice (some ⟨g7, 0, none⟩) (Cs.length + 1) cap7) (Cs ++ [cp]) :=
      ⟨own_as hS7.out fun g hg => Below.heap_setCell _ _ _ _ (fun e => hv7.not_row (by decide) hS7.out (by rw [hg]; exact congrArg some e.symm)),
        fun c hc => own_as (hS7.row c hc) fun g hg => Below.heap_setCell _ _ _ _ (fun e => hv7.not_row (by decide) (hS7.row c hc) (by rw [hg]; exact congrArg some e.symm)),
        fun c hc => own_as (hS7.prow c hc) fun g hg => Below.heap_setCell _ _ _ _ (fun e => hv7.not_row (by decide) (hS7.prow c hc) (by rw [hg]; exact congrArg some e.symm))⟩
    have hBut : ButT (fun k => k = W.heap.size + 1 + 1 + 1) W2 (w7.setCell ⟨W.heap.size + 1 + 1 + 1, 0, none⟩ (Value.slice (some ⟨g7, 0, none⟩) (Cs.length + 1) cap7)) := by
      refine (?_ : ButT (fun k => k = W.heap.size + 1 + 1 + 1) W2 w7 → _) ?_
      · exact fun hbt => hbt.setCell (p := ⟨W.heap.size + 1 + 1 + 1, 0, none⟩) rfl (Value.slice (some ⟨g7, 0, none⟩) (Cs.length + 1) cap7)
      refine ⟨Nat.le_trans (Nat.le_trans HB6.out.size hA7.size) hgrow.size, fun k hk _ hf => ?_⟩
      have hk6 : k < W6.heap.size := Nat.lt_of_lt_of_le hk HB6.out.size
      refine (hgrow.block k (Nat.lt_of_lt_of_le hk6 hA7.size) (fun e => ?_)).trans ((hA7.block k hk6).trans (HB6.out.block k hk))
      exact hf (row_foreign HC.out.out e.symm nown_cwp)
    have keepB : ∀ {q : Nat} {u : Int}, Boxed W2 q 3 (.int .i64 u) → q ≠ W.heap.size + 1 + 1 + 1 → Boxed (w7.setCell ⟨W.heap.size + 1 + 1 + 1, 0, none⟩ (Value.slice (some ⟨g7, 0, none⟩) (Cs.length + 1) cap7)) q 3 (.int .i64 u) := fun hb hq => boxed_as hb (hBut.block _ hb.lt hq (box_nf hb (.inl rfl)))
    have hbF : Below W.heap.size W (w7.setCell ⟨W.heap.size + 1 + 1 + 1, 0, none⟩ (Value.slice (some ⟨g7, 0, none⟩) (Cs.length + 1) cap7)) := ((HBB.out.alloc hsB _).grown hgrow (by first | omega | (simp; omega)) (fun k hk => (own8.lt k hk).1)).setCell (p := ⟨W.heap.size + 1 + 1 + 1, 0, none⟩) (by simp only; omega) _
    have R : Hid (ButT (fun k => k = W.heap.size + 1 + 1 + 1) W2 (w7.setCell ⟨W.heap.size + 1 + 1 + 1, 0, none⟩ (Value.slice (some ⟨g7, 0, none⟩) (Cs.length + 1) cap7)) ∧ ∃ v Es, Boxed (w7.setCell ⟨W.heap.size + 1 + 1 + 1, 0, none⟩ (Value.slice (some ⟨g7, 0, none⟩) (Cs.length + 1) cap7)) (W.heap.size + 1 + 1 + 1) 139 v ∧ CpsR (w7.setCell ⟨W.heap.size + 1 + 1 + 1, 0, none⟩ (Value.slice (some ⟨g7, 0, none⟩) (Cs.length + 1) cap7)) W.heap.size v Es ∧ Es.map Cp.r = pre ++ [x] ∧ (∀ c ∈ Es, c.L = kindsV w h (pieV w h M c.r.M)) ∧ Boxed (w7.setCell ⟨W.heap.size + 1 + 1 + 1, 0, none⟩ (Value.slice (some ⟨g7, 0, none⟩) (Cs.length + 1) cap7)) W.heap.size 3 (.int .i64 w) ∧ Boxed (w7.setCell ⟨W.heap.size + 1 + 1 + 1, 0, none⟩ (Value.slice (some ⟨g7, 0, none⟩) (Cs.length + 1) cap7)) (W.heap.size + 1) 3 (.int .i64 h) ∧ Boxed (w7.setCell ⟨W.heap.size + 1 + 1 + 1, 0, none⟩ (Value.slice (some ⟨g7, 0, none⟩) (Cs.length + 1) cap7)) (W.heap.size + 1 + 1) 3 (.int .i64 M) ∧ Below W.heap.size W (w7.setCell ⟨W.heap.size + 1 + 1 + 1, 0, none⟩ (Value.slice (some ⟨g7, 0, none⟩) (Cs.length + 1) cap7))) := by
      refine ⟨hBut, (Value.slice (some ⟨g7, 0, none⟩) (Cs.length + 1) cap7), Cs ++ [cp], hv7.set (Value.slice (some ⟨g7, 0, none⟩) (Cs.length + 1) cap7), hS8, ?_, fun c hc => ?_, keepB B0.out (by omega), keepB B1.out (by omega), keepB B2.out (by omega), hbF⟩
      · rw [List.map_append, HM.out, HCP.out]; rfl
      · rcases List.mem_append.1 hc with hc | hc
        · exact HLS.out c hc
        · rw [List.mem_singleton.1 hc, HCP.out, ← HPV.out]
    clear hBut keepB hbF hS8 hS7 hrx hxg hA7 hv7 own7 own8 hgrow cL fL
    gi_wp2
    exact R.out
  case done =>
    rintro D xs W7 hD hxs ⟨v, Cs, bL, hC, hm, hLs, b0, b1, b2, hb⟩ hK
    have cL := bL.cell
    have hb7 : Below W7.heap.size W7 W7 := Below.refl _ _
    have hD2 : W.heap.size < D := by omega
    have hD3 : ∀ g, g ≠ D → (W7.putObj D (.deferred none)).heap[g]? = W7.heap[g]? := fun g hg => World.putObj_heap_other hg
    have hnD : ∀ {e s n : Nat} {v : Value} {ys : List Value} {B : Nat}, W7.ownsRow B e s v n ys → ∀ g, v.ownBlock = some g → g ≠ D := fun ow g hg e => by
      rcases ow.2 with ⟨q, _⟩ | ⟨g', cap, cur, hv, _, hh, _⟩
      · subst q; cases hg
      · subst hv
        have e' : g' = g := by simpa [Value.ownBlock] using hg
        subst e'
        subst e
        rw [hh] at hK
        cases hK
    have hC7 : CpsR (W7.putObj D (.deferred none)) W.heap.size v Cs := ⟨own_as hC.out fun g hg => hD3 g (hnD hC.out g hg), fun c hc => own_as (hC.row c hc) fun g hg => hD3 g (hnD (hC.row c hc) g hg), fun c hc => own_as (hC.prow c hc) fun g hg => hD3 g (hnD (hC.prow c hc) g hg)⟩
    have hB7 : Below W.heap.size W (W7.putObj D (.deferred none)) := ⟨hb.os, hb.tape, hb.output, by simpa using hb.size, fun k hk => (World.putObj_heap_other (by omega)).trans (hb.block k hk)⟩
    have RR := Lib.hid (HFIN.out v Cs _ hC7 (by rw [← hxs, ← hm, List.map_map]; rfl) hLs hB7)
    clear hC hm hLs b0 b1 b2 hb hb7 hC7 hB7 hxs hnD hD3
    gi_wp2
    refine ⟨by simp, .inl ⟨_, _, rfl, run_takeDeferred hK, ?_⟩⟩
    refine ⟨_, results_tmp rfl _ _ _, ?_⟩
    exact RR.out
  case stop =>
    rintro D cd pre W7 hD hpre h hK
    exact h.elim
end Go.Proofs.Ytncahchhinfneaa
