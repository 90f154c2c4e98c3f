/-
  slices.SortFunc over rows of two ints, by slices.Compare.
-/
import Derived.Test.YtieekeodbflgfaaCmpRow
import Derived.Test.YtieekeodbflgfaaSortShelf
namespace Go.Proofs.Ytieekeodbflgfaa
open Go.RowKit Go.Sort

section
variable {α : Type} [Inhabited α] (enc : α → Value)
theorem holds_g {w : World} {g : Nat} {cur : Array Value} {e : TypeId} {ss : List α} (hb : w.heap[g]? = some (.cells cur e (0, 0))) (ht : cur.toList.take ss.length = ss.map enc) : Go.Sort.Holds enc w g 0 ss.toArray := by
  intro j hj
  have hj' : j < ss.length := by simpa using hj
  refine ⟨?_, by simp [World.frozen?, hb]⟩
  have h1 : (cur.toList.take ss.length)[j]? = (ss.map enc)[j]? := by rw [ht]
  rw [List.getElem?_take_of_lt hj'] at h1
  simp only [World.cell?, hb, Nat.zero_add]
  simp only [Option.isSome_none, Bool.false_eq_true, if_false]
  rw [← Array.getElem?_toList, h1]
  simp [hj']
theorem grown_s {w : World} {g n : Nat} {os : Array Obj} (d : Array α) : w.grownBy (sortWorld enc w g 0 n d os) (some g) := by
  unfold sortWorld
  refine ⟨rfl, rfl, rfl, by simp, fun k hk hne => ?_⟩
  rw [heap_grow_old _ _ (by simpa using hk)]
  have : g ≠ k := fun e => hne (by rw [e])
  simp [putRow, mapBlock, Go.Sort.ahead, Array.getElem?_modify, this]
theorem owns_s {w : World} {base g cap n m : Nat} {e : TypeId} {os : Array Obj} {cur : Array Value} {ts : List α} (hl : ts.length = n) (hbase : base ≤ g) (hb : w.heap[g]? = some (.cells cur e (0, 0)))
    (h1 : n ≤ cap) (h2 : cap ≤ maxLen) (h3 : cur.size = cap * 1) :
    (sortWorld enc w g 0 m ts.toArray os).ownsRow base e 1 (.slice (some ⟨g, 0, none⟩) n cap) n (ts.map enc) := by
  have hg : g < w.heap.size := (Array.getElem?_eq_some_iff.1 hb).1
  have hh : (sortWorld enc w g 0 m ts.toArray os).heap[g]? = some (.cells (putCells enc 0 ts.toArray cur) e (0, 0)) := by
    unfold sortWorld
    rw [heap_grow_old _ _ (by simpa using hg)]
    simp [putRow, mapBlock, Go.Sort.ahead, Array.getElem?_modify, hb, onCells]
  have ht : (putCells enc 0 ts.toArray cur).toList.take n = ts.map enc := by
    subst hl
    apply List.ext_getElem?
    intro j
    by_cases hj : j < ts.length
    · rw [List.getElem?_take_of_lt hj, Array.getElem?_toList]
      simp [putCells, hj, show j < cur.size by omega]
    · rw [List.getElem?_take_eq_none (by omega), List.getElem?_eq_none (by simp; omega)]
  exact ⟨by simp [hl], .inr ⟨g, cap, _, rfl, hbase, hh, h1, h2, by simp [putCells, h3], by rw [Nat.mul_one]; exact ht⟩⟩
end
def lexP (a b c d : Int) : Prop := a < c ∨ (a = c ∧ b < d)
theorem cmp2_neg (a b c d : Int) : cmp2 a b c d < 0 ↔ lexP a b c d := by
  unfold cmp2 cmp1 lexP
  by_cases h1 : a < c
  · simp [h1]
  · by_cases h2 : c < a
    · simp [h1, h2]; omega
    · have : a = c := by omega
      by_cases h3 : b < d
      · simp [h3, this]
      · by_cases h4 : d < b
        · simp [h1, h2, h3, h4]
        · simp [h1, h2, h3, h4]
def k0 (r : Rw) : Int := r.M.getD 0 0
def k1 (r : Rw) : Int := r.M.getD 1 0
def cfR (x y : Rw) : Int := cmp2 (k0 x) (k1 x) (k0 y) (k1 y)
theorem two_form {M : List Int} (h : M.length = 2) : M = [M.getD 0 0, M.getD 1 0] := by
  match M, h with
  | [a, b], _ => rfl
set_option maxRecDepth 100000 in
theorem sort_rows (B g c : Nat) (Rs : List Rw) (w : World) (h : RowsR w B (.slice (some ⟨g, 0, none⟩) Rs.length c) Rs) (hq : ∀ r ∈ Rs, r.M.length = 2) (h1 : 0 < Rs.length) (hn : Rs.length ≤ 1000) :
    Calls Try.prog 94 #[.slice (some ⟨g, 0, none⟩) Rs.length c, .func (.func 95) #[] #[]] w fun e w' => e = .returned (.tuple #[]) ∧
      ∃ Qs : List Rw, Qs.Perm Rs ∧ (∀ i j (hi : i < j) (hj : j < Qs.length), ¬ lexP (k0 Qs[j]) (k1 Qs[j]) (k0 Qs[i]) (k1 Qs[i])) ∧ RowsR w' B (.slice (some ⟨g, 0, none⟩) Rs.length c) Qs ∧ w.grownBy w' (some g) := by
  have eg : ∀ args w, (callFunc 95 args).run Try.prog w = .ok (.enter 95 args) w := enters_of Try.func95 (by kernel_rfl) rfl
  haveI : Inhabited {r : Rw // r ∈ Rs} := ⟨⟨Rs[0], List.getElem_mem h1⟩⟩
  have hlt : g < w.heap.size := (h.out.lt g rfl).2
  obtain ⟨enc, he⟩ : ∃ enc : {r : Rw // r ∈ Rs} → Value, enc = fun x => hdr x.1 := ⟨_, rfl⟩
  obtain ⟨cf, hcf⟩ : ∃ cf : {r : Rw // r ∈ Rs} → {r : Rw // r ∈ Rs} → Int, cf = fun x y => cfR x.1 y.1 := ⟨_, rfl⟩
  have hcell : ∀ x : {r : Rw // r ∈ Rs}, w.cell? ⟨x.1.g, 0, none⟩ = some (.int .i64 (k0 x.1)) ∧ w.cell? ⟨x.1.g, 1, none⟩ = some (.int .i64 (k1 x.1)) := fun x => by
    have hr := h.row x.1 x.2
    have hl := hq x.1 x.2
    have hM := two_form hl
    constructor
    · rw [hr.cellAt (g := x.1.g) 0 (by omega), hM]; rfl
    · rw [hr.cellAt (g := x.1.g) 1 (by omega), hM]; rfl
  have hcmp : CmpLays1 Try.prog 95 #[] enc cf g 0 Rs.attach.toArray.size w := fun m os dk hs x y => by
    have hg := grown_s enc (w := w) (g := g) (n := m) (os := os) dk
    have hx : some x.1.g ≠ some g := fun e => h.far x.1 x.2 (by rw [e]; rfl)
    have hy : some y.1.g ≠ some g := fun e => h.far y.1 y.2 (by rw [e]; rfl)
    have q := cmp_row x.1.g y.1.g x.1.cap y.1.cap (k0 x.1) (k1 x.1) (k0 y.1) (k1 y.1) (sortWorld enc w g 0 m dk os) (hg.cell (hcell x).1 hx) (hg.cell (hcell x).2 hx) (hg.cell (hcell y).1 hy) (hg.cell (hcell y).2 hy)
    have ex : enc x = .slice (some ⟨x.1.g, 0, none⟩) 2 x.1.cap := by rw [he]; unfold hdr; simp only [hq x.1 x.2]
    have ey : enc y = .slice (some ⟨y.1.g, 0, none⟩) 2 y.1.cap := by rw [he]; unfold hdr; simp only [hq y.1 y.2]
    rw [ex, ey]
    refine q.mono fun e w' ⟨h1, h2⟩ => ⟨by rw [h1, hcf]; rfl, 0, #[], ?_⟩
    rw [h2, grow_empty]; rfl
  have hlto : ∀ x y, ltOf cf x y = true ↔ lexP (k0 x.1) (k1 x.1) (k0 y.1) (k1 y.1) := fun x y => by
    unfold ltOf
    rw [hcf, decide_eq_true_iff]
    exact cmp2_neg _ _ _ _
  have hno : ∀ x y, ltOf cf x y = false ↔ ¬ lexP (k0 x.1) (k1 x.1) (k0 y.1) (k1 y.1) := fun x y => by rw [← hlto, Bool.not_eq_true]
  have hswo : Go.Sort.SWO (ltOf cf) := {
    irrefl := fun x => by rw [hno]; unfold lexP; omega
    trans := fun x y z a b => by rw [hlto] at *; unfold lexP at *; omega
    ntrans := fun x y z a b => by rw [hno] at *; unfold lexP at *; omega }
  rcases h.out.2 with ⟨hv, _⟩ | ⟨g', cap', cur, hv, hB, hg, hn1, hc, hsz, ht⟩
  · cases hv
  simp only [Value.slice.injEq, Option.some.injEq, Addr.mk.injEq, and_true, true_and] at hv
  obtain ⟨rfl, rfl⟩ := hv
  have hmap : Rs.attach.map enc = Rs.map hdr := by
    rw [he]
    rw [show (fun x : {r : Rw // r ∈ Rs} => hdr x.1) = hdr ∘ Subtype.val from rfl, ← List.map_map, List.attach_map_subtype_val]
  have hH : Go.Sort.Holds enc w g 0 Rs.attach.toArray := holds_g enc hg (by
    rw [List.length_attach, hmap]
    rw [Nat.mul_one] at ht
    exact ht)
  have hcon := Any.slices_SortFunc Try.laysSort1 enc (fun x => by rw [he]; rfl) cf hswo 95 #[] g 0 c Rs.attach.toArray w eg hcmp hH hlt (by simp; omega)
  change Calls Try.prog 94 _ _ _ at hcon
  have hda : Rs.attach.toArray.size = Rs.length := by simp
  rw [hda] at hcon
  refine hcon.mono ?_
  rintro e w' ⟨rfl, d', m, os, ⟨hp1, _, hp2⟩, hs, rfl⟩
  have hds : d'.size = Rs.length := by rw [hp1]; simp
  have hperm : d'.toList.Perm Rs.attach := by
    have e1 : (d'.extract 0 Rs.length).toList = d'.toList := by rw [← hds, Array.extract_size]
    have e2 : (Rs.attach.toArray.extract 0 Rs.length).toList = Rs.attach := by
      rw [← hda, Array.extract_size]
    rw [e1, e2] at hp2
    exact hp2
  have hQ : (d'.toList.map Subtype.val).Perm Rs := by
    have := hperm.map Subtype.val
    rwa [List.attach_map_subtype_val] at this
  have hgr := grown_s enc (w := w) (g := g) (n := m) (os := os) d'
  have hin : ∀ r, r ∈ d'.toList.map Subtype.val → r ∈ Rs := fun r hr => hQ.mem_iff.1 hr
  have hql : (d'.toList.map Subtype.val).length = Rs.length := by simpa using hds
  refine ⟨rfl, d'.toList.map Subtype.val, hQ, ?_, ⟨?_, ?_, ?_, ?_⟩, hgr⟩
  · intro i j hi hj
    have hj' : j < d'.size := by simpa using hj
    have := (hno _ _).1 (hs i j (Nat.zero_le _) hi (by rw [← hds]; exact hj'))
    have gj : (d'.toList.map Subtype.val)[j] = (d'[j]!).1 := by simp [hj']
    have gi : (d'.toList.map Subtype.val)[i]'(by omega) = (d'[i]!).1 := by simp [show i < d'.size by omega]
    rw [gj, gi]
    exact this
  · have := owns_s enc (w := w) (base := B) (g := g) (cap := c) (n := Rs.length) (m := m) (os := os) (ts := d'.toList) (by simpa using hds) hB hg hn1 hc hsz
    rw [hql]
    have e3 : (d'.toList.map Subtype.val).map hdr = d'.toList.map enc := by rw [he, List.map_map]; rfl
    rw [e3]
    simpa using this
  · exact fun r hr => (h.row r (hin r hr)).kept hgr (.inr fun e => h.far r (hin r hr) (by rw [hdr_own] at e; exact e.symm))
  · exact fun r hr => h.far r (hin r hr)
  · exact (hQ.map Rw.g).nodup_iff.2 h.nodup
end Go.Proofs.Ytieekeodbflgfaa
