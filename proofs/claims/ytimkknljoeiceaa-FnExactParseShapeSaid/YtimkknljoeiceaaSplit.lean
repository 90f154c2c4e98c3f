/-
  Walks for splitting: spec.SplitAny, impl.byteSet, impl.SplitAny, spec.SplitLines, impl.SplitLines and their laws.
-/
import Derived.Test.YtimkknljoeiceaaStrs
import Derived.Test.YtimkknljoeiceaaPad
import Derived.OwnWalk
import Derived.Lib.AsciiSet
import Derived.Deep.WholeRow
namespace Go.Proofs.Ytimkknljoeiceaa
open Go.RowKit

/-- Does the byte c occur in b? -/
def occurs (b : ByteArray) (c : UInt8) : Bool := b.data.toList.contains c
/-- What has been split off after i bytes, and where the rest begins. -/
def cuts (s b : ByteArray) : Nat → List ByteArray × Nat
  | 0 => ([], 0)
  | i + 1 => if h : i < s.size then (if occurs b s[i] then ((cuts s b i).1 ++ [s.extract (cuts s b i).2 i], i + 1) else cuts s b i) else cuts s b i
def splitB (s b : ByteArray) : List ByteArray := (cuts s b s.size).1 ++ [s.extract (cuts s b s.size).2 s.size]

theorem cuts_yes {s b : ByteArray} {i : Nat} (h : i < s.size) (ho : occurs b s[i] = true) : cuts s b (i + 1) = ((cuts s b i).1 ++ [s.extract (cuts s b i).2 i], i + 1) := by
  simp [cuts, h, ho]
theorem cuts_no {s b : ByteArray} {i : Nat} (h : i < s.size) (ho : occurs b s[i] = false) : cuts s b (i + 1) = cuts s b i := by
  simp [cuts, h, ho]
theorem cuts_le (s b : ByteArray) (i : Nat) : (cuts s b i).2 ≤ i ∧ (cuts s b i).1.length ≤ i := by
  induction i with
  | zero => simp [cuts]
  | succ i ih =>
    simp only [cuts]
    split
    · split
      · simp; omega
      · omega
    · omega
theorem occurs_true {b : ByteArray} {c : UInt8} {j : Nat} (hj : j < b.size) (h : b[j] = c) : occurs b c = true := by
  have : c ∈ b.data.toList := h ▸ mem_at hj
  simpa [occurs] using this
theorem occurs_false {b : ByteArray} {c : UInt8} (h : ∀ j (hj : j < b.size), b[j] ≠ c) : occurs b c = false := by
  rw [occurs, List.contains_eq_mem, decide_eq_false_iff_not]
  intro hm
  obtain ⟨k, hk, e⟩ := at_mem hm
  exact h k hk e

theorem info_str : (Try.prog.info? 9).map (fun i => (i.zero, i.size, i.bytes)) = some (some (.string ⟨#[]⟩), 1, 16) := by kernel_rfl

/-- The state after k bytes. -/
def Cut (s b : ByteArray) (k : Nat) (C : List ByteArray) (f : Nat) : Prop := cuts s b k = (C, f) ∧ f ≤ k ∧ C.length ≤ k
theorem Cut.zero (s b : ByteArray) : Cut s b 0 [] 0 := ⟨rfl, Nat.le_refl _, Nat.le_refl _⟩
theorem Cut.yes {s b : ByteArray} {k f : Nat} {C : List ByteArray} (h : Cut s b k C f) (hk : k < s.size) (ho : occurs b s[k] = true) : Cut s b (k + 1) (C ++ [s.extract f k]) (k + 1) := by
  refine ⟨by rw [cuts_yes hk ho, h.1], Nat.le_refl _, ?_⟩
  have := h.2.2
  simp; omega
theorem Cut.no {s b : ByteArray} {k f : Nat} {C : List ByteArray} (h : Cut s b k C f) (hk : k < s.size) (ho : occurs b s[k] = false) : Cut s b (k + 1) C f :=
  ⟨by rw [cuts_no hk ho, h.1], by have := h.2.1; omega, by have := h.2.2; omega⟩
theorem Cut.done {s b : ByteArray} {k f : Nat} {C : List ByteArray} (h : Cut s b k C f) (hk : k ≤ s.size) (hn : ¬ k < s.size) : splitB s b = C ++ [s.extract f s.size] := by
  obtain rfl : k = s.size := by omega
  rw [splitB, h.1]

theorem below_drewN {B : Nat} {a w : World} (h : Below B a w) (n : Nat) : Below B a (w.drewN n) := ⟨h.os, h.tape, h.output, h.size, h.block⟩
theorem own_drewN {w : World} {B : Nat} {e : TypeId} {size : Nat} {v : Value} {n : Nat} {xs : List Value} (h : w.ownsRow B e size v n xs) (d : Nat) : (w.drewN d).ownsRow B e size v n xs := h

/-- What an append of one string to an owned slice leaves. -/
theorem app_one {w w1 w2 : World} {B : Nat} {e : TypeId} {v v' : Value} {C : List ByteArray} {x : ByteArray} (hbe : Below B w w1) (hBw : B ≤ w1.heap.size) (hown : w1.ownsRow B e 1 v C.length (C.map Value.string))
    (hown' : w2.ownsRow B e 1 v' (C.length + 1) (C.map Value.string ++ [.string x])) (o : Obj) (hg : (w1.alloc o).grownBy w2 v.ownBlock) :
    w2.ownsRow B e 1 v' (C ++ [x]).length ((C ++ [x]).map Value.string) ∧ Below B w w2 :=
  ⟨by simpa using hown', (hbe.alloc hBw o).grown hg (by simp; omega) (fun k hk => (hown.lt k hk).1)⟩

set_option maxRecDepth 100000 in
set_option maxHeartbeats 1600000 in
theorem spec_split (s b : ByteArray) (w : World) (hs : s.size ≤ 1048576) (hb : b.size ≤ 1048576) :
    Calls Try.prog 92 #[.string s, .string b] w fun e w' => ∃ v, e = .returned v ∧ w'.ownsRow w.heap.size 9 1 v (splitB s b).length ((splitB s b).map Value.string) ∧ Below w.heap.size w w' := by
  obtain ⟨i0, hi, hz0, hz1, hz2⟩ := info_parts info_str
  go_enter Try.func92, Try.ntmps92
  go_wp2_with fail
  go_loopw [5, 6, 7] (fun o f i wr => ∃ (k g : Nat) (C : List ByteArray), k ≤ s.size ∧ i = .int .i64 k ∧ f = .int .i64 g ∧ Hid (Cut s b k C g) ∧ wr.ownsRow w.heap.size 9 1 o C.length (C.map Value.string) ∧ Below w.heap.size w wr) (fun _ _ i _ => s.size - (intOf i).toNat)
  case atStart => exact ⟨0, 0, [], Nat.zero_le _, rfl, rfl, Cut.zero s b, World.ownsRow_lit w #[] 0 (Nat.le_refl _) (by decide) rfl, (Below.refl _ _).alloc (Nat.le_refl _) _⟩
  case round =>
    obtain ⟨wo, rfl⟩ : ∃ wo : World, wo = wr := ⟨_, rfl⟩
    obtain ⟨k, g, C, hk, rfl, rfl, HC, hown, hbe⟩ := hrel
    have hf1 := HC.out.2.1
    have hf2 := HC.out.2.2
    by_cases hlt : k < s.size
    · go_wp2_with fail
      go_loopw [5, 6, 8] (fun o f j wi => ∃ m d : Nat, m ≤ b.size ∧ j = .int .i64 m ∧ wi = wo.drewN d ∧ f = .int .i64 g ∧ wo.ownsRow w.heap.size 9 1 o C.length (C.map Value.string) ∧ Hid (∀ q (hq : q < b.size), q < m → b[q] ≠ s[k])) (fun _ _ j _ => b.size - (intOf j).toNat)
      case atStart => exact ⟨0, 0, Nat.zero_le _, rfl, rfl, rfl, hown, fun q hq h => by omega⟩
      case round =>
        clear hown
        obtain ⟨m, d, hm, rfl, rfl, rfl, hown, HN⟩ := hrel
        by_cases hmt : m < b.size
        · by_cases he : b[m] = s[k]
          · have HO := Lib.hid (occurs_true hmt he)
            have hq : ((s[k].toNat : Int) == (b[m].toNat : Int)) = true := by rw [he]; simp
            clear he
            go_wp2_with fail
            go_quiet (fail)
            go_wp2_with (at_builtin; refine wpList_append_own _ rfl _ _ 88 rfl w.heap.size 9 i0 (.string ⟨#[]⟩) 1 16 Try.underlying88 hi hz0 hz1 hz2 rfl (by decide) _ _ _ rfl (hown.alloc _) ⟨wo.heap.size, 0, none⟩ 1 1 [.string (s.extract g k)] rfl rfl ?d1 ?d2 ?d3 ?d4 ?d5 ?_)
            case d1 => exact cell_one_new _ _ _
            case d2 => intro u hu; simp at hu; subst hu; rfl
            case d3 => unfold maxLen; omega
            case d4 => omega
            case d5 => have := hbe.size; simp; omega
            intro v' w1 hown' hgrow _
            have R := Lib.hid (app_one (below_drewN hbe (d + nq)) hbe.size (own_drewN hown _) hown' _ hgrow)
            have HD := Lib.hid (HC.out.yes hlt HO.out)
            clear hown' hgrow hown
            go_wp2_with fail
            exact ⟨⟨k + 1, k + 1, _, by omega, by go_num, by go_num, HD, R.out.1, R.out.2⟩, by simp [intOf]; omega⟩
          · have HQ : Hid (∀ q (hq : q < b.size), q < m + 1 → b[q] ≠ s[k]) := fun q hq h => by
              by_cases e : q = m
              · subst e; exact he
              · exact HN.out q hq (by omega)
            have hq : ((s[k].toNat : Int) == (b[m].toNat : Int)) = false := by
              rw [beq_eq_false_iff_ne]
              intro h
              apply he
              apply UInt8.toNat_inj.1
              omega
            clear he
            go_wp2_with fail
            go_quiet (fail)
            go_wp2_with fail
            go_roundw
            case rel => exact ⟨m + 1, _, by omega, by go_num, rfl, rfl, hown, HQ⟩
            case measure => simp [intOf]; omega
        · have HO := Lib.hid (occurs_false (b := b) (c := s[k]) fun q hq => HN.out q hq (by omega))
          go_wp2_with fail
          go_roundw
          case rel => exact ⟨k + 1, g, C, by omega, by go_num, rfl, HC.out.no hlt HO.out, own_drewN hown _, below_drewN hbe _⟩
          case measure => simp [intOf]; omega
    · go_wp2_with (at_builtin; refine wpList_append_own _ rfl _ _ 88 rfl w.heap.size 9 i0 (.string ⟨#[]⟩) 1 16 Try.underlying88 hi hz0 hz1 hz2 rfl (by decide) _ _ _ rfl (hown.alloc _) ⟨wo.heap.size, 0, none⟩ 1 1 [.string (s.extract g s.size)] rfl rfl ?c1 ?c2 ?c3 ?c4 ?c5 ?_)
      case c1 => exact cell_one_new _ _ _
      case c2 => intro u hu; simp at hu; subst hu; rfl
      case c3 => unfold maxLen; omega
      case c4 => omega
      case c5 => have := hbe.size; simp; omega
      intro v' w1 hown' hgrow _
      have R := Lib.hid (app_one hbe hbe.size hown hown' _ hgrow)
      have HD := Lib.hid (HC.out.done hk hlt)
      clear hown' hgrow hown
      go_wp2_with fail
      go_ret
      exact ⟨_, rfl, by rw [HD.out]; exact R.out.1, R.out.2⟩
theorem below_row {B : Nat} {a w : World} (h : Below B a w) {g : Nat} (hg : B ≤ g) (cs : Array Value) : Below B a (w.setRow g cs) :=
  h.trans ⟨rfl, rfl, rfl, by simp, fun k hk => setRow_other w g k cs (by omega)⟩
theorem zero_set : (Try.prog.info? 132).map (fun i => (i.zero, i.size)) = some (some (.agg (Array.replicate 256 (.bool false))), 256) := by kernel_rfl

set_option maxRecDepth 100000 in
set_option maxHeartbeats 1600000 in
/-- The set of the bytes of b. -/
theorem byteSet_any (b : ByteArray) (w : World) (hb : b.size ≤ 1048576) :
    Calls Try.prog 142 #[.string b] w fun e w' => e = .returned (.agg (Lib.setCells b.data.toList)) ∧ Below w.heap.size w w' := by
  obtain ⟨hz, hi⟩ := zero_of_info zero_set
  obtain ⟨Z, hZ⟩ : ∃ Z, Z = Lib.setCells [] := ⟨_, rfl⟩
  rw [← Lib.setCells_nil, ← hZ] at hz
  have hZs : Z.size = 256 := by rw [hZ, Lib.setCells_size]
  have HZ := Lib.hid hZ; clear hZ
  have HI := Lib.hid hi; clear hi
  have HS := Lib.hid hZs; clear hZs
  go_enter Try.func142, Try.ntmps142
  go_wp2_with fail
  go_loopw [4] (fun i wr => ∃ k : Nat, k ≤ b.size ∧ i = .int .i64 k ∧ wr = (w.alloc (.cells Z 132)).alloc (.cells (Lib.setCells (b.data.toList.take k)) 132)) (fun i _ => b.size - (intOf i).toNat)
  case atStart => exact ⟨0, Nat.zero_le _, rfl, by rw [List.take_zero, ← HZ.out]⟩
  case round =>
    obtain ⟨k, hk, rfl, rfl⟩ := hrel
    by_cases hlt : k < b.size
    · obtain ⟨x, hx⟩ : ∃ x : UInt8, b[k]'hlt = x := ⟨_, rfl⟩
      have hx256 : (x.toNat : Int) < 256 := by have := UInt8.toNat_lt x; omega
      have hcell := Lib.setCells_at (b.data.toList.take k) x
      have HT : Hid ((Lib.setCells (b.data.toList.take k)).setIfInBounds x.toNat (.bool true) = Lib.setCells (b.data.toList.take (k + 1))) := by
        have hl : k < b.data.toList.length := by rw [data_len]; exact hlt
        have e : b.data.toList.take (k + 1) = b.data.toList.take k ++ [x] := by
          rw [List.take_succ_eq_append_getElem hl, ← hx]; rfl
        show _ = _
        rw [e, Lib.setCells_snoc]
      go_wp2_with fail
      go_roundw
      case rel => exact ⟨k + 1, by omega, by go_num, by rw [← HT.out]⟩
      case measure => simp [intOf]; omega
    · have hall : b.data.toList.take k = b.data.toList := List.take_of_length_le (by rw [data_len]; omega)
      rw [hall]
      clear hall
      have hsz := Lib.setCells_size b.data.toList
      have hone := Lib.setCells_one b.data.toList
      obtain ⟨S, hS⟩ : ∃ S, S = Lib.setCells b.data.toList := ⟨_, rfl⟩
      rw [← hS] at hsz hone ⊢
      have HS1 := Lib.hid hsz; clear hsz
      have HS2 := Lib.hid hone; clear hone
      have HS3 := Lib.hid hS; clear hS
      go_wp2_with (first
        | refine wpList_load_row rfl 132 _ rfl (w.heap.size + 1) rfl 132 S (0, 0) _ (heap_alloc2_new w _ _) Try.underlying132 rfl (by rw [HS1.out]; exact HI.out) ?_
        | refine wpList_store_row rfl 132 _ _ rfl w.heap.size S rfl rfl 132 Z (heap_alloc2_old w _ _) (by rw [HS1.out]; exact HI.out) (by rw [HS1.out, HS.out]) HS2.out ?_)
      refine bodyPost_ret (v := .agg S) (results_cell_row rfl _ _ w.heap.size 132 S (0, 0) _ rfl (setRow_heap _ _ Z S 132 _ (heap_alloc2_old w _ _)) Try.underlying132 rfl (by rw [HS1.out]; exact HI.out)) rfl ⟨by rw [HS3.out], ?_⟩
      exact below_row (((Below.refl _ _).alloc (Nat.le_refl _) _).alloc (by simp) _) (Nat.le_refl _) _
theorem own_mono {w : World} {B B' : Nat} {e : TypeId} {size : Nat} {v : Value} {n : Nat} {xs : List Value} (h : w.ownsRow B' e size v n xs) (hB : B ≤ B') : w.ownsRow B e size v n xs := by
  refine ⟨h.1, ?_⟩
  rcases h.2 with h2 | ⟨g, cap, cur, hv, hg, r⟩
  · exact Or.inl h2
  · exact Or.inr ⟨g, cap, cur, hv, Nat.le_trans hB hg, r⟩

set_option maxRecDepth 100000 in
set_option maxHeartbeats 1600000 in
theorem impl_split (s b : ByteArray) (w : World) (hs : s.size ≤ 1048576) (hb : b.size ≤ 1048576) :
    Calls Try.prog 93 #[.string s, .string b] w fun e w' => ∃ v, e = .returned v ∧ w'.ownsRow w.heap.size 9 1 v (splitB s b).length ((splitB s b).map Value.string) ∧ Below w.heap.size w w' := by
  obtain ⟨i0, hi, hz0, hz1, hz2⟩ := info_parts info_str
  obtain ⟨hz, hi36⟩ := zero_of_info zero_set
  obtain ⟨Z, hZ⟩ : ∃ Z, Z = Lib.setCells [] := ⟨_, rfl⟩
  rw [← Lib.setCells_nil, ← hZ] at hz
  have hZs : Z.size = 256 := by rw [hZ, Lib.setCells_size]
  clear hZ
  have HI := Lib.hid hi36; clear hi36
  have HS := Lib.hid hZs; clear hZs
  obtain ⟨S, hS⟩ : ∃ S, S = Lib.setCells b.data.toList := ⟨_, rfl⟩
  have HSs := Lib.hid (Lib.setCells_size b.data.toList)
  have HSo := Lib.hid (Lib.setCells_one b.data.toList)
  have HSa : Hid (∀ x : UInt8, S[x.toNat]? = some (.bool (occurs b x))) := fun x => by rw [hS]; exact Lib.setCells_at _ x
  rw [← hS] at HSs HSo
  have HSe := Lib.hid hS; clear hS
  go_enter Try.func93, Try.ntmps93
  go_wp2_with fail
  refine (byteSet_any b _ hb).mono ?_
  rintro e w1 ⟨rfl, hb1⟩
  rw [← HSe.out]
  go_wp2_with (refine wpList_store_row rfl 132 _ _ rfl w1.heap.size S rfl rfl 132 Z (heap_alloc_new w1 _) (by rw [HSs.out]; exact HI.out) (by rw [HSs.out, HS.out]) HSo.out ?_)
  have hset : ((w1.alloc (.cells Z 132)).setRow w1.heap.size S).heap[w1.heap.size]? = some (.cells S 132 (0, 0)) := setRow_heap _ _ Z S 132 _ (heap_alloc_new w1 _)
  have hB0 : Below w.heap.size w ((w1.alloc (.cells Z 132)).setRow w1.heap.size S) := below_row (hb1.alloc hb1.size _) hb1.size _
  have hsz0 : ((w1.alloc (.cells Z 132)).setRow w1.heap.size S).heap.size = w1.heap.size + 1 := by simp
  obtain ⟨W0, hW0⟩ : ∃ W0, W0 = (w1.alloc (.cells Z 132)).setRow w1.heap.size S := ⟨_, rfl⟩
  rw [← hW0] at hset hB0 hsz0 ⊢
  clear hW0
  have hg1 := hb1.size
  have HSet := Lib.hid hset; clear hset
  have hsz1 : w1.heap.size + 1 ≤ W0.heap.size := by omega
  clear hsz0
  go_loopw [6, 7, 8] (fun o f i wr => ∃ (k g : Nat) (C : List ByteArray), k ≤ s.size ∧ i = .int .i64 k ∧ f = .int .i64 g ∧ Hid (Cut s b k C g) ∧ wr.ownsRow (w1.heap.size + 1) 9 1 o C.length (C.map Value.string) ∧ Below (w1.heap.size + 1) W0 wr) (fun _ _ i _ => s.size - (intOf i).toNat)
  case atStart => exact ⟨0, 0, [], Nat.zero_le _, rfl, rfl, Cut.zero s b, World.ownsRow_nil _ _ _ _, Below.refl _ _⟩
  case round =>
    obtain ⟨wo, rfl⟩ : ∃ wo : World, wo = wr := ⟨_, rfl⟩
    obtain ⟨k, g, C, hk, rfl, rfl, HC, hown, hbe⟩ := hrel
    have hf1 := HC.out.2.1
    have hf2 := HC.out.2.2
    by_cases hlt : k < s.size
    · have hx256 : ((s[k]).toNat : Int) < 256 := by have := UInt8.toNat_lt s[k]; omega
      have hc : wo.cell? ⟨w1.heap.size, (s[k]).toNat, none⟩ = some (.bool (occurs b s[k])) :=
        (hbe.cell (p := ⟨w1.heap.size, (s[k]).toNat, none⟩) (Nat.lt_succ_self _)).trans ((cell_of_row _ _ _ S 132 (0, 0) HSet.out).trans (HSa.out _))
      by_cases ho : occurs b s[k] = true
      · rw [ho] at hc
        have HD := Lib.hid (HC.out.yes hlt ho)
        clear ho
        go_wp2_with fail
        refine (clone_any _ _ (by simp; omega)).mono ?_
        rintro e w2 ⟨rfl, hb2⟩
        have hown2 := own_below hown hb2
        have hbe2 := hbe.trans (hb2.mono (by have := hbe.size; omega))
        clear hown hbe hb2 hc
        go_wp2_with (at_builtin; refine wpList_append_own _ rfl _ _ 88 rfl (w1.heap.size + 1) 9 i0 (.string ⟨#[]⟩) 1 16 Try.underlying88 hi hz0 hz1 hz2 rfl (by decide) _ _ _ rfl (hown2.alloc _) ⟨w2.heap.size, 0, none⟩ 1 1 [.string (s.extract g k)] rfl rfl ?d1 ?d2 ?d3 ?d4 ?d5 ?_)
        case d1 => exact cell_one_new _ _ _
        case d2 => intro u hu; simp at hu; subst hu; rfl
        case d3 => unfold maxLen; omega
        case d4 => omega
        case d5 => have := hbe2.size; simp; omega
        intro v' w3 hown' hgrow _
        have R := Lib.hid (app_one hbe2 (by have := hbe2.size; omega) hown2 hown' _ hgrow)
        clear hown' hgrow hown2 hbe2
        go_wp2_with fail
        go_roundw
        case rel => exact ⟨k + 1, k + 1, _, by omega, by go_num, by go_num, HD, R.out.1, R.out.2⟩
        case measure => simp [intOf]; omega
      · have ho' : occurs b s[k] = false := by simpa using ho
        rw [ho'] at hc
        have HD := Lib.hid (HC.out.no hlt ho')
        clear ho ho'
        go_wp2_with fail
        go_roundw
        case rel => exact ⟨k + 1, g, C, by omega, by go_num, rfl, HD, hown, hbe⟩
        case measure => simp [intOf]; omega
    · have HD := Lib.hid (HC.out.done hk hlt)
      go_wp2_with fail
      refine (clone_any _ _ (by simp; omega)).mono ?_
      rintro e w2 ⟨rfl, hb2⟩
      have hown2 := own_below hown hb2
      have hbe2 := hbe.trans (hb2.mono (by have := hbe.size; omega))
      clear hown hbe hb2
      go_wp2_with (at_builtin; refine wpList_append_own _ rfl _ _ 88 rfl (w1.heap.size + 1) 9 i0 (.string ⟨#[]⟩) 1 16 Try.underlying88 hi hz0 hz1 hz2 rfl (by decide) _ _ _ rfl (hown2.alloc _) ⟨w2.heap.size, 0, none⟩ 1 1 [.string (s.extract g s.size)] rfl rfl ?c1 ?c2 ?c3 ?c4 ?c5 ?_)
      case c1 => exact cell_one_new _ _ _
      case c2 => intro u hu; simp at hu; subst hu; rfl
      case c3 => unfold maxLen; omega
      case c4 => omega
      case c5 => have := hbe2.size; simp; omega
      intro v' w3 hown' hgrow _
      have R := Lib.hid (app_one hbe2 (by have := hbe2.size; omega) hown2 hown' _ hgrow)
      clear hown' hgrow hown2 hbe2
      go_wp2_with fail
      go_ret
      exact ⟨_, rfl, by rw [HD.out]; exact own_mono R.out.1 (by omega), hB0.trans (R.out.2.mono (by omega))⟩
theorem splitB_len (s b : ByteArray) : (splitB s b).length ≤ s.size + 1 := by
  have := (cuts_le s b s.size).2
  simp [splitB]; omega
theorem strs_lt {w : World} {B : Nat} {e : TypeId} {A : Option Addr} {c n : Nat} {xs : List Value} (h : w.ownsRow B e 1 (.slice A n c) n xs) : ∀ g, A = some ⟨g, 0, none⟩ → g < w.heap.size := by
  rintro g rfl
  exact (h.lt g rfl).2
theorem strs_below {w w' : World} {A : Option Addr} {L : List ByteArray} (h : Strs w A L) (hl : ∀ g, A = some ⟨g, 0, none⟩ → g < w.heap.size) (hb : Below w.heap.size w w') : Strs w' A L := fun k hk => by
  obtain ⟨g, e, hc⟩ := h k hk
  exact ⟨g, e, (hb.cell (p := ⟨g, k, none⟩) (hl g e)).trans hc⟩
theorem strs_of {w : World} {B : Nat} {e : TypeId} {A : Option Addr} {n c : Nat} {L : List ByteArray} (h : w.ownsRow B e 1 (.slice A n c) n (L.map Value.string)) : Strs w A L := by
  obtain ⟨_, A', c', hv, st⟩ := own_strs h
  cases hv
  exact st
theorem own_ne {w w' : World} {B B' : Nat} {e : TypeId} {A A' : Option Addr} {n n' c c' : Nat} {xs xs' : List Value} (h : w.ownsRow B e 1 (.slice A n c) n xs) (h' : w'.ownsRow B' e 1 (.slice A' n' c') n' xs') (hg : ∀ g, A = some ⟨g, 0, none⟩ → g < B') :
    (Value.slice A n c).ownBlock = none ∨ (Value.slice A n c).ownBlock ≠ (Value.slice A' n' c').ownBlock := by
  rcases h.2 with ⟨hv, _⟩ | ⟨g, cap, cur, hv, _⟩
  · cases hv; exact .inl rfl
  · cases hv
    right
    intro e
    have := (h'.lt g e.symm).1
    have := hg g rfl
    omega
theorem strs_drewN {w : World} {A : Option Addr} {L : List ByteArray} (h : Strs w A L) (n : Nat) : Strs (w.drewN n) A L := h

end Go.Proofs.Ytimkknljoeiceaa
