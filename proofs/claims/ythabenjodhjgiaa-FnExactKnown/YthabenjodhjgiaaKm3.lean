/- Contracts: a word is told to all that may come next. -/
import Derived.Test.YthabenjodhjgiaaKm2
namespace Go.Proofs.Ythabenjodhjgiaa
namespace Pg
open Go.ChangeShapes Go.WideShapes Go.ChangeAt Go.RowKit St Wd

/-- A word for local j, told to all that may come behind step i. -/
def tellK (code : List Tx.Ins) (i : Nat) (m : Kw) (j : Nat) (x : Int) : Kw := fun t s => if s = j ∧ nxB code i t = true then joO (m t s) x else m t s
def partK (l : List Int) (q : Nat) (m : Kw) (j : Nat) (x : Int) : Kw := fun t s => if s = j ∧ ((t : Int) ∈ l.take q) then joO (m t s) x else m t s
theorem partK_step {l : List Int} (hr : Rise l) {q : Nat} (hq : q < l.length) {tn : Nat} (ht : l[q] = (tn : Int)) (m : Kw) (j : Nat) (x : Int) {y : Int} (hy : joO (partK l q m j x tn j) x = some y) :
    setK (partK l q m j x) tn j y = partK l (q + 1) m j x := by
  have hnot : (tn : Int) ∉ l.take q := fun hm => by
    obtain ⟨p, hp, e⟩ := List.getElem_of_mem hm
    have hpq : p < q := by simp at hp; omega
    rw [List.getElem_take] at e
    have := List.pairwise_iff_getElem.1 hr p q (by omega) hq hpq
    rw [e, ht] at this
    omega
  have hp0 : partK l q m j x tn j = m tn j := by unfold partK; simp [hnot]
  rw [hp0] at hy
  funext t s
  unfold setK
  by_cases e : t = tn ∧ s = j
  · obtain ⟨rfl, rfl⟩ := e
    rw [if_pos ⟨rfl, rfl⟩]
    unfold partK
    have : (t : Int) ∈ l.take (q + 1) := by rw [← ht]; exact List.mem_take_iff_getElem.2 ⟨q, by omega, rfl⟩
    simp [this, hy]
  · rw [if_neg e]
    unfold partK
    by_cases hs : s = j
    · have htn : t ≠ tn := fun h => e ⟨h, hs⟩
      have : ((t : Int) ∈ l.take (q + 1)) ↔ ((t : Int) ∈ l.take q) := by
        rw [List.take_succ_eq_append_getElem hq, List.mem_append, List.mem_singleton, ht]
        constructor
        · rintro (h | h)
          · exact h
          · exact absurd (by omega) htn
        · exact .inl
      simp only [hs, true_and, this]
    · simp [hs]
theorem partK_end {code : List Tx.Ins} (hok : Lay.codeOk code = true) (i : Nat) (m : Kw) (j : Nat) (x : Int) : partK (risL (nxB code i) 40) (risL (nxB code i) 40).length m j x = tellK code i m j x := by
  funext t s
  unfold partK tellK
  rw [List.take_length]
  have : ((t : Int) ∈ risL (nxB code i) 40) ↔ nxB code i t = true := by
    rw [risL_mem]
    constructor
    · rintro ⟨k, _, h, e⟩
      have : t = k := by omega
      rw [this]; exact h
    · intro h
      have h' := h
      unfold nxB at h'
      simp only [Bool.and_eq_true, decide_eq_true_eq] at h'
      have := (Lay.ok_len hok).2
      exact ⟨t, by omega, h, rfl⟩
  simp only [this]
theorem partK_zero (l : List Int) (m : Kw) (j : Nat) (x : Int) : partK l 0 m j x = m := by
  funext t s
  simp [partK]
theorem gb_trans {u v w : World} {b : Nat} (h : u.grownBy v (some b)) (k : v.grownBy w (some b)) : u.grownBy w (some b) := h.andThen k (fun _ hj => .inr hj)
theorem Cells.gb {u v : World} {k b : Nat} {vs : List Value} (h : Cells u k vs) (hg : u.grownBy v (some b)) (hne : k ≠ b) (hk : k < u.heap.size) : Cells v k vs := fun i x hx => by
  obtain ⟨h1, h2⟩ := h i x hx
  have hbk := hg.block k hk (by simpa using hne)
  exact ⟨(World.cell?_of_block (w := u) hbk).trans h1, (World.frozen?_of_block (w := u) hbk).trans h2⟩
theorem irow_gb {u v : World} {k b : Nat} {l : List Int} (h : IRow u k 0 l) (hg : u.grownBy v (some b)) (hne : k ≠ b) (hk : k < u.heap.size) : IRow v k 0 l := fun i x hx => by
  have hbk := hg.block k hk (by simpa using hne)
  exact (World.cell?_of_block (w := u) hbk).trans (h i x hx)
theorem row_gb {u v : World} {k b : Nat} {l : List Tx.Ins} (h : Row u k 0 l) (hg : u.grownBy v (some b)) (hne : k ≠ b) (hk : k < u.heap.size) : Row v k 0 l := fun i x hx => by
  have hbk := hg.block k hk (by simpa using hne)
  obtain ⟨h1, h2, h3⟩ := h i x hx
  exact ⟨(World.cell?_of_block (w := u) hbk).trans h1, (World.cell?_of_block (w := u) hbk).trans h2, (World.cell?_of_block (w := u) hbk).trans h3⟩
set_option maxRecDepth 100000 in
set_option maxHeartbeats 1000000 in
theorem tell_at (g cap L : Nat) (a b c : Nat) (P : Nat → Bool) (code : List Tx.Ins) (hok : Lay.codeOk code = true) (k : Nat) (hk : k < code.length) (j : Nat) (hj : j < 8) (x : Int) (h1 : -9223372036854775808 ≤ x) (h2 : x ≤ 9223372036854775807)
    (w : World) (hrow : Row w g 0 code) (hL : Cells w L (lrnC (.slice (some ⟨g, 0, none⟩) code.length cap) P a b c)) (hLc : L ≠ c) (m : Kw) (hm : KM w c m) :
    Calls Try.prog 80 #[.pointer (some ⟨L, 0, none⟩), .int .i64 (k : Int), .int .i64 (j : Int), .int .i64 x] w fun e w' => e = .returned (.tuple #[]) ∧ KM w' c (tellK code k m j x) ∧ w.grownBy w' (some c) := by
  obtain ⟨c0, _⟩ := hL 0 _ rfl
  have hLl : L < w.heap.size := cell_lt c0
  have HL : Hid (Cells w L (lrnC (.slice (some ⟨g, 0, none⟩) code.length cap) P a b c)) := hL
  have HE : Hid (partK (risL (nxB code k) 40) (risL (nxB code k) 40).length m j x = tellK code k m j x) := partK_end hok k m j x
  clear hL
  go_enter Try.func80, Try.ntmps80
  go_wp2_with fail
  refine (nextsIn_at g cap code hok k hk w hrow).mono ?_
  rintro e w1 ⟨rfl, hb1⟩
  go_wp2_with fail
  refine (rising_at (nxB code k) w1).mono ?_
  rintro e w2 ⟨v, rfl, hg, hb2⟩
  have hw2 : Below w.heap.size w w2 := below_over hb1 hb2
  have hmem : ∀ q (h : q < (risL (nxB code k) 40).length), ∃ tn : Nat, tn < 40 ∧ (risL (nxB code k) 40)[q] = (tn : Int) := fun q h => by
    obtain ⟨t, ht, _, e⟩ := risL_mem.1 (List.getElem_mem h)
    exact ⟨t, ht, e⟩
  have hrise := risL_rise (nxB code k) 40
  have hlen := risL_len (nxB code k) 40
  generalize risL (nxB code k) 40 = l at *
  have HM : Hid (∀ q (h : q < l.length), ∃ tn : Nat, tn < 40 ∧ l[q] = (tn : Int)) := hmem
  have HR : Hid (Rise l) := hrise
  obtain ⟨gv, cv, rfl, hcv, hgv, hrv⟩ := hg.lst
  have HI : Hid (IRow w2 gv 0 l) := hrv
  have hgvn : w1.heap.size ≤ gv := by
    obtain ⟨g', c', he, h1, _⟩ := hg.gint
    simp at he; omega
  have hcl : c < w.heap.size := hm.lt
  have hLl2 : L < w2.heap.size := Nat.lt_of_lt_of_le hLl hw2.size
  have hne : gv ≠ c := by have := hb1.size; omega
  have hm2 : Hid (KM w2 c m) := hm.on hw2
  have HL2 : Hid (Cells w2 L (lrnC (.slice (some ⟨g, 0, none⟩) code.length cap) P a b c)) := HL.out.on hw2
  have hg2 : w.grownBy w2 (some c) := gb_of hw2 _
  clear hmem hrise hb1 hb2 hg hrv HL c0 hm hrow hw2 hgvn
  go_wp2_with fail
  go_loopw [18] (fun i wr => ∃ q : Nat, q ≤ l.length ∧ i = .int .i64 (q : Int) ∧ Hid (KM wr c (partK l q m j x)) ∧ w2.grownBy wr (some c)) (fun i _ => l.length - (intOf i).toNat)
  case atStart => exact ⟨0, Nat.zero_le _, rfl, by show KM _ _ _; rw [partK_zero]; exact hm2.out, gb_of (Below.refl _ _) _⟩
  case round =>
    obtain ⟨q, hq, rfl, hk1, hgr⟩ := hrel
    by_cases hlt : q < l.length
    · have hqi : (q : Int) < (l.length : Int) := by omega
      obtain ⟨tn, htn, he⟩ := HM.out q hlt
      have HE2 : Hid (l[q] = (tn : Int)) := he
      obtain ⟨e0, _⟩ := (HL2.out.gb hgr hLc hLl2) 43 _ (lrnC_at _ _ _ _ _).2.2
      have i0 := irow_gb HI.out hgr hne hgv q (tn : Int) (by rw [List.getElem?_eq_getElem hlt, he])
      rw [Nat.zero_add] at i0
      clear he
      go_wp2_with fail
      refine (learn_at c (partK l q m j x) tn j htn hj x h1 h2 wr hk1.out).mono ?_
      rintro e w3 ⟨y, hy, rfl, hk3, hg3⟩
      have HK : Hid (KM w3 c (partK l (q + 1) m j x)) := by
        show KM _ _ _
        rw [← partK_step HR.out hlt HE2.out m j x hy]
        exact hk3
      clear hy hk3
      go_wp2
      go_roundw
      case rel => exact ⟨q + 1, by omega, by go_num, HK.out, gb_trans hgr hg3⟩
      case measure => simp [intOf]; omega
    · obtain rfl : q = l.length := by omega
      have HK : Hid (KM wr c (tellK code k m j x)) := by show KM _ _ _; rw [← HE.out]; exact hk1.out
      clear hk1 HE
      go_wp2
      refine bodyPost_end (results_none rfl _ _ _) rfl ?_
      exact ⟨rfl, HK.out, gb_trans hg2 hgr⟩
end Pg
end Go.Proofs.Ythabenjodhjgiaa
