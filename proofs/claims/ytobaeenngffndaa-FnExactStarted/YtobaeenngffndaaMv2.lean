/- Contracts of the laws' own copying of machines. -/
import Derived.Test.YtobaeenngffndaaMv1
namespace Go.Proofs.Ytobaeenngffndaa
namespace Pg
open Go.ChangeShapes Go.WideShapes Go.ChangeAt Go.RowKit St

theorem Cells.g4 {w : World} {k : Nat} {a b c d e : Value} {l : List Value} (h : Cells w k (a :: b :: c :: d :: e :: l)) : w.cell? ⟨k, 4, none⟩ = some e ∧ w.frozen? ⟨k, 4, none⟩ = false := h 4 e rfl
theorem Cells.s4 {w : World} {k : Nat} {a b c d e : Value} {l : List Value} (h : Cells w k (a :: b :: c :: d :: e :: l)) (v : Value) : Cells (w.setCell ⟨k, 4, none⟩ v) k (a :: b :: c :: d :: v :: l) := h.set 4 v
theorem VAt.far {g o i : Nat} {w : World} {x : Vl} (h : VAt w g o x) (hi : i < o ∨ o + 1 < i) (v : Value) : VAt (w.setCell ⟨g, i, none⟩ v) g o x := by
  obtain ⟨h0, h1⟩ := h
  exact ⟨(World.cell?_setCell_other _ _ _ _ (ne_off (by omega))).trans h0, (World.cell?_setCell_other _ _ _ _ (ne_off (by omega))).trans h1⟩
theorem VAt.next {g k : Nat} {w : World} {ms : List Vl} (hk : k < ms.length) (hroom : Room w g (ms.length * 2)) (h : ∀ j x, (ms.take k)[j]? = some x → VAt w g (0 + j * 2) x) :
    ∀ j x, (ms.take (k + 1))[j]? = some x → VAt ((w.setCell ⟨g, k * 2, none⟩ (.int .i64 ms[k].1)).setCell ⟨g, k * 2 + 1, none⟩ (.int .i64 ms[k].2)) g (0 + j * 2) x := by
  intro j x hj
  rw [List.getElem?_take] at hj
  split at hj
  · rename_i hlt
    by_cases e : j = k
    · subst e
      rw [List.getElem?_eq_getElem hk] at hj
      simp at hj
      subst hj
      obtain ⟨⟨x0, h0⟩, _⟩ := hroom (j * 2) (by omega)
      obtain ⟨⟨x1, h1⟩, _⟩ := hroom (j * 2 + 1) (by omega)
      rw [Nat.zero_add]
      refine ⟨?_, ?_⟩
      · rw [World.cell?_setCell_other _ _ _ _ (ne_off (by omega))]
        exact World.cell?_setCell_same _ _ _ h0
      · exact World.cell?_setCell_same _ _ _ ((World.cell?_setCell_other _ _ _ _ (ne_off (by omega))).trans h1)
    · have hx := h j x (by rw [List.getElem?_take, if_pos (by omega)]; exact hj)
      exact ((hx.far (by omega) _).far (by omega) _)
  · simp at hj
theorem OAt.far {f : Bool} {B : Nat} {g o i : Nat} {w : World} {x : Ob} (h : OAt f B w g o x) (hg : g < B) (hi : i < o ∨ o + 1 < i) (v : Value) : OAt f B (w.setCell ⟨g, i, none⟩ v) g o x := by
  obtain ⟨v1, h0, h1, hv⟩ := h
  exact ⟨v1, (World.cell?_setCell_other _ _ _ _ (ne_off (by omega))).trans h0, (World.cell?_setCell_other _ _ _ _ (ne_off (by omega))).trans h1, hv.on (Keep.set w (p := ⟨g, i, none⟩) hg v)⟩
theorem OAt.next {f : Bool} {g k : Nat} {w : World} {ms : List Ob} (hk : k < ms.length) (hroom : Room w g (ms.length * 2)) (h : ∀ j x, (ms.take k)[j]? = some x → OAt f (g + 1) w g (0 + j * 2) x) {v1 : Value} (hv : OV f (g + 1) w v1 ms[k]) :
    ∀ j x, (ms.take (k + 1))[j]? = some x → OAt f (g + 1) ((w.setCell ⟨g, k * 2, none⟩ (.int .i64 ms[k].cls)).setCell ⟨g, k * 2 + 1, none⟩ (v1)) g (0 + j * 2) x := by
  intro j x hj
  rw [List.getElem?_take] at hj
  split at hj
  · rename_i hlt
    by_cases e : j = k
    · subst e
      rw [List.getElem?_eq_getElem hk] at hj
      simp at hj
      subst hj
      obtain ⟨⟨x0, h0⟩, _⟩ := hroom (j * 2) (by omega)
      obtain ⟨⟨x1, h1⟩, _⟩ := hroom (j * 2 + 1) (by omega)
      rw [Nat.zero_add]
      refine ⟨v1, ?_, ?_, hv.on ((Keep.set (B := g + 1) w (p := ⟨g, j * 2, none⟩) (by simp) (.int .i64 ms[j].cls)).trans (Keep.set (B := g + 1) _ (p := ⟨g, j * 2 + 1, none⟩) (by simp) (v1)))⟩
      · rw [World.cell?_setCell_other _ _ _ _ (ne_off (by omega))]
        exact World.cell?_setCell_same _ _ _ h0
      · exact World.cell?_setCell_same _ _ _ ((World.cell?_setCell_other _ _ _ _ (ne_off (by omega))).trans h1)
    · have hx := h j x (by rw [List.getElem?_take, if_pos (by omega)]; exact hj)
      exact ((hx.far (by omega) (by omega) _).far (by omega) (by omega) _)
  · simp at hj
theorem FAt.far {f : Bool} {B : Nat} {g o i : Nat} {w : World} {x : Fr} (h : FAt f B w g o x) (hg : g < B) (hi : i < o ∨ o + 4 < i) (v : Value) : FAt f B (w.setCell ⟨g, i, none⟩ v) g o x := by
  obtain ⟨v1, v2, h0, h1, h2, h3, h4, hv⟩ := h
  exact ⟨v1, v2, (World.cell?_setCell_other _ _ _ _ (ne_off (by omega))).trans h0, (World.cell?_setCell_other _ _ _ _ (ne_off (by omega))).trans h1, (World.cell?_setCell_other _ _ _ _ (ne_off (by omega))).trans h2, (World.cell?_setCell_other _ _ _ _ (ne_off (by omega))).trans h3, (World.cell?_setCell_other _ _ _ _ (ne_off (by omega))).trans h4, hv.on (Keep.set w (p := ⟨g, i, none⟩) hg v)⟩
theorem FAt.next {f : Bool} {g k : Nat} {w : World} {ms : List Fr} (hk : k < ms.length) (hroom : Room w g (ms.length * 5)) (h : ∀ j x, (ms.take k)[j]? = some x → FAt f (g + 1) w g (0 + j * 5) x) {v1 v2 : Value} (hv : FV f (g + 1) w v1 v2 ms[k]) :
    ∀ j x, (ms.take (k + 1))[j]? = some x → FAt f (g + 1) (((((w.setCell ⟨g, k * 5, none⟩ (.int .i64 ms[k].cls)).setCell ⟨g, k * 5 + 1, none⟩ (.int .i64 ms[k].name)).setCell ⟨g, k * 5 + 2, none⟩ (.int .i64 ms[k].pos)).setCell ⟨g, k * 5 + 3, none⟩ (v1)).setCell ⟨g, k * 5 + 4, none⟩ (v2)) g (0 + j * 5) x := by
  intro j x hj
  rw [List.getElem?_take] at hj
  split at hj
  · rename_i hlt
    by_cases e : j = k
    · subst e
      rw [List.getElem?_eq_getElem hk] at hj
      simp at hj
      subst hj
      obtain ⟨⟨x0, h0⟩, _⟩ := hroom (j * 5) (by omega)
      obtain ⟨⟨x1, h1⟩, _⟩ := hroom (j * 5 + 1) (by omega)
      obtain ⟨⟨x2, h2⟩, _⟩ := hroom (j * 5 + 2) (by omega)
      obtain ⟨⟨x3, h3⟩, _⟩ := hroom (j * 5 + 3) (by omega)
      obtain ⟨⟨x4, h4⟩, _⟩ := hroom (j * 5 + 4) (by omega)
      rw [Nat.zero_add]
      refine ⟨v1, v2, ?_, ?_, ?_, ?_, ?_, hv.on (((((Keep.set (B := g + 1) w (p := ⟨g, j * 5, none⟩) (by simp) (.int .i64 ms[j].cls)).trans (Keep.set (B := g + 1) _ (p := ⟨g, j * 5 + 1, none⟩) (by simp) (.int .i64 ms[j].name))).trans (Keep.set (B := g + 1) _ (p := ⟨g, j * 5 + 2, none⟩) (by simp) (.int .i64 ms[j].pos))).trans (Keep.set (B := g + 1) _ (p := ⟨g, j * 5 + 3, none⟩) (by simp) (v1))).trans (Keep.set (B := g + 1) _ (p := ⟨g, j * 5 + 4, none⟩) (by simp) (v2)))⟩
      · rw [World.cell?_setCell_other _ _ _ _ (ne_off (by omega)), World.cell?_setCell_other _ _ _ _ (ne_off (by omega)), World.cell?_setCell_other _ _ _ _ (ne_off (by omega)), World.cell?_setCell_other _ _ _ _ (ne_off (by omega))]
        exact World.cell?_setCell_same _ _ _ h0
      · rw [World.cell?_setCell_other _ _ _ _ (ne_off (by omega)), World.cell?_setCell_other _ _ _ _ (ne_off (by omega)), World.cell?_setCell_other _ _ _ _ (ne_off (by omega))]
        exact World.cell?_setCell_same _ _ _ ((World.cell?_setCell_other _ _ _ _ (ne_off (by omega))).trans h1)
      · rw [World.cell?_setCell_other _ _ _ _ (ne_off (by omega)), World.cell?_setCell_other _ _ _ _ (ne_off (by omega))]
        exact World.cell?_setCell_same _ _ _ ((World.cell?_setCell_other _ _ _ _ (ne_off (by omega))).trans ((World.cell?_setCell_other _ _ _ _ (ne_off (by omega))).trans h2))
      · rw [World.cell?_setCell_other _ _ _ _ (ne_off (by omega))]
        exact World.cell?_setCell_same _ _ _ ((World.cell?_setCell_other _ _ _ _ (ne_off (by omega))).trans ((World.cell?_setCell_other _ _ _ _ (ne_off (by omega))).trans ((World.cell?_setCell_other _ _ _ _ (ne_off (by omega))).trans h3)))
      · exact World.cell?_setCell_same _ _ _ ((World.cell?_setCell_other _ _ _ _ (ne_off (by omega))).trans ((World.cell?_setCell_other _ _ _ _ (ne_off (by omega))).trans ((World.cell?_setCell_other _ _ _ _ (ne_off (by omega))).trans ((World.cell?_setCell_other _ _ _ _ (ne_off (by omega))).trans h4))))
    · have hx := h j x (by rw [List.getElem?_take, if_pos (by omega)]; exact hj)
      exact (((((hx.far (by omega) (by omega) _).far (by omega) (by omega) _).far (by omega) (by omega) _).far (by omega) (by omega) _).far (by omega) (by omega) _)
  · simp at hj
set_option maxHeartbeats 800000 in
theorem toValue (x : Vl) (w : World) :
    Calls Try.prog 92 #[.agg #[.int .i64 x.1, .int .i64 x.2]] w fun e w' => e = .returned (.agg #[.int .i64 x.1, .int .i64 x.2]) ∧ Below w.heap.size w w' := by
  go_enter Try.func92, Try.ntmps92
  go_wp2
  go_returns
  exact ⟨rfl, by go_grown⟩
theorem infoValue : (Try.prog.info? 79).map (fun i => (i.zero, i.size, i.bytes)) = some (some (.agg #[.int .i64 0, .int .i64 0]), 2, 16) := by kernel_rfl
set_option maxRecDepth 100000 in
set_option maxHeartbeats 2000000 in
theorem toValues (ms : List Vl) (a : Option Addr) (cap : Nat) (hs : ms.length ≤ 1048576) (w : World) (hm : SV false 0 w (.slice a ms.length cap) ms) :
    Calls Try.prog 80 #[.slice a ms.length cap] w fun e w' => ∃ v, e = .returned v ∧ SV true w.heap.size w' v ms ∧ Below w.heap.size w w' := by
  obtain ⟨i0, hi, hz0, hz1, hz2⟩ := info_parts infoValue
  have HM : Hid (SV false 0 w (.slice a ms.length cap) ms) := hm
  have hn := hs
  clear hm hs
  go_enter Try.func80, Try.ntmps80
  go_wp2_with (at_make; refine wpList_make_full _ rfl _ _ 55 rfl w.heap.size 79 i0 (.agg #[.int .i64 0, .int .i64 0]) 2 Try.underlying55 hi hz0 hz1 .i64 .i64 _ _ ms.length rfl rfl rfl rfl (by rw [hz2]; omega) (by unfold maxLen; omega) (Nat.le_refl _) ?_; intro w0 hown0 hgrow0)
  have hroom := room_own hown0 (Nat.le_refl _)
  have hsz0 : w.heap.size < w0.heap.size := row_made_lt hown0
  have hb0 : Below w.heap.size w w0 := (Below.refl _ _).grown hgrow0 (Nat.le_refl _) (fun _ h => by simp at h)
  clear hown0 hgrow0
  go_loopw [4] (fun i wr => ∃ k : Nat, k ≤ ms.length ∧ i = .int .i64 k ∧ Hid (Room wr w.heap.size (ms.length * 2)) ∧ Hid (∀ j x, (ms.take k)[j]? = some x → VAt wr w.heap.size (0 + j * 2) x) ∧ w.heap.size < wr.heap.size ∧ Below w.heap.size w wr) (fun i _ => ms.length - (intOf i).toNat)
  case atStart => exact ⟨0, Nat.zero_le _, rfl, hroom, fun j x h => by simp at h, hsz0, hb0⟩
  case round =>
    obtain ⟨k, hk, rfl, hrm, hrw, hsz, hb⟩ := hrel
    by_cases hlt : k < ms.length
    · obtain ⟨b, o, rfl, _, h0, h1⟩ := (SV.on HM.out (Keep.of hb)).get hlt
      obtain ⟨⟨x0, d0⟩, f0⟩ := hrm.out (k * 2) (by omega)
      obtain ⟨⟨x1, d1⟩, f1⟩ := hrm.out (k * 2 + 1) (by omega)
      have HN : Hid (∀ u, Below wr.heap.size wr u → ∀ j x, (ms.take (k + 1))[j]? = some x → VAt ((u.setCell ⟨w.heap.size, k * 2, none⟩ (.int .i64 ms[k].1)).setCell ⟨w.heap.size, k * 2 + 1, none⟩ (.int .i64 ms[k].2)) w.heap.size (0 + j * 2) x) :=
        fun u hu => VAt.next hlt (hrm.out.on hu) (fun j x hj => by
          obtain ⟨g0, g1⟩ := hrw.out j x hj
          have l : w.heap.size < wr.heap.size := hsz
          exact ⟨(hu.cell l).trans g0, (hu.cell l).trans g1⟩)
      clear hrw HM
      generalize ms[k] = m at *
      go_wp2_with fail
      refine (toValue m _).mono ?_
      rintro e w1 ⟨rfl, hb1⟩
      have hw1 : Below w.heap.size w w1 := below_over hb hb1
      have hsz1 : w.heap.size < w1.heap.size := Nat.lt_of_lt_of_le hsz hb1.size
      have l0 : w.heap.size < wr.heap.size := hsz
      have d0' := (hb1.cell l0).trans d0
      have f0' := (hb1.frozen l0).trans f0
      have d1' := (hb1.cell l0).trans d1
      have f1' := (hb1.frozen l0).trans f1
      have HRM : Hid (Room w1 w.heap.size (ms.length * 2)) := hrm.out.on hb1
      have HNX : Hid (∀ j x, (ms.take (k + 1))[j]? = some x → VAt ((w1.setCell ⟨w.heap.size, k * 2, none⟩ (.int .i64 m.1)).setCell ⟨w.heap.size, k * 2 + 1, none⟩ (.int .i64 m.2)) w.heap.size (0 + j * 2) x) := HN.out w1 hb1
      clear d0 d1 f0 f1 h0 h1 hb1 hrm HN hb
      go_wp2
      go_roundw
      case rel => exact ⟨k + 1, by omega, by go_num, ((HRM.out.set _ _).set _ _), HNX.out, by simpa using hsz1, ((hw1.setCell (Nat.le_refl _) _).setCell (Nat.le_refl _) _)⟩
      case measure => simp [intOf]; omega
    · have e : ms.take k = ms := List.take_of_length_le (by omega)
      have HE := hrw.out
      rw [e] at HE
      have HEE : Hid (∀ j x, ms[j]? = some x → VAt wr w.heap.size (0 + j * 2) x) := HE
      clear HE e
      go_wp2
      go_ret
      exact ⟨_, rfl, ⟨_, _, rfl, fun _ h => by simp at h, fun _ => ⟨w.heap.size, 0, rfl, Nat.le_refl _, ⟨hsz, fun _ j hj => by rw [Nat.zero_add]; exact (hrm.out j hj).2⟩, fun j x hj => HEE.out j x hj⟩⟩, hb⟩
set_option maxRecDepth 100000 in
set_option maxHeartbeats 2000000 in
theorem toObject (x : Ob) (a1 : Option Addr) (c1 : Nat) (hs : SmallO1 x) (w : World) (hm : SV false 0 w (.slice a1 x.flds.length c1) x.flds) :
    Calls Try.prog 55 #[.agg #[.int .i64 x.cls, .slice a1 x.flds.length c1]] w fun e w' => ∃ v1, e = .returned (.agg #[.int .i64 x.cls, v1]) ∧ OV true w.heap.size w' v1 x ∧ Below w.heap.size w w' := by
  have HI1 : Hid (SV false 0 w (.slice a1 x.flds.length c1) x.flds) := hm
  have HS1 : Hid (x.flds.length ≤ 1048576) := hs
  clear hm hs
  go_enter Try.func55, Try.ntmps55
  go_wp2_with fail
  refine (toValues x.flds a1 c1 HS1.out _ ?_).mono ?_
  · exact SV.on HI1.out (Keep.of (by go_grown))
  rintro e w1 ⟨u1, rfl, hi1, hb1⟩
  obtain ⟨b1, d1, rfl⟩ := hi1.form
  have hw1 : Below w.heap.size w w1 := below_over (by go_grown) hb1
  have A1 : Hid (Cells w1 w.heap.size [.int .i64 x.cls, .slice a1 x.flds.length c1]) := by
    show Cells _ _ _
    refine Cells.on ?_ hb1
    exact ((Cells.new w _ rfl _ _).alloc _).alloc _
  have R1 : Hid (Cells w1 (w.heap.size + 1) [.int .i64 0, .slice none 0 0]) := by
    show Cells _ _ _
    refine Cells.on ?_ hb1
    exact (Cells.new (w.alloc _) _ (by simp) _ _).alloc _
  have O1 : Hid (Cells w1 (w.heap.size + 1 + 1) [.int .i64 x.cls, .slice none 0 0]) := by
    show Cells _ _ _
    refine Cells.on ?_ hb1
    exact Cells.new ((w.alloc _).alloc _) _ (by simp) _ _
  have HV1 : Hid (SV true (w.heap.size + 1 + 1 + 1) w1 (.slice b1 x.flds.length d1) x.flds) := SV.weak hi1 (by simp)
  have hz1 : w.heap.size + 1 + 1 + 1 ≤ w1.heap.size := by have := hb1.size; simpa using this
  clear hi1 hb1
  generalize hs : w.heap.size = s at *
  have HSS : Hid (w.heap.size = s) := hs
  clear hs
  have N21 : Hid (s + 1 + 1 ≠ s + 1) := by show s + 1 + 1 ≠ s + 1; omega
  have N20 : Hid (s + 1 + 1 ≠ s) := by show s + 1 + 1 ≠ s; omega
  have OE := (O1.out.s1 (.slice b1 x.flds.length d1))
  have RE := (R1.out.far ⟨s + 1 + 1, 1, none⟩ (.slice b1 x.flds.length d1) N21.out)
  have RF := ((RE.s0 (.int .i64 x.cls)).s1 (.slice b1 x.flds.length d1))
  obtain ⟨o1_1, p1_1⟩ := O1.out.g1
  obtain ⟨i0, _⟩ := OE.g0
  obtain ⟨s0, t0⟩ := RE.g0
  obtain ⟨e0, _⟩ := RF.g0
  obtain ⟨i1, _⟩ := OE.g1
  obtain ⟨s1, t1⟩ := RE.g1
  obtain ⟨e1, _⟩ := RF.g1
  have HW1 : Hid (Below s w w1) := hw1
  clear OE RE RF O1 R1 A1 hw1
  go_wp2
  refine bodyPost_ret (v := .agg #[.int .i64 x.cls, .slice b1 x.flds.length d1]) (by simp [results, Try.results55, go_sem, e0, e1]) rfl ?_
  rw [HSS.out]
  have hk : ∀ (u : World) (j i : Nat) (x : Value), j < s + 1 + 1 + 1 → Keep (s + 1 + 1 + 1) u (u.setCell ⟨j, i, none⟩ x) := fun u j i x hj => Keep.set u (p := ⟨j, i, none⟩) hj x
  have hkk := (((hk w1 (s + 1 + 1) 1 (.slice b1 x.flds.length d1) (by omega)).trans (hk _ (s + 1) 0 (.int .i64 x.cls) (by omega))).trans (hk _ (s + 1) 1 (.slice b1 x.flds.length d1) (by omega)))
  have hbb := (((HW1.out.setCell (p := ⟨s + 1 + 1, 1, none⟩) (by simp <;> omega) (.slice b1 x.flds.length d1)).setCell (p := ⟨s + 1, 0, none⟩) (by simp <;> omega) (.int .i64 x.cls)).setCell (p := ⟨s + 1, 1, none⟩) (by simp <;> omega) (.slice b1 x.flds.length d1))
  exact ⟨_, rfl, SV.weak (SV.on HV1.out hkk) (by omega), hbb⟩
theorem infoObject : (Try.prog.info? 57).map (fun i => (i.zero, i.size, i.bytes)) = some (some (.agg #[.int .i64 0, .slice none 0 0]), 2, 32) := by kernel_rfl
set_option maxRecDepth 100000 in
set_option maxHeartbeats 2000000 in
theorem toObjects (ms : List Ob) (a : Option Addr) (cap : Nat) (hs : SmallO ms) (w : World) (hm : SO false 0 w (.slice a ms.length cap) ms) :
    Calls Try.prog 24 #[.slice a ms.length cap] w fun e w' => ∃ v, e = .returned v ∧ SO true w.heap.size w' v ms ∧ Below w.heap.size w w' := by
  obtain ⟨i0, hi, hz0, hz1, hz2⟩ := info_parts infoObject
  have HM : Hid (SO false 0 w (.slice a ms.length cap) ms) := hm
  have hn := hs.1
  have HS : Hid (∀ m ∈ ms, SmallO1 m) := hs.2
  clear hm hs
  go_enter Try.func24, Try.ntmps24
  go_wp2_with (at_make; refine wpList_make_full _ rfl _ _ 29 rfl w.heap.size 57 i0 (.agg #[.int .i64 0, .slice none 0 0]) 2 Try.underlying29 hi hz0 hz1 .i64 .i64 _ _ ms.length rfl rfl rfl rfl (by rw [hz2]; omega) (by unfold maxLen; omega) (Nat.le_refl _) ?_; intro w0 hown0 hgrow0)
  have hroom := room_own hown0 (Nat.le_refl _)
  have hsz0 : w.heap.size < w0.heap.size := row_made_lt hown0
  have hb0 : Below w.heap.size w w0 := (Below.refl _ _).grown hgrow0 (Nat.le_refl _) (fun _ h => by simp at h)
  clear hown0 hgrow0
  go_loopw [4] (fun i wr => ∃ k : Nat, k ≤ ms.length ∧ i = .int .i64 k ∧ Hid (Room wr w.heap.size (ms.length * 2)) ∧ Hid (∀ j x, (ms.take k)[j]? = some x → OAt true (w.heap.size + 1) wr w.heap.size (0 + j * 2) x) ∧ w.heap.size < wr.heap.size ∧ Below w.heap.size w wr) (fun i _ => ms.length - (intOf i).toNat)
  case atStart => exact ⟨0, Nat.zero_le _, rfl, hroom, fun j x h => by simp at h, hsz0, hb0⟩
  case round =>
    obtain ⟨k, hk, rfl, hrm, hrw, hsz, hb⟩ := hrel
    by_cases hlt : k < ms.length
    · obtain ⟨b, o, rfl, _, v1, h0, h1, hmv⟩ := (SO.on HM.out (Keep.of hb)).get hlt
      obtain ⟨a1, c1, rfl⟩ := (hmv).form
      have HMV : Hid (SV false 0 wr (.slice a1 ms[k].flds.length c1) ms[k].flds) := hmv
      have HSM : Hid (SmallO1 ms[k]) := HS.out _ (List.getElem_mem hlt)
      obtain ⟨⟨x0, d0⟩, f0⟩ := hrm.out (k * 2) (by omega)
      obtain ⟨⟨x1, d1⟩, f1⟩ := hrm.out (k * 2 + 1) (by omega)
      have HN : Hid (∀ u, Below wr.heap.size wr u → ∀ v1, OV true (w.heap.size + 1) u v1 ms[k] → ∀ j x, (ms.take (k + 1))[j]? = some x → OAt true (w.heap.size + 1) ((u.setCell ⟨w.heap.size, k * 2, none⟩ (.int .i64 ms[k].cls)).setCell ⟨w.heap.size, k * 2 + 1, none⟩ (v1)) w.heap.size (0 + j * 2) x) :=
        fun u hu v1 hv => OAt.next hlt (hrm.out.on hu) (fun j x hj => by
          obtain ⟨q1, g0, g1, gv⟩ := hrw.out j x hj
          have l : w.heap.size < wr.heap.size := hsz
          exact ⟨q1, (hu.cell l).trans g0, (hu.cell l).trans g1, gv.on (Keep.of hu)⟩) hv
      clear hrw hmv HM
      generalize ms[k] = m at *
      go_wp2_with fail
      refine (toObject m a1 c1 HSM.out _ HMV.out).mono ?_
      rintro e w1 ⟨u1, rfl, hv1, hb1⟩
      obtain ⟨b1, dd1, rfl⟩ := (hv1).form
      have hw1 : Below w.heap.size w w1 := below_over hb hb1
      have hsz1 : w.heap.size < w1.heap.size := Nat.lt_of_lt_of_le hsz hb1.size
      have l0 : w.heap.size < wr.heap.size := hsz
      have d0' := (hb1.cell l0).trans d0
      have f0' := (hb1.frozen l0).trans f0
      have d1' := (hb1.cell l0).trans d1
      have f1' := (hb1.frozen l0).trans f1
      have HRM : Hid (Room w1 w.heap.size (ms.length * 2)) := hrm.out.on hb1
      have HNX : Hid (∀ j x, (ms.take (k + 1))[j]? = some x → OAt true (w.heap.size + 1) ((w1.setCell ⟨w.heap.size, k * 2, none⟩ (.int .i64 m.cls)).setCell ⟨w.heap.size, k * 2 + 1, none⟩ (.slice b1 m.flds.length dd1)) w.heap.size (0 + j * 2) x) := HN.out w1 hb1 _ (hv1.weak hsz)
      clear d0 d1 f0 f1 h0 h1 hb1 hrm HN hb hv1 HSM HMV
      go_wp2
      go_roundw
      case rel => exact ⟨k + 1, by omega, by go_num, ((HRM.out.set _ _).set _ _), HNX.out, by simpa using hsz1, ((hw1.setCell (Nat.le_refl _) _).setCell (Nat.le_refl _) _)⟩
      case measure => simp [intOf]; omega
    · have e : ms.take k = ms := List.take_of_length_le (by omega)
      have HE := hrw.out
      rw [e] at HE
      have HEE : Hid (∀ j x, ms[j]? = some x → OAt true (w.heap.size + 1) wr w.heap.size (0 + j * 2) x) := HE
      clear HE e
      go_wp2
      go_ret
      exact ⟨_, rfl, ⟨_, _, rfl, fun _ h => by simp at h, fun _ => ⟨w.heap.size, 0, rfl, Nat.le_refl _, ⟨hsz, fun _ j hj => by rw [Nat.zero_add]; exact (hrm.out j hj).2⟩, fun j x hj => by
        obtain ⟨q1, g0, g1, gv⟩ := HEE.out j x hj
        exact ⟨q1, g0, g1, gv.weak (by omega)⟩⟩⟩, hb⟩
set_option maxRecDepth 100000 in
set_option maxHeartbeats 2000000 in
theorem toFrame (x : Fr) (a1 a2 : Option Addr) (c1 c2 : Nat) (hs : SmallF1 x) (w : World) (hm : SV false 0 w (.slice a1 x.stk.length c1) x.stk ∧ SV false 0 w (.slice a2 x.loc.length c2) x.loc) :
    Calls Try.prog 56 #[.agg #[.int .i64 x.cls, .int .i64 x.name, .int .i64 x.pos, .slice a1 x.stk.length c1, .slice a2 x.loc.length c2]] w fun e w' => ∃ v1 v2, e = .returned (.agg #[.int .i64 x.cls, .int .i64 x.name, .int .i64 x.pos, v1, v2]) ∧ FV true w.heap.size w' v1 v2 x ∧ Below w.heap.size w w' := by
  have HI1 : Hid (SV false 0 w (.slice a1 x.stk.length c1) x.stk) := hm.1
  have HI2 : Hid (SV false 0 w (.slice a2 x.loc.length c2) x.loc) := hm.2
  have HS1 : Hid (x.stk.length ≤ 1048576) := hs.1
  have HS2 : Hid (x.loc.length ≤ 1048576) := hs.2
  clear hm hs
  go_enter Try.func56, Try.ntmps56
  go_wp2_with fail
  refine (toValues x.stk a1 c1 HS1.out _ ?_).mono ?_
  · exact SV.on HI1.out (Keep.of (by go_grown))
  rintro e w1 ⟨u1, rfl, hi1, hb1⟩
  obtain ⟨b1, d1, rfl⟩ := hi1.form
  have hw1 : Below w.heap.size w w1 := below_over (by go_grown) hb1
  have A1 : Hid (Cells w1 w.heap.size [.int .i64 x.cls, .int .i64 x.name, .int .i64 x.pos, .slice a1 x.stk.length c1, .slice a2 x.loc.length c2]) := by
    show Cells _ _ _
    refine Cells.on ?_ hb1
    exact ((Cells.new w _ rfl _ _).alloc _).alloc _
  have R1 : Hid (Cells w1 (w.heap.size + 1) [.int .i64 0, .int .i64 0, .int .i64 0, .slice none 0 0, .slice none 0 0]) := by
    show Cells _ _ _
    refine Cells.on ?_ hb1
    exact (Cells.new (w.alloc _) _ (by simp) _ _).alloc _
  have O1 : Hid (Cells w1 (w.heap.size + 1 + 1) [.int .i64 x.cls, .int .i64 x.name, .int .i64 x.pos, .slice none 0 0, .slice none 0 0]) := by
    show Cells _ _ _
    refine Cells.on ?_ hb1
    exact Cells.new ((w.alloc _).alloc _) _ (by simp) _ _
  have HV1 : Hid (SV true (w.heap.size + 1 + 1 + 1) w1 (.slice b1 x.stk.length d1) x.stk) := SV.weak hi1 (by simp)
  have hz1 : w.heap.size + 1 + 1 + 1 ≤ w1.heap.size := by have := hb1.size; simpa using this
  clear hi1 hb1
  generalize hs : w.heap.size = s at *
  have HSS : Hid (w.heap.size = s) := hs
  clear hs
  have N21 : Hid (s + 1 + 1 ≠ s + 1) := by show s + 1 + 1 ≠ s + 1; omega
  have N20 : Hid (s + 1 + 1 ≠ s) := by show s + 1 + 1 ≠ s; omega
  obtain ⟨o1_3, p1_3⟩ := O1.out.g3
  obtain ⟨r1_4, _⟩ := A1.out.g4
  have P1 : Hid (Cells (w1.setCell ⟨s + 1 + 1, 3, none⟩ (.slice b1 x.stk.length d1)) (s + 1 + 1) [.int .i64 x.cls, .int .i64 x.name, .int .i64 x.pos, .slice b1 x.stk.length d1, .slice none 0 0]) := (O1.out.s3 (.slice b1 x.stk.length d1))
  have Q1 : Hid (Cells (w1.setCell ⟨s + 1 + 1, 3, none⟩ (.slice b1 x.stk.length d1)) (s + 1) [.int .i64 0, .int .i64 0, .int .i64 0, .slice none 0 0, .slice none 0 0]) := (R1.out.far ⟨s + 1 + 1, 3, none⟩ (.slice b1 x.stk.length d1) N21.out)
  have Z1 : Hid (Cells (w1.setCell ⟨s + 1 + 1, 3, none⟩ (.slice b1 x.stk.length d1)) s [.int .i64 x.cls, .int .i64 x.name, .int .i64 x.pos, .slice a1 x.stk.length c1, .slice a2 x.loc.length c2]) := (A1.out.far ⟨s + 1 + 1, 3, none⟩ (.slice b1 x.stk.length d1) N20.out)
  have y1 := Z1.out.g4.1
  have hk1 : Keep (s + 1 + 1 + 1) w1 (w1.setCell ⟨s + 1 + 1, 3, none⟩ (.slice b1 x.stk.length d1)) := Keep.set (B := s + 1 + 1 + 1) w1 (p := ⟨s + 1 + 1, 3, none⟩) (by simp) (.slice b1 x.stk.length d1)
  have G1_1 : Hid (SV true (s + 1 + 1 + 1) (w1.setCell ⟨s + 1 + 1, 3, none⟩ (.slice b1 x.stk.length d1)) (.slice b1 x.stk.length d1) x.stk) := SV.on HV1.out hk1
  have hy1 := Nat.le_trans hz1 hk1.size
  have HK1 : Hid (Below s w (w1.setCell ⟨s + 1 + 1, 3, none⟩ (.slice b1 x.stk.length d1))) := (hw1.setCell (p := ⟨s + 1 + 1, 3, none⟩) (by simp; omega) (.slice b1 x.stk.length d1))
  clear hk1 HV1 hw1 A1 R1 O1 hz1
  go_wp2_with fail
  generalize hgen : (w1.setCell ⟨s + 1 + 1, 3, none⟩ (.slice b1 x.stk.length d1)) = u1 at *
  clear hgen
  refine (toValues x.loc a2 c2 HS2.out _ ?_).mono ?_
  · exact SV.on HI2.out (Keep.of (by rw [HSS.out]; exact HK1.out))
  rintro e w2 ⟨q2, rfl, hi, hb⟩
  obtain ⟨b2, d2, rfl⟩ := hi.form
  have O2 : Hid (Cells w2 (s + 1 + 1) [.int .i64 x.cls, .int .i64 x.name, .int .i64 x.pos, .slice b1 x.stk.length d1, .slice none 0 0]) := P1.out.on hb
  have R2 : Hid (Cells w2 (s + 1) [.int .i64 0, .int .i64 0, .int .i64 0, .slice none 0 0, .slice none 0 0]) := Q1.out.on hb
  have A2 : Hid (Cells w2 s [.int .i64 x.cls, .int .i64 x.name, .int .i64 x.pos, .slice a1 x.stk.length c1, .slice a2 x.loc.length c2]) := Z1.out.on hb
  have HV1 : Hid (SV true (s + 1 + 1 + 1) w2 (.slice b1 x.stk.length d1) x.stk) := SV.on G1_1.out (Keep.of hb)
  have HV2 : Hid (SV true (s + 1 + 1 + 1) w2 (.slice b2 x.loc.length d2) x.loc) := SV.weak hi hy1
  have hz2 : s + 1 + 1 + 1 ≤ w2.heap.size := Nat.le_trans hy1 hb.size
  have HW2 : Hid (Below s w w2) := HK1.out.trans (hb.mono (by omega))
  clear hi hb o1_3 p1_3 r1_4 y1 P1 Q1 Z1 HK1 hy1 G1_1
  have OE := (O2.out.s4 (.slice b2 x.loc.length d2))
  have RE := (R2.out.far ⟨s + 1 + 1, 4, none⟩ (.slice b2 x.loc.length d2) N21.out)
  have RF := (((((RE.s0 (.int .i64 x.cls)).s1 (.int .i64 x.name)).s2 (.int .i64 x.pos)).s3 (.slice b1 x.stk.length d1)).s4 (.slice b2 x.loc.length d2))
  obtain ⟨o2_4, p2_4⟩ := O2.out.g4
  obtain ⟨i0, _⟩ := OE.g0
  obtain ⟨s0, t0⟩ := RE.g0
  obtain ⟨e0, _⟩ := RF.g0
  obtain ⟨i1, _⟩ := OE.g1
  obtain ⟨s1, t1⟩ := RE.g1
  obtain ⟨e1, _⟩ := RF.g1
  obtain ⟨i2, _⟩ := OE.g2
  obtain ⟨s2, t2⟩ := RE.g2
  obtain ⟨e2, _⟩ := RF.g2
  obtain ⟨i3, _⟩ := OE.g3
  obtain ⟨s3, t3⟩ := RE.g3
  obtain ⟨e3, _⟩ := RF.g3
  obtain ⟨i4, _⟩ := OE.g4
  obtain ⟨s4, t4⟩ := RE.g4
  obtain ⟨e4, _⟩ := RF.g4
  clear OE RE RF O2 R2 A2
  go_wp2
  refine bodyPost_ret (v := .agg #[.int .i64 x.cls, .int .i64 x.name, .int .i64 x.pos, .slice b1 x.stk.length d1, .slice b2 x.loc.length d2]) (by simp [results, Try.results56, go_sem, e0, e1, e2, e3, e4]) rfl ?_
  rw [HSS.out]
  have hk : ∀ (u : World) (j i : Nat) (x : Value), j < s + 1 + 1 + 1 → Keep (s + 1 + 1 + 1) u (u.setCell ⟨j, i, none⟩ x) := fun u j i x hj => Keep.set u (p := ⟨j, i, none⟩) hj x
  have hkk := ((((((hk w2 (s + 1 + 1) 4 (.slice b2 x.loc.length d2) (by omega)).trans (hk _ (s + 1) 0 (.int .i64 x.cls) (by omega))).trans (hk _ (s + 1) 1 (.int .i64 x.name) (by omega))).trans (hk _ (s + 1) 2 (.int .i64 x.pos) (by omega))).trans (hk _ (s + 1) 3 (.slice b1 x.stk.length d1) (by omega))).trans (hk _ (s + 1) 4 (.slice b2 x.loc.length d2) (by omega)))
  have hbb := ((((((HW2.out.setCell (p := ⟨s + 1 + 1, 4, none⟩) (by simp <;> omega) (.slice b2 x.loc.length d2)).setCell (p := ⟨s + 1, 0, none⟩) (by simp <;> omega) (.int .i64 x.cls)).setCell (p := ⟨s + 1, 1, none⟩) (by simp <;> omega) (.int .i64 x.name)).setCell (p := ⟨s + 1, 2, none⟩) (by simp <;> omega) (.int .i64 x.pos)).setCell (p := ⟨s + 1, 3, none⟩) (by simp <;> omega) (.slice b1 x.stk.length d1)).setCell (p := ⟨s + 1, 4, none⟩) (by simp <;> omega) (.slice b2 x.loc.length d2))
  exact ⟨_, _, rfl, ⟨SV.weak (SV.on HV1.out hkk) (by omega), SV.weak (SV.on HV2.out hkk) (by omega)⟩, hbb⟩
theorem infoFrame : (Try.prog.info? 59).map (fun i => (i.zero, i.size, i.bytes)) = some (some (.agg #[.int .i64 0, .int .i64 0, .int .i64 0, .slice none 0 0, .slice none 0 0]), 5, 72) := by kernel_rfl
set_option maxRecDepth 100000 in
set_option maxHeartbeats 2000000 in
theorem toFrames (ms : List Fr) (a : Option Addr) (cap : Nat) (hs : SmallF ms) (w : World) (hm : SF false 0 w (.slice a ms.length cap) ms) :
    Calls Try.prog 25 #[.slice a ms.length cap] w fun e w' => ∃ v, e = .returned v ∧ SF true w.heap.size w' v ms ∧ Below w.heap.size w w' := by
  obtain ⟨i0, hi, hz0, hz1, hz2⟩ := info_parts infoFrame
  have HM : Hid (SF false 0 w (.slice a ms.length cap) ms) := hm
  have hn := hs.1
  have HS : Hid (∀ m ∈ ms, SmallF1 m) := hs.2
  clear hm hs
  go_enter Try.func25, Try.ntmps25
  go_wp2_with (at_make; refine wpList_make_full _ rfl _ _ 30 rfl w.heap.size 59 i0 (.agg #[.int .i64 0, .int .i64 0, .int .i64 0, .slice none 0 0, .slice none 0 0]) 5 Try.underlying30 hi hz0 hz1 .i64 .i64 _ _ ms.length rfl rfl rfl rfl (by rw [hz2]; omega) (by unfold maxLen; omega) (Nat.le_refl _) ?_; intro w0 hown0 hgrow0)
  have hroom := room_own hown0 (Nat.le_refl _)
  have hsz0 : w.heap.size < w0.heap.size := row_made_lt hown0
  have hb0 : Below w.heap.size w w0 := (Below.refl _ _).grown hgrow0 (Nat.le_refl _) (fun _ h => by simp at h)
  clear hown0 hgrow0
  go_loopw [4] (fun i wr => ∃ k : Nat, k ≤ ms.length ∧ i = .int .i64 k ∧ Hid (Room wr w.heap.size (ms.length * 5)) ∧ Hid (∀ j x, (ms.take k)[j]? = some x → FAt true (w.heap.size + 1) wr w.heap.size (0 + j * 5) x) ∧ w.heap.size < wr.heap.size ∧ Below w.heap.size w wr) (fun i _ => ms.length - (intOf i).toNat)
  case atStart => exact ⟨0, Nat.zero_le _, rfl, hroom, fun j x h => by simp at h, hsz0, hb0⟩
  case round =>
    obtain ⟨k, hk, rfl, hrm, hrw, hsz, hb⟩ := hrel
    by_cases hlt : k < ms.length
    · obtain ⟨b, o, rfl, _, v1, v2, h0, h1, h2, h3, h4, hmv⟩ := (SF.on HM.out (Keep.of hb)).get hlt
      obtain ⟨a1, c1, rfl⟩ := (hmv.1).form
      obtain ⟨a2, c2, rfl⟩ := (hmv.2).form
      have HMV : Hid (SV false 0 wr (.slice a1 ms[k].stk.length c1) ms[k].stk ∧ SV false 0 wr (.slice a2 ms[k].loc.length c2) ms[k].loc) := hmv
      have HSM : Hid (SmallF1 ms[k]) := HS.out _ (List.getElem_mem hlt)
      obtain ⟨⟨x0, d0⟩, f0⟩ := hrm.out (k * 5) (by omega)
      obtain ⟨⟨x1, d1⟩, f1⟩ := hrm.out (k * 5 + 1) (by omega)
      obtain ⟨⟨x2, d2⟩, f2⟩ := hrm.out (k * 5 + 2) (by omega)
      obtain ⟨⟨x3, d3⟩, f3⟩ := hrm.out (k * 5 + 3) (by omega)
      obtain ⟨⟨x4, d4⟩, f4⟩ := hrm.out (k * 5 + 4) (by omega)
      have HN : Hid (∀ u, Below wr.heap.size wr u → ∀ v1 v2, FV true (w.heap.size + 1) u v1 v2 ms[k] → ∀ j x, (ms.take (k + 1))[j]? = some x → FAt true (w.heap.size + 1) (((((u.setCell ⟨w.heap.size, k * 5, none⟩ (.int .i64 ms[k].cls)).setCell ⟨w.heap.size, k * 5 + 1, none⟩ (.int .i64 ms[k].name)).setCell ⟨w.heap.size, k * 5 + 2, none⟩ (.int .i64 ms[k].pos)).setCell ⟨w.heap.size, k * 5 + 3, none⟩ (v1)).setCell ⟨w.heap.size, k * 5 + 4, none⟩ (v2)) w.heap.size (0 + j * 5) x) :=
        fun u hu v1 v2 hv => FAt.next hlt (hrm.out.on hu) (fun j x hj => by
          obtain ⟨q1, q2, g0, g1, g2, g3, g4, gv⟩ := hrw.out j x hj
          have l : w.heap.size < wr.heap.size := hsz
          exact ⟨q1, q2, (hu.cell l).trans g0, (hu.cell l).trans g1, (hu.cell l).trans g2, (hu.cell l).trans g3, (hu.cell l).trans g4, gv.on (Keep.of hu)⟩) hv
      clear hrw hmv HM
      generalize ms[k] = m at *
      go_wp2_with fail
      refine (toFrame m a1 a2 c1 c2 HSM.out _ HMV.out).mono ?_
      rintro e w1 ⟨u1, u2, rfl, hv1, hb1⟩
      obtain ⟨b1, dd1, rfl⟩ := (hv1.1).form
      obtain ⟨b2, dd2, rfl⟩ := (hv1.2).form
      have hw1 : Below w.heap.size w w1 := below_over hb hb1
      have hsz1 : w.heap.size < w1.heap.size := Nat.lt_of_lt_of_le hsz hb1.size
      have l0 : w.heap.size < wr.heap.size := hsz
      have d0' := (hb1.cell l0).trans d0
      have f0' := (hb1.frozen l0).trans f0
      have d1' := (hb1.cell l0).trans d1
      have f1' := (hb1.frozen l0).trans f1
      have d2' := (hb1.cell l0).trans d2
      have f2' := (hb1.frozen l0).trans f2
      have d3' := (hb1.cell l0).trans d3
      have f3' := (hb1.frozen l0).trans f3
      have d4' := (hb1.cell l0).trans d4
      have f4' := (hb1.frozen l0).trans f4
      have HRM : Hid (Room w1 w.heap.size (ms.length * 5)) := hrm.out.on hb1
      have HNX : Hid (∀ j x, (ms.take (k + 1))[j]? = some x → FAt true (w.heap.size + 1) (((((w1.setCell ⟨w.heap.size, k * 5, none⟩ (.int .i64 m.cls)).setCell ⟨w.heap.size, k * 5 + 1, none⟩ (.int .i64 m.name)).setCell ⟨w.heap.size, k * 5 + 2, none⟩ (.int .i64 m.pos)).setCell ⟨w.heap.size, k * 5 + 3, none⟩ (.slice b1 m.stk.length dd1)).setCell ⟨w.heap.size, k * 5 + 4, none⟩ (.slice b2 m.loc.length dd2)) w.heap.size (0 + j * 5) x) := HN.out w1 hb1 _ _ (hv1.weak hsz)
      clear d0 d1 d2 d3 d4 f0 f1 f2 f3 f4 h0 h1 h2 h3 h4 hb1 hrm HN hb hv1 HSM HMV
      go_wp2
      go_roundw
      case rel => exact ⟨k + 1, by omega, by go_num, (((((HRM.out.set _ _).set _ _).set _ _).set _ _).set _ _), HNX.out, by simpa using hsz1, (((((hw1.setCell (Nat.le_refl _) _).setCell (Nat.le_refl _) _).setCell (Nat.le_refl _) _).setCell (Nat.le_refl _) _).setCell (Nat.le_refl _) _)⟩
      case measure => simp [intOf]; omega
    · have e : ms.take k = ms := List.take_of_length_le (by omega)
      have HE := hrw.out
      rw [e] at HE
      have HEE : Hid (∀ j x, ms[j]? = some x → FAt true (w.heap.size + 1) wr w.heap.size (0 + j * 5) x) := HE
      clear HE e
      go_wp2
      go_ret
      exact ⟨_, rfl, ⟨_, _, rfl, fun _ h => by simp at h, fun _ => ⟨w.heap.size, 0, rfl, Nat.le_refl _, ⟨hsz, fun _ j hj => by rw [Nat.zero_add]; exact (hrm.out j hj).2⟩, fun j x hj => by
        obtain ⟨q1, q2, g0, g1, g2, g3, g4, gv⟩ := HEE.out j x hj
        exact ⟨q1, q2, g0, g1, g2, g3, g4, gv.weak (by omega)⟩⟩⟩, hb⟩
set_option maxRecDepth 100000 in
set_option maxHeartbeats 2000000 in
theorem toMachine (x : Mc) (a1 a2 a3 : Option Addr) (c1 c2 c3 : Nat) (hs : SmallK x) (w : World) (hm : SO false 0 w (.slice a1 x.heap.length c1) x.heap ∧ SF false 0 w (.slice a2 x.frames.length c2) x.frames ∧ SI false 0 w (.slice a3 x.said.length c3) x.said) :
    Calls Try.prog 7 #[.agg #[.slice a1 x.heap.length c1, .slice a2 x.frames.length c2, .slice a3 x.said.length c3, .int .i64 x.fin, .int .i64 x.code]] w fun e w' => ∃ v1 v2 v3, e = .returned (.agg #[v1, v2, v3, .int .i64 x.fin, .int .i64 x.code]) ∧ KV true w.heap.size w' v1 v2 v3 x ∧ Below w.heap.size w w' := by
  have HI1 : Hid (SO false 0 w (.slice a1 x.heap.length c1) x.heap) := hm.1
  have HI2 : Hid (SF false 0 w (.slice a2 x.frames.length c2) x.frames) := hm.2.1
  have HI3 : Hid (SI false 0 w (.slice a3 x.said.length c3) x.said) := hm.2.2
  have HS1 : Hid (SmallO x.heap) := hs.1
  have HS2 : Hid (SmallF x.frames) := hs.2.1
  have HS3 : Hid (x.said.length ≤ 1048576) := hs.2.2
  clear hm hs
  go_enter Try.func7, Try.ntmps7
  go_wp2_with fail
  refine (toObjects x.heap a1 c1 HS1.out _ ?_).mono ?_
  · exact SO.on HI1.out (Keep.of (by go_grown))
  rintro e w1 ⟨u1, rfl, hi1, hb1⟩
  obtain ⟨b1, d1, rfl⟩ := hi1.form
  have hw1 : Below w.heap.size w w1 := below_over (by go_grown) hb1
  have A1 : Hid (Cells w1 w.heap.size [.slice a1 x.heap.length c1, .slice a2 x.frames.length c2, .slice a3 x.said.length c3, .int .i64 x.fin, .int .i64 x.code]) := by
    show Cells _ _ _
    refine Cells.on ?_ hb1
    exact ((Cells.new w _ rfl _ _).alloc _).alloc _
  have R1 : Hid (Cells w1 (w.heap.size + 1) [.slice none 0 0, .slice none 0 0, .slice none 0 0, .int .i64 0, .int .i64 0]) := by
    show Cells _ _ _
    refine Cells.on ?_ hb1
    exact (Cells.new (w.alloc _) _ (by simp) _ _).alloc _
  have O1 : Hid (Cells w1 (w.heap.size + 1 + 1) [.slice none 0 0, .slice none 0 0, .slice none 0 0, .int .i64 0, .int .i64 0]) := by
    show Cells _ _ _
    refine Cells.on ?_ hb1
    exact Cells.new ((w.alloc _).alloc _) _ (by simp) _ _
  have HV1 : Hid (SO true (w.heap.size + 1 + 1 + 1) w1 (.slice b1 x.heap.length d1) x.heap) := SO.weak hi1 (by simp)
  have hz1 : w.heap.size + 1 + 1 + 1 ≤ w1.heap.size := by have := hb1.size; simpa using this
  clear hi1 hb1
  generalize hs : w.heap.size = s at *
  have HSS : Hid (w.heap.size = s) := hs
  clear hs
  have N21 : Hid (s + 1 + 1 ≠ s + 1) := by show s + 1 + 1 ≠ s + 1; omega
  have N20 : Hid (s + 1 + 1 ≠ s) := by show s + 1 + 1 ≠ s; omega
  obtain ⟨o1_0, p1_0⟩ := O1.out.g0
  obtain ⟨r1_1, _⟩ := A1.out.g1
  have P1 : Hid (Cells (w1.setCell ⟨s + 1 + 1, 0, none⟩ (.slice b1 x.heap.length d1)) (s + 1 + 1) [.slice b1 x.heap.length d1, .slice none 0 0, .slice none 0 0, .int .i64 0, .int .i64 0]) := (O1.out.s0 (.slice b1 x.heap.length d1))
  have Q1 : Hid (Cells (w1.setCell ⟨s + 1 + 1, 0, none⟩ (.slice b1 x.heap.length d1)) (s + 1) [.slice none 0 0, .slice none 0 0, .slice none 0 0, .int .i64 0, .int .i64 0]) := (R1.out.far ⟨s + 1 + 1, 0, none⟩ (.slice b1 x.heap.length d1) N21.out)
  have Z1 : Hid (Cells (w1.setCell ⟨s + 1 + 1, 0, none⟩ (.slice b1 x.heap.length d1)) s [.slice a1 x.heap.length c1, .slice a2 x.frames.length c2, .slice a3 x.said.length c3, .int .i64 x.fin, .int .i64 x.code]) := (A1.out.far ⟨s + 1 + 1, 0, none⟩ (.slice b1 x.heap.length d1) N20.out)
  have y1 := Z1.out.g1.1
  have hk1 : Keep (s + 1 + 1 + 1) w1 (w1.setCell ⟨s + 1 + 1, 0, none⟩ (.slice b1 x.heap.length d1)) := Keep.set (B := s + 1 + 1 + 1) w1 (p := ⟨s + 1 + 1, 0, none⟩) (by simp) (.slice b1 x.heap.length d1)
  have G1_1 : Hid (SO true (s + 1 + 1 + 1) (w1.setCell ⟨s + 1 + 1, 0, none⟩ (.slice b1 x.heap.length d1)) (.slice b1 x.heap.length d1) x.heap) := SO.on HV1.out hk1
  have hy1 := Nat.le_trans hz1 hk1.size
  have HK1 : Hid (Below s w (w1.setCell ⟨s + 1 + 1, 0, none⟩ (.slice b1 x.heap.length d1))) := (hw1.setCell (p := ⟨s + 1 + 1, 0, none⟩) (by simp; omega) (.slice b1 x.heap.length d1))
  clear hk1 HV1 hw1 A1 R1 O1 hz1
  go_wp2_with fail
  generalize hgen : (w1.setCell ⟨s + 1 + 1, 0, none⟩ (.slice b1 x.heap.length d1)) = u1 at *
  clear hgen
  refine (toFrames x.frames a2 c2 HS2.out _ ?_).mono ?_
  · exact SF.on HI2.out (Keep.of (by rw [HSS.out]; exact HK1.out))
  rintro e w2 ⟨q2, rfl, hi, hb⟩
  obtain ⟨b2, d2, rfl⟩ := hi.form
  have O2 : Hid (Cells w2 (s + 1 + 1) [.slice b1 x.heap.length d1, .slice none 0 0, .slice none 0 0, .int .i64 0, .int .i64 0]) := P1.out.on hb
  have R2 : Hid (Cells w2 (s + 1) [.slice none 0 0, .slice none 0 0, .slice none 0 0, .int .i64 0, .int .i64 0]) := Q1.out.on hb
  have A2 : Hid (Cells w2 s [.slice a1 x.heap.length c1, .slice a2 x.frames.length c2, .slice a3 x.said.length c3, .int .i64 x.fin, .int .i64 x.code]) := Z1.out.on hb
  have HV1 : Hid (SO true (s + 1 + 1 + 1) w2 (.slice b1 x.heap.length d1) x.heap) := SO.on G1_1.out (Keep.of hb)
  have HV2 : Hid (SF true (s + 1 + 1 + 1) w2 (.slice b2 x.frames.length d2) x.frames) := SF.weak hi hy1
  have hz2 : s + 1 + 1 + 1 ≤ w2.heap.size := Nat.le_trans hy1 hb.size
  have HW2 : Hid (Below s w w2) := HK1.out.trans (hb.mono (by omega))
  clear hi hb o1_0 p1_0 r1_1 y1 P1 Q1 Z1 HK1 hy1 G1_1
  obtain ⟨o2_1, p2_1⟩ := O2.out.g1
  obtain ⟨r2_2, _⟩ := A2.out.g2
  have P2 : Hid (Cells (w2.setCell ⟨s + 1 + 1, 1, none⟩ (.slice b2 x.frames.length d2)) (s + 1 + 1) [.slice b1 x.heap.length d1, .slice b2 x.frames.length d2, .slice none 0 0, .int .i64 0, .int .i64 0]) := (O2.out.s1 (.slice b2 x.frames.length d2))
  have Q2 : Hid (Cells (w2.setCell ⟨s + 1 + 1, 1, none⟩ (.slice b2 x.frames.length d2)) (s + 1) [.slice none 0 0, .slice none 0 0, .slice none 0 0, .int .i64 0, .int .i64 0]) := (R2.out.far ⟨s + 1 + 1, 1, none⟩ (.slice b2 x.frames.length d2) N21.out)
  have Z2 : Hid (Cells (w2.setCell ⟨s + 1 + 1, 1, none⟩ (.slice b2 x.frames.length d2)) s [.slice a1 x.heap.length c1, .slice a2 x.frames.length c2, .slice a3 x.said.length c3, .int .i64 x.fin, .int .i64 x.code]) := (A2.out.far ⟨s + 1 + 1, 1, none⟩ (.slice b2 x.frames.length d2) N20.out)
  have y2 := Z2.out.g2.1
  have hk2 : Keep (s + 1 + 1 + 1) w2 (w2.setCell ⟨s + 1 + 1, 1, none⟩ (.slice b2 x.frames.length d2)) := Keep.set (B := s + 1 + 1 + 1) w2 (p := ⟨s + 1 + 1, 1, none⟩) (by simp) (.slice b2 x.frames.length d2)
  have G2_1 : Hid (SO true (s + 1 + 1 + 1) (w2.setCell ⟨s + 1 + 1, 1, none⟩ (.slice b2 x.frames.length d2)) (.slice b1 x.heap.length d1) x.heap) := SO.on HV1.out hk2
  have G2_2 : Hid (SF true (s + 1 + 1 + 1) (w2.setCell ⟨s + 1 + 1, 1, none⟩ (.slice b2 x.frames.length d2)) (.slice b2 x.frames.length d2) x.frames) := SF.on HV2.out hk2
  have hy2 := Nat.le_trans hz2 hk2.size
  have HK2 : Hid (Below s w (w2.setCell ⟨s + 1 + 1, 1, none⟩ (.slice b2 x.frames.length d2))) := (HW2.out.setCell (p := ⟨s + 1 + 1, 1, none⟩) (by simp; omega) (.slice b2 x.frames.length d2))
  clear hk2 HV1 HV2 HW2 A2 R2 O2 hz2
  go_wp2_with fail
  generalize hgen : (w2.setCell ⟨s + 1 + 1, 1, none⟩ (.slice b2 x.frames.length d2)) = u2 at *
  clear hgen
  refine (toInts' a3 c3 x.said HS3.out _ ?_).mono ?_
  · exact SI.on HI3.out (Keep.of (by rw [HSS.out]; exact HK2.out))
  rintro e w3 ⟨q3, rfl, hi, hb⟩
  obtain ⟨b3, d3, rfl⟩ := hi.form
  have O3 : Hid (Cells w3 (s + 1 + 1) [.slice b1 x.heap.length d1, .slice b2 x.frames.length d2, .slice none 0 0, .int .i64 0, .int .i64 0]) := P2.out.on hb
  have R3 : Hid (Cells w3 (s + 1) [.slice none 0 0, .slice none 0 0, .slice none 0 0, .int .i64 0, .int .i64 0]) := Q2.out.on hb
  have A3 : Hid (Cells w3 s [.slice a1 x.heap.length c1, .slice a2 x.frames.length c2, .slice a3 x.said.length c3, .int .i64 x.fin, .int .i64 x.code]) := Z2.out.on hb
  have HV1 : Hid (SO true (s + 1 + 1 + 1) w3 (.slice b1 x.heap.length d1) x.heap) := SO.on G2_1.out (Keep.of hb)
  have HV2 : Hid (SF true (s + 1 + 1 + 1) w3 (.slice b2 x.frames.length d2) x.frames) := SF.on G2_2.out (Keep.of hb)
  have HV3 : Hid (SI true (s + 1 + 1 + 1) w3 (.slice b3 x.said.length d3) x.said) := SI.weak hi hy2
  have hz3 : s + 1 + 1 + 1 ≤ w3.heap.size := Nat.le_trans hy2 hb.size
  have HW3 : Hid (Below s w w3) := HK2.out.trans (hb.mono (by omega))
  clear hi hb o2_1 p2_1 r2_2 y2 P2 Q2 Z2 HK2 hy2 G2_1 G2_2
  have OE := (((O3.out.s2 (.slice b3 x.said.length d3)).s3 (.int .i64 x.fin)).s4 (.int .i64 x.code))
  have RE := (((R3.out.far ⟨s + 1 + 1, 2, none⟩ (.slice b3 x.said.length d3) N21.out).far ⟨s + 1 + 1, 3, none⟩ (.int .i64 x.fin) N21.out).far ⟨s + 1 + 1, 4, none⟩ (.int .i64 x.code) N21.out)
  have RF := (((((RE.s0 (.slice b1 x.heap.length d1)).s1 (.slice b2 x.frames.length d2)).s2 (.slice b3 x.said.length d3)).s3 (.int .i64 x.fin)).s4 (.int .i64 x.code))
  obtain ⟨o3_2, p3_2⟩ := O3.out.g2
  obtain ⟨o3_3, p3_3⟩ := O3.out.g3
  obtain ⟨o3_4, p3_4⟩ := O3.out.g4
  obtain ⟨r3_3, _⟩ := A3.out.g3
  obtain ⟨r3_4, _⟩ := A3.out.g4
  obtain ⟨i0, _⟩ := OE.g0
  obtain ⟨s0, t0⟩ := RE.g0
  obtain ⟨e0, _⟩ := RF.g0
  obtain ⟨i1, _⟩ := OE.g1
  obtain ⟨s1, t1⟩ := RE.g1
  obtain ⟨e1, _⟩ := RF.g1
  obtain ⟨i2, _⟩ := OE.g2
  obtain ⟨s2, t2⟩ := RE.g2
  obtain ⟨e2, _⟩ := RF.g2
  obtain ⟨i3, _⟩ := OE.g3
  obtain ⟨s3, t3⟩ := RE.g3
  obtain ⟨e3, _⟩ := RF.g3
  obtain ⟨i4, _⟩ := OE.g4
  obtain ⟨s4, t4⟩ := RE.g4
  obtain ⟨e4, _⟩ := RF.g4
  clear OE RE RF O3 R3 A3
  go_wp2
  refine bodyPost_ret (v := .agg #[.slice b1 x.heap.length d1, .slice b2 x.frames.length d2, .slice b3 x.said.length d3, .int .i64 x.fin, .int .i64 x.code]) (by simp [results, Try.results7, go_sem, e0, e1, e2, e3, e4]) rfl ?_
  rw [HSS.out]
  have hk : ∀ (u : World) (j i : Nat) (x : Value), j < s + 1 + 1 + 1 → Keep (s + 1 + 1 + 1) u (u.setCell ⟨j, i, none⟩ x) := fun u j i x hj => Keep.set u (p := ⟨j, i, none⟩) hj x
  have hkk := ((((((((hk w3 (s + 1 + 1) 2 (.slice b3 x.said.length d3) (by omega)).trans (hk _ (s + 1 + 1) 3 (.int .i64 x.fin) (by omega))).trans (hk _ (s + 1 + 1) 4 (.int .i64 x.code) (by omega))).trans (hk _ (s + 1) 0 (.slice b1 x.heap.length d1) (by omega))).trans (hk _ (s + 1) 1 (.slice b2 x.frames.length d2) (by omega))).trans (hk _ (s + 1) 2 (.slice b3 x.said.length d3) (by omega))).trans (hk _ (s + 1) 3 (.int .i64 x.fin) (by omega))).trans (hk _ (s + 1) 4 (.int .i64 x.code) (by omega)))
  have hbb := ((((((((HW3.out.setCell (p := ⟨s + 1 + 1, 2, none⟩) (by simp <;> omega) (.slice b3 x.said.length d3)).setCell (p := ⟨s + 1 + 1, 3, none⟩) (by simp <;> omega) (.int .i64 x.fin)).setCell (p := ⟨s + 1 + 1, 4, none⟩) (by simp <;> omega) (.int .i64 x.code)).setCell (p := ⟨s + 1, 0, none⟩) (by simp <;> omega) (.slice b1 x.heap.length d1)).setCell (p := ⟨s + 1, 1, none⟩) (by simp <;> omega) (.slice b2 x.frames.length d2)).setCell (p := ⟨s + 1, 2, none⟩) (by simp <;> omega) (.slice b3 x.said.length d3)).setCell (p := ⟨s + 1, 3, none⟩) (by simp <;> omega) (.int .i64 x.fin)).setCell (p := ⟨s + 1, 4, none⟩) (by simp <;> omega) (.int .i64 x.code))
  exact ⟨_, _, _, rfl, ⟨SO.weak (SO.on HV1.out hkk) (by omega), SF.weak (SF.on HV2.out hkk) (by omega), SI.weak (SI.on HV3.out hkk) (by omega)⟩, hbb⟩
end Pg
end Go.Proofs.Ytobaeenngffndaa
