/- Contracts of the laws' own copying of programs: rows of methods, classes, programs. -/
import Derived.Test.YtdomclicgajihaaJPg3
namespace Go.Proofs.Ytdomclicgajihaa
namespace Pg
open Go.ChangeShapes Go.WideShapes Go.ChangeAt Go.RowKit St

theorem infoMe : (Try.prog.info? 52).map (fun i => (i.zero, i.size, i.bytes)) = some (some (.agg #[.int .i64 0, .slice none 0 0, .int .i64 0, .slice none 0 0]), 4, 64) := by kernel_rfl
theorem infoCl : (Try.prog.info? 63).map (fun i => (i.zero, i.size, i.bytes)) = some (some (.agg #[.int .i64 0, .slice none 0 0, .slice none 0 0]), 3, 56) := by kernel_rfl

theorem ne_off {g a b : Nat} (h : a ≠ b) : (⟨g, a, none⟩ : Addr) ≠ ⟨g, b, none⟩ := fun e => h (congrArg Addr.off e)
theorem MAt.far {K : Way} {B g o i : Nat} {w : World} {m : Meth} (h : MAt K B w g o m) (hg : g < B) (hi : i < o ∨ o + 3 < i) (v : Value) : MAt K B (w.setCell ⟨g, i, none⟩ v) g o m := by
  obtain ⟨va, vc, h0, h1, h2, h3, h4⟩ := h
  exact ⟨va, vc, (World.cell?_setCell_other _ _ _ _ (ne_off (by omega))).trans h0, (World.cell?_setCell_other _ _ _ _ (ne_off (by omega))).trans h1, (World.cell?_setCell_other _ _ _ _ (ne_off (by omega))).trans h2, (World.cell?_setCell_other _ _ _ _ (ne_off (by omega))).trans h3, h4.on (Keep.set w (p := ⟨g, i, none⟩) hg v)⟩
theorem CAt.far {K : Way} {B g o i : Nat} {w : World} {m : Cls} (h : CAt K B w g o m) (hg : g < B) (hi : i < o ∨ o + 2 < i) (v : Value) : CAt K B (w.setCell ⟨g, i, none⟩ v) g o m := by
  obtain ⟨va, vc, h0, h1, h2, h4⟩ := h
  exact ⟨va, vc, (World.cell?_setCell_other _ _ _ _ (ne_off (by omega))).trans h0, (World.cell?_setCell_other _ _ _ _ (ne_off (by omega))).trans h1, (World.cell?_setCell_other _ _ _ _ (ne_off (by omega))).trans h2, h4.on (Keep.set w (p := ⟨g, i, none⟩) hg v)⟩
/-- One method more written. -/
theorem meths_next {K : Way} {g k : Nat} {w : World} {ms : List Meth} (hk : k < ms.length) (hroom : Room w g (ms.length * 4)) (h : ∀ j x, (ms.take k)[j]? = some x → MAt K (g + 1) w g (0 + j * 4) x) {va vc : Value} (hv : MV K (g + 1) w va vc ms[k]) :
    ∀ j x, (ms.take (k + 1))[j]? = some x → MAt K (g + 1) ((((w.setCell ⟨g, k * 4, none⟩ (.int .i64 ms[k].name)).setCell ⟨g, k * 4 + 1, none⟩ va).setCell ⟨g, k * 4 + 2, none⟩ (.int .i64 ms[k].gives)).setCell ⟨g, k * 4 + 3, none⟩ vc) g (0 + j * 4) x := by
  intro j x hj
  rw [List.getElem?_take] at hj
  split at hj
  · rename_i hlt
    by_cases e : j = k
    · subst e
      rw [List.getElem?_eq_getElem hk] at hj
      simp at hj
      subst hj
      obtain ⟨⟨x0, h0⟩, _⟩ := hroom (j * 4) (by omega)
      obtain ⟨⟨x1, h1⟩, _⟩ := hroom (j * 4 + 1) (by omega)
      obtain ⟨⟨x2, h2⟩, _⟩ := hroom (j * 4 + 2) (by omega)
      obtain ⟨⟨x3, h3⟩, _⟩ := hroom (j * 4 + 3) (by omega)
      rw [Nat.zero_add]
      have k1 := Keep.set (B := g + 1) w (p := ⟨g, j * 4, none⟩) (by simp) (.int .i64 ms[j].name)
      refine ⟨va, vc, ?_, ?_, ?_, ?_, hv.on (((k1.trans (Keep.set _ (p := ⟨g, j * 4 + 1, none⟩) (by simp) va)).trans (Keep.set _ (p := ⟨g, j * 4 + 2, none⟩) (by simp) _)).trans (Keep.set _ (p := ⟨g, j * 4 + 3, none⟩) (by simp) vc))⟩
      · rw [World.cell?_setCell_other _ _ _ _ (ne_off (by omega)), World.cell?_setCell_other _ _ _ _ (ne_off (by omega)), World.cell?_setCell_other _ _ _ _ (ne_off (by omega))]
        exact World.cell?_setCell_same _ _ _ h0
      · rw [World.cell?_setCell_other _ _ _ _ (ne_off (by omega)), World.cell?_setCell_other _ _ _ _ (ne_off (by omega))]
        exact World.cell?_setCell_same _ _ _ ((World.cell?_setCell_other _ _ _ _ (ne_off (by omega))).trans h1)
      · rw [World.cell?_setCell_other _ _ _ _ (ne_off (by omega))]
        exact World.cell?_setCell_same _ _ _ ((World.cell?_setCell_other _ _ _ _ (ne_off (by omega))).trans ((World.cell?_setCell_other _ _ _ _ (ne_off (by omega))).trans h2))
      · exact World.cell?_setCell_same _ _ _ ((World.cell?_setCell_other _ _ _ _ (ne_off (by omega))).trans ((World.cell?_setCell_other _ _ _ _ (ne_off (by omega))).trans ((World.cell?_setCell_other _ _ _ _ (ne_off (by omega))).trans h3)))
    · have hx := h j x (by rw [List.getElem?_take, if_pos (by omega)]; exact hj)
      exact (((hx.far (by omega) (by omega) _).far (by omega) (by omega) _).far (by omega) (by omega) _).far (by omega) (by omega) _
  · simp at hj
theorem classes_next {K : Way} {g k : Nat} {w : World} {ms : Prg} (hk : k < ms.length) (hroom : Room w g (ms.length * 3)) (h : ∀ j x, (ms.take k)[j]? = some x → CAt K (g + 1) w g (0 + j * 3) x) {vf vm : Value} (hv : CV K (g + 1) w vf vm ms[k]) :
    ∀ j x, (ms.take (k + 1))[j]? = some x → CAt K (g + 1) (((w.setCell ⟨g, k * 3, none⟩ (.int .i64 ms[k].super)).setCell ⟨g, k * 3 + 1, none⟩ vf).setCell ⟨g, k * 3 + 2, none⟩ vm) g (0 + j * 3) x := by
  intro j x hj
  rw [List.getElem?_take] at hj
  split at hj
  · rename_i hlt
    by_cases e : j = k
    · subst e
      rw [List.getElem?_eq_getElem hk] at hj
      simp at hj
      subst hj
      obtain ⟨⟨x0, h0⟩, _⟩ := hroom (j * 3) (by omega)
      obtain ⟨⟨x1, h1⟩, _⟩ := hroom (j * 3 + 1) (by omega)
      obtain ⟨⟨x2, h2⟩, _⟩ := hroom (j * 3 + 2) (by omega)
      rw [Nat.zero_add]
      have k1 := Keep.set (B := g + 1) w (p := ⟨g, j * 3, none⟩) (by simp) (.int .i64 ms[j].super)
      refine ⟨vf, vm, ?_, ?_, ?_, hv.on ((k1.trans (Keep.set _ (p := ⟨g, j * 3 + 1, none⟩) (by simp) vf)).trans (Keep.set _ (p := ⟨g, j * 3 + 2, none⟩) (by simp) vm))⟩
      · rw [World.cell?_setCell_other _ _ _ _ (ne_off (by omega)), World.cell?_setCell_other _ _ _ _ (ne_off (by omega))]
        exact World.cell?_setCell_same _ _ _ h0
      · rw [World.cell?_setCell_other _ _ _ _ (ne_off (by omega))]
        exact World.cell?_setCell_same _ _ _ ((World.cell?_setCell_other _ _ _ _ (ne_off (by omega))).trans h1)
      · exact World.cell?_setCell_same _ _ _ ((World.cell?_setCell_other _ _ _ _ (ne_off (by omega))).trans ((World.cell?_setCell_other _ _ _ _ (ne_off (by omega))).trans h2))
    · have hx := h j x (by rw [List.getElem?_take, if_pos (by omega)]; exact hj)
      exact ((hx.far (by omega) (by omega) _).far (by omega) (by omega) _).far (by omega) (by omega) _
  · simp at hj

/-- All is short. -/
def SmallM (m : Meth) : Prop := m.args.length ≤ 1048576 ∧ m.code.length ≤ 1048576
def SmallC (c : Cls) : Prop := c.fields.length ≤ 1048576 ∧ c.meths.length ≤ 1048576 ∧ ∀ m ∈ c.meths, SmallM m
def SmallP (p : Prg) : Prop := p.length ≤ 1048576 ∧ ∀ c ∈ p, SmallC c
theorem SmallP.of {p : Prg} (h : szP p ≤ 1048576) : SmallP p := by
  refine ⟨by unfold szP at h; omega, fun c hc => ?_⟩
  have h1 := szC_le hc
  have e : szC c = c.fields.length + szMs c.meths := rfl
  have e2 : szMs c.meths = c.meths.length + sumN (c.meths.map szM) := rfl
  refine ⟨by omega, by omega, fun m hm => ?_⟩
  have h2 := szM_le hm
  have e3 : szM m = m.args.length + m.code.length := rfl
  exact ⟨by omega, by omega⟩

set_option maxRecDepth 100000 in
set_option maxHeartbeats 1000000 in
theorem toMethods (ms : List Meth) (a : Option Addr) (cap : Nat) (hn : ms.length ≤ 1048576) (hs : ∀ m ∈ ms, SmallM m) (w : World) (hm : SM wide 0 w (.slice a ms.length cap) ms) :
    Calls Try.prog 63 #[.slice a ms.length cap] w fun e w' => ∃ v, e = .returned v ∧ SM front w.heap.size w' v ms ∧ Below w.heap.size w w' := by
  obtain ⟨i0, hi, hz0, hz1, hz2⟩ := info_parts infoMe
  have HM : Hid (SM wide 0 w (.slice a ms.length cap) ms) := hm
  have HS : Hid (∀ m ∈ ms, SmallM m) := hs
  clear hm hs
  go_enter Try.func63, Try.ntmps63
  go_wp2_with (at_make; refine wpList_make_full _ rfl _ _ 61 rfl w.heap.size 52 i0 (.agg #[.int .i64 0, .slice none 0 0, .int .i64 0, .slice none 0 0]) 4 Try.underlying61 hi hz0 hz1 .i64 .i64 _ _ ms.length rfl rfl rfl rfl (by rw [hz2]; omega) (by unfold maxLen; omega) (Nat.le_refl _) ?_; intro w0 hown0 hgrow0)
  have hroom := room_own hown0 (Nat.le_refl _)
  have hsz0 : w.heap.size < w0.heap.size := row_made_lt hown0
  have hb0 : Below w.heap.size w w0 := (Below.refl _ _).grown hgrow0 (Nat.le_refl _) (fun _ h => by simp at h)
  clear hown0 hgrow0
  go_loopw [4] (fun i wr => ∃ k : Nat, k ≤ ms.length ∧ i = .int .i64 k ∧ Hid (Room wr w.heap.size (ms.length * 4)) ∧ Hid (∀ j x, (ms.take k)[j]? = some x → MAt front (w.heap.size + 1) wr w.heap.size (0 + j * 4) x) ∧ w.heap.size < wr.heap.size ∧ Below w.heap.size w wr) (fun i _ => ms.length - (intOf i).toNat)
  case atStart => exact ⟨0, Nat.zero_le _, rfl, hroom, fun j x h => by simp at h, hsz0, hb0⟩
  case round =>
    obtain ⟨k, hk, rfl, hrm, hrw, hsz, hb⟩ := hrel
    by_cases hlt : k < ms.length
    · obtain ⟨b, o, rfl, _, va, vc, h0, h1, h2, h3, hmv⟩ := (SM.on HM.out (Keep.of hb)).get hlt
      obtain ⟨aa, ca, rfl⟩ := hmv.1.form
      obtain ⟨ac, cc, rfl⟩ := wide.form hmv.2
      have HMA : Hid (SI false 0 wr (.slice aa ms[k].args.length ca) ms[k].args) := hmv.1
      have HMC : Hid (SC 0 wr (.slice ac ms[k].code.length cc) ms[k].code) := hmv.2
      have hsm := HS.out _ (List.getElem_mem hlt)
      obtain ⟨⟨x0, d0⟩, f0⟩ := hrm.out (k * 4) (by omega)
      obtain ⟨⟨x1, d1⟩, f1⟩ := hrm.out (k * 4 + 1) (by omega)
      obtain ⟨⟨x2, d2⟩, f2⟩ := hrm.out (k * 4 + 2) (by omega)
      obtain ⟨⟨x3, d3⟩, f3⟩ := hrm.out (k * 4 + 3) (by omega)
      have HN : Hid (∀ u, Below wr.heap.size wr u → ∀ va vc, MV front (w.heap.size + 1) u va vc ms[k] → ∀ j x, (ms.take (k + 1))[j]? = some x → MAt front (w.heap.size + 1) ((((u.setCell ⟨w.heap.size, k * 4, none⟩ (.int .i64 ms[k].name)).setCell ⟨w.heap.size, k * 4 + 1, none⟩ va).setCell ⟨w.heap.size, k * 4 + 2, none⟩ (.int .i64 ms[k].gives)).setCell ⟨w.heap.size, k * 4 + 3, none⟩ vc) w.heap.size (0 + j * 4) x) :=
        fun u hu va vc hv => meths_next hlt (hrm.out.on hu) (fun j x hj => by
          obtain ⟨q1, q2, c0, c1, c2, c3, c4⟩ := hrw.out j x hj
          have l : w.heap.size < wr.heap.size := hsz
          exact ⟨q1, q2, (hu.cell l).trans c0, (hu.cell l).trans c1, (hu.cell l).trans c2, (hu.cell l).trans c3, c4.on (Keep.of hu)⟩) hv
      clear hrw hmv HM
      generalize ms[k] = m at *
      go_wp2_with fail
      refine (toMethod m aa ac ca cc hsm.1 hsm.2 _ HMA.out HMC.out).mono ?_
      rintro e w1 ⟨va, vc, rfl, hv1, hb1⟩
      obtain ⟨a1, c1, rfl⟩ := hv1.1.form
      obtain ⟨a2, c2, rfl⟩ := front.form hv1.2
      have hw1 : Below w.heap.size w w1 := below_over hb hb1
      have hsz1 : w.heap.size < w1.heap.size := Nat.lt_of_lt_of_le hsz hb1.size
      have l0 : w.heap.size < wr.heap.size := hsz
      have d0' := (hb1.cell l0).trans d0
      have d1' := (hb1.cell l0).trans d1
      have d2' := (hb1.cell l0).trans d2
      have d3' := (hb1.cell l0).trans d3
      have f0' := (hb1.frozen l0).trans f0
      have f1' := (hb1.frozen l0).trans f1
      have f2' := (hb1.frozen l0).trans f2
      have f3' := (hb1.frozen l0).trans f3
      have HRM : Hid (Room w1 w.heap.size (ms.length * 4)) := hrm.out.on hb1
      have HNX : Hid (∀ j x, (ms.take (k + 1))[j]? = some x → MAt front (w.heap.size + 1) ((((w1.setCell ⟨w.heap.size, k * 4, none⟩ (.int .i64 m.name)).setCell ⟨w.heap.size, k * 4 + 1, none⟩ (.slice a1 m.args.length c1)).setCell ⟨w.heap.size, k * 4 + 2, none⟩ (.int .i64 m.gives)).setCell ⟨w.heap.size, k * 4 + 3, none⟩ (.slice a2 m.code.length c2)) w.heap.size (0 + j * 4) x) := HN.out w1 hb1 _ _ (hv1.weak hsz)
      clear d0 d1 d2 d3 f0 f1 f2 f3 h0 h1 h2 h3 hb1 hrm HN hb hv1 hsm HMA HMC
      go_wp2
      go_roundw
      case rel => exact ⟨k + 1, by omega, by go_num, (((HRM.out.set _ _).set _ _).set _ _).set _ _, HNX.out, by simpa using hsz1, (((hw1.setCell (Nat.le_refl _) _).setCell (Nat.le_refl _) _).setCell (Nat.le_refl _) _).setCell (Nat.le_refl _) _⟩
      case measure => simp [intOf]; omega
    · have e : ms.take k = ms := List.take_of_length_le (by omega)
      have HE := hrw.out
      rw [e] at HE
      have HEE : Hid (∀ j x, ms[j]? = some x → MAt front (w.heap.size + 1) wr w.heap.size (0 + j * 4) x) := HE
      clear HE e
      go_wp2
      go_ret
      exact ⟨_, rfl, ⟨_, _, rfl, fun _ h => by simp at h, fun _ => ⟨w.heap.size, 0, rfl, Nat.le_refl _, ⟨hsz, fun _ j hj => by rw [Nat.zero_add]; exact (hrm.out j hj).2⟩, fun j x hj => by
        obtain ⟨q1, q2, c0, c1, c2, c3, c4⟩ := HEE.out j x hj
        exact ⟨q1, q2, c0, c1, c2, c3, c4.weak (by omega)⟩⟩⟩, hb⟩

set_option maxRecDepth 100000 in
set_option maxHeartbeats 1000000 in
theorem toClass (c : Cls) (aa ac : Option Addr) (ca cc : Nat) (hs : SmallC c) (w : World) (hi : SI false 0 w (.slice aa c.fields.length ca) c.fields) (hc : SM wide 0 w (.slice ac c.meths.length cc) c.meths) :
    Calls Try.prog 40 #[.agg #[.int .i64 c.super, .slice aa c.fields.length ca, .slice ac c.meths.length cc]] w fun e w' => ∃ va vc, e = .returned (.agg #[.int .i64 c.super, va, vc]) ∧ CV front w.heap.size w' va vc c ∧ Below w.heap.size w w' := by
  have HI : Hid (SI false 0 w (.slice aa c.fields.length ca) c.fields) := hi
  have HC : Hid (SM wide 0 w (.slice ac c.meths.length cc) c.meths) := hc
  have h1 := hs.1
  have h2 := hs.2.1
  have HSM : Hid (∀ m ∈ c.meths, SmallM m) := hs.2.2
  clear hi hc hs
  go_enter Try.func40, Try.ntmps40
  go_wp2_with fail
  refine (toInts' aa ca c.fields h1 _ ?_).mono ?_
  · exact SI.on HI.out (Keep.of (by go_grown))
  rintro e w1 ⟨va, rfl, hi1, hb1⟩
  obtain ⟨a1, c1, rfl⟩ := hi1.form
  have hw1 : Below w.heap.size w w1 := below_over (by go_grown) hb1
  have A1 : Hid (Cells w1 w.heap.size [.int .i64 c.super, .slice aa c.fields.length ca, .slice ac c.meths.length cc]) := by
    show Cells _ _ _
    refine Cells.on ?_ hb1
    exact ((Cells.new w _ rfl _ _).alloc _).alloc _
  have R1 : Hid (Cells w1 (w.heap.size + 1) [.int .i64 0, .slice none 0 0, .slice none 0 0]) := by
    show Cells _ _ _
    refine Cells.on ?_ hb1
    exact (Cells.new (w.alloc _) _ (by simp) _ _).alloc _
  have O1 : Hid (Cells w1 (w.heap.size + 1 + 1) [.int .i64 c.super, .slice none 0 0, .slice none 0 0]) := by
    show Cells _ _ _
    refine Cells.on ?_ hb1
    exact Cells.new ((w.alloc _).alloc _) _ (by simp) _ _
  have HV1 : Hid (SI true (w.heap.size + 1 + 1 + 1) w1 (.slice a1 c.fields.length c1) c.fields) := SI.weak hi1 (by simp)
  have hz1 : w.heap.size + 1 + 1 + 1 ≤ w1.heap.size := by have := hb1.size; simpa using this
  clear hi1 hb1
  generalize hs : w.heap.size = s at *
  have HSS : Hid (w.heap.size = s) := hs
  clear hs
  obtain ⟨o1, p1⟩ := O1.out.g1
  have N21 : Hid (s + 1 + 1 ≠ s + 1) := by show s + 1 + 1 ≠ s + 1; omega
  have N20 : Hid (s + 1 + 1 ≠ s) := by show s + 1 + 1 ≠ s; omega
  have a3 := ((A1.out.far ⟨s + 1 + 1, 1, none⟩ (.slice a1 c.fields.length c1) N20.out).g2).1
  have O2 : Hid (Cells (w1.setCell ⟨s + 1 + 1, 1, none⟩ (.slice a1 c.fields.length c1)) (s + 1 + 1) [.int .i64 c.super, .slice a1 c.fields.length c1, .slice none 0 0]) := O1.out.s1 (.slice a1 c.fields.length c1)
  have R2 : Hid (Cells (w1.setCell ⟨s + 1 + 1, 1, none⟩ (.slice a1 c.fields.length c1)) (s + 1) [.int .i64 0, .slice none 0 0, .slice none 0 0]) := R1.out.far ⟨s + 1 + 1, 1, none⟩ (.slice a1 c.fields.length c1) N21.out
  have hk2 : Keep (s + 1 + 1 + 1) w1 (w1.setCell ⟨s + 1 + 1, 1, none⟩ (.slice a1 c.fields.length c1)) := Keep.set w1 (p := ⟨s + 1 + 1, 1, none⟩) (by simp) _
  have HV2 : Hid (SI true (s + 1 + 1 + 1) (w1.setCell ⟨s + 1 + 1, 1, none⟩ (.slice a1 c.fields.length c1)) (.slice a1 c.fields.length c1) c.fields) := SI.on HV1.out hk2
  have hz2 := Nat.le_trans hz1 hk2.size
  have HK2 : Hid (Below s w (w1.setCell ⟨s + 1 + 1, 1, none⟩ (.slice a1 c.fields.length c1))) := hw1.setCell (p := ⟨s + 1 + 1, 1, none⟩) (by simp; omega) _
  clear hk2 HV1 hw1 A1 R1 O1 hz1
  go_wp2_with fail
  generalize w1.setCell ⟨s + 1 + 1, 1, none⟩ (.slice a1 c.fields.length c1) = w2 at *
  refine (toMethods c.meths ac cc h2 HSM.out _ (SM.on HC.out (Keep.of (by rw [HSS.out]; exact HK2.out)))).mono ?_
  rintro e w3 ⟨vc, rfl, hc3, hb3⟩
  obtain ⟨a2, c2, rfl⟩ := hc3.form
  have O3 : Hid (Cells w3 (s + 1 + 1) [.int .i64 c.super, .slice a1 c.fields.length c1, .slice none 0 0]) := O2.out.on hb3
  have R3 := R2.out.on hb3
  have HV3 : Hid (SI true (s + 1 + 1 + 1) w3 (.slice a1 c.fields.length c1) c.fields) := SI.on HV2.out (Keep.of hb3)
  have HC3 : Hid (SM front (s + 1 + 1 + 1) w3 (.slice a2 c.meths.length c2) c.meths) := SM.weak hc3 hz2
  have HW3 : Hid (Below s w w3) := HK2.out.trans (hb3.mono (by omega))
  clear hc3 hb3 a3 o1 p1 O2 R2 HV2 HK2 hz2
  have O4 := O3.out.s2 (.slice a2 c.meths.length c2)
  have R4 := R3.far ⟨s + 1 + 1, 2, none⟩ (.slice a2 c.meths.length c2) N21.out
  have R5 := ((R4.s0 (.int .i64 c.super)).s1 (.slice a1 c.fields.length c1)).s2 (.slice a2 c.meths.length c2)
  obtain ⟨o3, p3⟩ := O3.out.g2
  obtain ⟨i0, _⟩ := O4.g0
  obtain ⟨i1, _⟩ := O4.g1
  obtain ⟨i2, _⟩ := O4.g2
  obtain ⟨r0, q0⟩ := R4.g0
  obtain ⟨r1, q1⟩ := R4.g1
  obtain ⟨r2, q2⟩ := R4.g2
  obtain ⟨e0, _⟩ := R5.g0
  obtain ⟨e1, _⟩ := R5.g1
  obtain ⟨e2, _⟩ := R5.g2
  clear O4 R4 R5 R3 O3
  go_wp2
  refine bodyPost_ret (v := .agg #[.int .i64 c.super, .slice a1 c.fields.length c1, .slice a2 c.meths.length c2]) (by simp [results, Try.results40, go_sem, e0, e1, e2]) rfl ?_
  rw [HSS.out]
  have hk : ∀ (u : World) (j i : Nat) (x : Value), j < s + 1 + 1 + 1 → Keep (s + 1 + 1 + 1) u (u.setCell ⟨j, i, none⟩ x) := fun u j i x hj => Keep.set u (p := ⟨j, i, none⟩) hj x
  have hkk := (((hk w3 (s + 1 + 1) 2 (.slice a2 c.meths.length c2) (by omega)).trans (hk _ (s + 1) 0 (.int .i64 c.super) (by omega))).trans (hk _ (s + 1) 1 (.slice a1 c.fields.length c1) (by omega))).trans (hk _ (s + 1) 2 (.slice a2 c.meths.length c2) (by omega))
  have hbb := (((HW3.out.setCell (p := ⟨s + 1 + 1, 2, none⟩) (by simp; omega) (.slice a2 c.meths.length c2)).setCell (p := ⟨s + 1, 0, none⟩) (by simp) (.int .i64 c.super)).setCell (p := ⟨s + 1, 1, none⟩) (by simp) (.slice a1 c.fields.length c1)).setCell (p := ⟨s + 1, 2, none⟩) (by simp) (.slice a2 c.meths.length c2)
  exact ⟨_, _, rfl, ⟨SI.weak (SI.on HV3.out hkk) (by omega), SM.weak (SM.on HC3.out hkk) (by omega)⟩, hbb⟩

set_option maxRecDepth 100000 in
set_option maxHeartbeats 1000000 in
theorem toClasses (ms : Prg) (a : Option Addr) (cap : Nat) (hs0 : SmallP ms) (w : World) (hm : SK wide 0 w (.slice a ms.length cap) ms) :
    Calls Try.prog 21 #[.slice a ms.length cap] w fun e w' => ∃ v, e = .returned v ∧ SK front w.heap.size w' v ms ∧ Below w.heap.size w w' := by
  obtain ⟨i0, hi, hz0, hz1, hz2⟩ := info_parts infoCl
  have hn := hs0.1
  have HM : Hid (SK wide 0 w (.slice a ms.length cap) ms) := hm
  have HS : Hid (∀ m ∈ ms, SmallC m) := hs0.2
  clear hm hs0
  go_enter Try.func21, Try.ntmps21
  go_wp2_with (at_make; refine wpList_make_full _ rfl _ _ 26 rfl w.heap.size 63 i0 (.agg #[.int .i64 0, .slice none 0 0, .slice none 0 0]) 3 Try.underlying26 hi hz0 hz1 .i64 .i64 _ _ ms.length rfl rfl rfl rfl (by rw [hz2]; omega) (by unfold maxLen; omega) (Nat.le_refl _) ?_; intro w0 hown0 hgrow0)
  have hroom := room_own hown0 (Nat.le_refl _)
  have hsz0 : w.heap.size < w0.heap.size := row_made_lt hown0
  have hb0 : Below w.heap.size w w0 := (Below.refl _ _).grown hgrow0 (Nat.le_refl _) (fun _ h => by simp at h)
  clear hown0 hgrow0
  go_loopw [4] (fun i wr => ∃ k : Nat, k ≤ ms.length ∧ i = .int .i64 k ∧ Hid (Room wr w.heap.size (ms.length * 3)) ∧ Hid (∀ j x, (ms.take k)[j]? = some x → CAt front (w.heap.size + 1) wr w.heap.size (0 + j * 3) x) ∧ w.heap.size < wr.heap.size ∧ Below w.heap.size w wr) (fun i _ => ms.length - (intOf i).toNat)
  case atStart => exact ⟨0, Nat.zero_le _, rfl, hroom, fun j x h => by simp at h, hsz0, hb0⟩
  case round =>
    obtain ⟨k, hk, rfl, hrm, hrw, hsz, hb⟩ := hrel
    by_cases hlt : k < ms.length
    · obtain ⟨b, o, rfl, _, va, vc, h0, h1, h2, hmv⟩ := (SK.on HM.out (Keep.of hb)).get hlt
      obtain ⟨aa, ca, rfl⟩ := hmv.1.form
      obtain ⟨ac, cc, rfl⟩ := hmv.2.form
      have HMA : Hid (SI false 0 wr (.slice aa ms[k].fields.length ca) ms[k].fields) := hmv.1
      have HMC : Hid (SM wide 0 wr (.slice ac ms[k].meths.length cc) ms[k].meths) := hmv.2
      have HSM : Hid (SmallC ms[k]) := HS.out _ (List.getElem_mem hlt)
      obtain ⟨⟨x0, d0⟩, f0⟩ := hrm.out (k * 3) (by omega)
      obtain ⟨⟨x1, d1⟩, f1⟩ := hrm.out (k * 3 + 1) (by omega)
      obtain ⟨⟨x2, d2⟩, f2⟩ := hrm.out (k * 3 + 2) (by omega)
      have HN : Hid (∀ u, Below wr.heap.size wr u → ∀ va vc, CV front (w.heap.size + 1) u va vc ms[k] → ∀ j x, (ms.take (k + 1))[j]? = some x → CAt front (w.heap.size + 1) (((u.setCell ⟨w.heap.size, k * 3, none⟩ (.int .i64 ms[k].super)).setCell ⟨w.heap.size, k * 3 + 1, none⟩ va).setCell ⟨w.heap.size, k * 3 + 2, none⟩ vc) w.heap.size (0 + j * 3) x) :=
        fun u hu va vc hv => classes_next hlt (hrm.out.on hu) (fun j x hj => by
          obtain ⟨q1, q2, c0, c1, c2, c4⟩ := hrw.out j x hj
          have l : w.heap.size < wr.heap.size := hsz
          exact ⟨q1, q2, (hu.cell l).trans c0, (hu.cell l).trans c1, (hu.cell l).trans c2, c4.on (Keep.of hu)⟩) hv
      clear hrw hmv HM
      generalize ms[k] = m at *
      go_wp2_with fail
      refine (toClass m aa ac ca cc HSM.out _ HMA.out HMC.out).mono ?_
      rintro e w1 ⟨va, vc, rfl, hv1, hb1⟩
      obtain ⟨a1, c1, rfl⟩ := hv1.1.form
      obtain ⟨a2, c2, rfl⟩ := hv1.2.form
      have hw1 : Below w.heap.size w w1 := below_over hb hb1
      have hsz1 : w.heap.size < w1.heap.size := Nat.lt_of_lt_of_le hsz hb1.size
      have l0 : w.heap.size < wr.heap.size := hsz
      have d0' := (hb1.cell l0).trans d0
      have d1' := (hb1.cell l0).trans d1
      have d2' := (hb1.cell l0).trans d2
      have f0' := (hb1.frozen l0).trans f0
      have f1' := (hb1.frozen l0).trans f1
      have f2' := (hb1.frozen l0).trans f2
      have HRM : Hid (Room w1 w.heap.size (ms.length * 3)) := hrm.out.on hb1
      have HNX : Hid (∀ j x, (ms.take (k + 1))[j]? = some x → CAt front (w.heap.size + 1) (((w1.setCell ⟨w.heap.size, k * 3, none⟩ (.int .i64 m.super)).setCell ⟨w.heap.size, k * 3 + 1, none⟩ (.slice a1 m.fields.length c1)).setCell ⟨w.heap.size, k * 3 + 2, none⟩ (.slice a2 m.meths.length c2)) w.heap.size (0 + j * 3) x) := HN.out w1 hb1 _ _ (hv1.weak hsz)
      clear d0 d1 d2 f0 f1 f2 h0 h1 h2 hb1 hrm HN hb hv1 HSM HMA HMC
      go_wp2
      go_roundw
      case rel => exact ⟨k + 1, by omega, by go_num, ((HRM.out.set _ _).set _ _).set _ _, HNX.out, by simpa using hsz1, ((hw1.setCell (Nat.le_refl _) _).setCell (Nat.le_refl _) _).setCell (Nat.le_refl _) _⟩
      case measure => simp [intOf]; omega
    · have e : ms.take k = ms := List.take_of_length_le (by omega)
      have HE := hrw.out
      rw [e] at HE
      have HEE : Hid (∀ j x, ms[j]? = some x → CAt front (w.heap.size + 1) wr w.heap.size (0 + j * 3) x) := HE
      clear HE e
      go_wp2
      go_ret
      exact ⟨_, rfl, ⟨_, _, rfl, fun _ h => by simp at h, fun _ => ⟨w.heap.size, 0, rfl, Nat.le_refl _, ⟨hsz, fun _ j hj => by rw [Nat.zero_add]; exact (hrm.out j hj).2⟩, fun j x hj => by
        obtain ⟨q1, q2, c0, c1, c2, c4⟩ := HEE.out j x hj
        exact ⟨q1, q2, c0, c1, c2, c4.weak (by omega)⟩⟩⟩, hb⟩

set_option maxRecDepth 100000 in
set_option maxHeartbeats 1000000 in
theorem toProgram (p : Prg) (a : Option Addr) (cap : Nat) (hs : SmallP p) (w : World) (hm : SK wide 0 w (.slice a p.length cap) p) :
    Calls Try.prog 7 #[.agg #[.slice a p.length cap]] w fun e w' => ∃ v, e = .returned (.agg #[v]) ∧ SK front w.heap.size w' v p ∧ Below w.heap.size w w' := by
  have HM : Hid (SK wide 0 w (.slice a p.length cap) p) := hm
  have HS : Hid (SmallP p) := hs
  clear hm hs
  go_enter Try.func7, Try.ntmps7
  go_wp2_with fail
  refine (toClasses p a cap HS.out _ ?_).mono ?_
  · exact SK.on HM.out (Keep.of (by go_grown))
  rintro e w1 ⟨v, rfl, hv, hb1⟩
  obtain ⟨a1, c1, rfl⟩ := hv.form
  have hw1 : Below w.heap.size w w1 := below_over (by go_grown) hb1
  have R1 : Hid (Cells w1 (w.heap.size + 1) [.slice none 0 0]) := by
    show Cells _ _ _
    refine Cells.on ?_ hb1
    exact (Cells.new (w.alloc _) _ (by simp) _ _).alloc _
  have O1 : Hid (Cells w1 (w.heap.size + 1 + 1) [.slice none 0 0]) := by
    show Cells _ _ _
    refine Cells.on ?_ hb1
    exact Cells.new ((w.alloc _).alloc _) _ (by simp) _ _
  have HV1 : Hid (SK front (w.heap.size + 1 + 1 + 1) w1 (.slice a1 p.length c1) p) := SK.weak hv (by simp)
  clear hv hb1
  generalize hs : w.heap.size = s at *
  have HSS : Hid (w.heap.size = s) := hs
  clear hs
  have N21 : Hid (s + 1 + 1 ≠ s + 1) := by show s + 1 + 1 ≠ s + 1; omega
  have O4 := O1.out.s0 (.slice a1 p.length c1)
  have R4 := R1.out.far ⟨s + 1 + 1, 0, none⟩ (.slice a1 p.length c1) N21.out
  have R5 := R4.s0 (.slice a1 p.length c1)
  obtain ⟨o3, p3⟩ := O1.out.g0
  obtain ⟨i0, _⟩ := O4.g0
  obtain ⟨r0, q0⟩ := R4.g0
  obtain ⟨e0, _⟩ := R5.g0
  have HW : Hid (Below s w w1) := hw1
  clear O4 R4 R5 R1 O1 hw1
  go_wp2
  refine bodyPost_ret (v := .agg #[.slice a1 p.length c1]) (by simp [results, Try.results7, go_sem, e0]) rfl ?_
  rw [HSS.out]
  have hk : ∀ (u : World) (j i : Nat) (x : Value), j < s + 1 + 1 + 1 → Keep (s + 1 + 1 + 1) u (u.setCell ⟨j, i, none⟩ x) := fun u j i x hj => Keep.set u (p := ⟨j, i, none⟩) hj x
  have hkk := (hk w1 (s + 1 + 1) 0 (.slice a1 p.length c1) (by omega)).trans (hk _ (s + 1) 0 (.slice a1 p.length c1) (by omega))
  have hbb := (HW.out.setCell (p := ⟨s + 1 + 1, 0, none⟩) (by simp; omega) (.slice a1 p.length c1)).setCell (p := ⟨s + 1, 0, none⟩) (by simp) (.slice a1 p.length c1)
  exact ⟨_, rfl, SK.weak (SK.on HV1.out hkk) (by omega), hbb⟩
end Pg
end Go.Proofs.Ytdomclicgajihaa

/- Contracts of the laws' own comparing of programs, where both are the same. -/
namespace Go.Proofs.Ytdomclicgajihaa
namespace Pg
open Go.ChangeShapes Go.WideShapes Go.ChangeAt Go.RowKit St

set_option maxHeartbeats 800000 in
theorem eqInts' {f f' : Bool} (B B' : Nat) (a a' : Option Addr) (cap cap' : Nat) (l : List Int) (hl : l.length ≤ 1048576) (w : World) (h1 : SI f B w (.slice a l.length cap) l) (h2 : SI f' B' w (.slice a' l.length cap') l) :
    Calls Try.prog 15 #[.slice a l.length cap, .slice a' l.length cap'] w fun e w' => e = .returned (.bool true) ∧ Below w.heap.size w w' := by
  have H1 : Hid (SI f B w (.slice a l.length cap) l) := h1
  have H2 : Hid (SI f' B' w (.slice a' l.length cap') l) := h2
  clear h1 h2
  go_enter Try.func15, Try.ntmps15
  go_wp2
  go_loopw [5] (fun i wr => ∃ k : Nat, k ≤ l.length ∧ i = .int .i64 k ∧ Below w.heap.size w wr) (fun i _ => l.length - (intOf i).toNat)
  case atStart => exact ⟨0, Nat.zero_le _, rfl, Below.refl _ _⟩
  case round =>
    obtain ⟨k, hk, rfl, hb⟩ := hrel
    by_cases hlt : k < l.length
    · obtain ⟨b, o, rfl, _, a0⟩ := (SI.on H1.out (Keep.of hb)).get hlt
      obtain ⟨b', o', rfl, _, b0⟩ := (SI.on H2.out (Keep.of hb)).get hlt
      unfold IntAt at a0 b0
      rw [Nat.mul_one] at a0 b0
      generalize l[k] = x at *
      have hki : (k : Int) < (l.length : Int) := by omega
      have hki0 : (0 : Int) ≤ (k : Int) := by omega
      have r0 := cell_regrown a0
      have s0 := cell_regrown b0
      go_wp2_with fail
      refine wp_region_quiet_below (by kernel_rfl) (by kernel_rfl) ?_
      repeat (quiet_step (fail))
      refine wpQuiet_nil ?_
      intro _ hw'
      obtain ⟨⟨dq, osq⟩, hw''⟩ := hw'
      subst hw''
      have hw1 : Below w.heap.size w (Sort.grow (redrawn wr dq) osq) := below_over hb (below_regrown wr dq osq)
      clear a0 b0 r0 s0 hb
      generalize Sort.grow (redrawn wr dq) osq = w1 at *
      go_wp2
      go_roundw
      case rel => exact ⟨k + 1, by omega, by go_num, hw1⟩
      case measure => simp [intOf]; omega
    · go_wp2
      go_ret
      exact ⟨rfl, hb⟩
theorem eqRow' (B B' : Nat) (v v' : Value) (l : List Tx.Ins) (hl : l.length ≤ 1048576) (w : World) (h1 : CS B w v l) (h2 : CS B' w v' l) :
    Calls Try.prog 91 #[v, v'] w fun e w' => e = .returned (.bool true) ∧ Below w.heap.size w w' := by
  obtain ⟨g, cap, rfl, _, _, r1, _⟩ := h1
  obtain ⟨g', cap', rfl, _, _, r2, _⟩ := h2
  exact eqRows g g' cap cap' l hl w r1 r2

set_option maxHeartbeats 800000 in
theorem eqMethod (B B' : Nat) (m : Meth) (aa aa' ac ac' : Option Addr) (ca ca' cc cc' : Nat) (hs : SmallM m) (w : World) (h1 : MV front B w (.slice aa m.args.length ca) (.slice ac m.code.length cc) m) (h2 : MV front B' w (.slice aa' m.args.length ca') (.slice ac' m.code.length cc') m) :
    Calls Try.prog 84 #[.agg #[.int .i64 m.name, .slice aa m.args.length ca, .int .i64 m.gives, .slice ac m.code.length cc], .agg #[.int .i64 m.name, .slice aa' m.args.length ca', .int .i64 m.gives, .slice ac' m.code.length cc']] w fun e w' => e = .returned (.bool true) ∧ Below w.heap.size w w' := by
  have H1 : Hid (MV front B w (.slice aa m.args.length ca) (.slice ac m.code.length cc) m) := h1
  have H2 : Hid (MV front B' w (.slice aa' m.args.length ca') (.slice ac' m.code.length cc') m) := h2
  have hs1 := hs.1
  have hs2 := hs.2
  clear h1 h2 hs
  go_enter Try.func84, Try.ntmps84
  go_wp2_with fail
  refine (eqInts' (f := true) (f' := true) B B' aa aa' ca ca' m.args hs1 _ ?_ ?_).mono ?_
  · exact SI.on H1.out.1 (Keep.of (by go_grown))
  · exact SI.on H2.out.1 (Keep.of (by go_grown))
  rintro e w1 ⟨rfl, hb1⟩
  have hw1 : Below w.heap.size w w1 := below_over (by go_grown) hb1
  have A1 : Cells w1 w.heap.size [.int .i64 m.name, .slice aa m.args.length ca, .int .i64 m.gives, .slice ac m.code.length cc] := by
    refine Cells.on ?_ hb1
    exact (Cells.new w _ rfl _ _).alloc _
  have B1 : Cells w1 (w.heap.size + 1) [.int .i64 m.name, .slice aa' m.args.length ca', .int .i64 m.gives, .slice ac' m.code.length cc'] := by
    refine Cells.on ?_ hb1
    exact Cells.new (w.alloc _) _ (by simp) _ _
  have a2 := A1.g2.1
  have a3 := A1.g3.1
  have b2 := B1.g2.1
  have b3 := B1.g3.1
  clear A1 B1 hb1
  go_wp2_with fail
  refine (eqRow' B B' _ _ m.code hs2 _ (front.on H1.out.2 (Keep.of hw1)) (front.on H2.out.2 (Keep.of hw1))).mono ?_
  rintro e w2 ⟨rfl, hb2⟩
  have hw2 : Below w.heap.size w w2 := below_over hw1 hb2
  clear hb2 hw1 a2 a3 b2 b3
  go_wp2
  go_ret
  exact ⟨rfl, hw2⟩

set_option maxRecDepth 100000 in
set_option maxHeartbeats 1000000 in
theorem eqMethods (B B' : Nat) (a a' : Option Addr) (cap cap' : Nat) (ms : List Meth) (hn : ms.length ≤ 1048576) (hs : ∀ m ∈ ms, SmallM m) (w : World) (h1 : SM front B w (.slice a ms.length cap) ms) (h2 : SM front B' w (.slice a' ms.length cap') ms) :
    Calls Try.prog 70 #[.slice a ms.length cap, .slice a' ms.length cap'] w fun e w' => e = .returned (.bool true) ∧ Below w.heap.size w w' := by
  have H1 : Hid (SM front B w (.slice a ms.length cap) ms) := h1
  have H2 : Hid (SM front B' w (.slice a' ms.length cap') ms) := h2
  have HS : Hid (∀ m ∈ ms, SmallM m) := hs
  clear h1 h2 hs
  go_enter Try.func70, Try.ntmps70
  go_wp2
  go_loopw [5] (fun i wr => ∃ k : Nat, k ≤ ms.length ∧ i = .int .i64 k ∧ Below w.heap.size w wr) (fun i _ => ms.length - (intOf i).toNat)
  case atStart => exact ⟨0, Nat.zero_le _, rfl, Below.refl _ _⟩
  case round =>
    obtain ⟨k, hk, rfl, hb⟩ := hrel
    by_cases hlt : k < ms.length
    · obtain ⟨b, o, rfl, _, va, vc, a0, a1, a2, a3, hma⟩ := (SM.on H1.out (Keep.of hb)).get hlt
      obtain ⟨b', o', rfl, _, va', vc', b0, b1, b2, b3, hmb⟩ := (SM.on H2.out (Keep.of hb)).get hlt
      obtain ⟨x1, y1, rfl⟩ := hma.1.form
      obtain ⟨x2, y2, rfl⟩ := front.form hma.2
      obtain ⟨x3, y3, rfl⟩ := hmb.1.form
      obtain ⟨x4, y4, rfl⟩ := front.form hmb.2
      have hsm := HS.out _ (List.getElem_mem hlt)
      generalize ms[k] = m at *
      have hki : (k : Int) < (ms.length : Int) := by omega
      have hki0 : (0 : Int) ≤ (k : Int) := by omega
      have r0 := cell_regrown a0
      have r1 := cell_regrown a1
      have r2 := cell_regrown a2
      have r3 := cell_regrown a3
      have s0 := cell_regrown b0
      have s1 := cell_regrown b1
      have s2 := cell_regrown b2
      have s3 := cell_regrown b3
      have cE : ∀ d os, Calls Try.prog 84 #[.agg #[.int .i64 m.name, .slice x1 m.args.length y1, .int .i64 m.gives, .slice x2 m.code.length y2], .agg #[.int .i64 m.name, .slice x3 m.args.length y3, .int .i64 m.gives, .slice x4 m.code.length y4]] (Sort.grow (redrawn wr d) os) fun e w'' => e = .returned (.bool true) ∧ ∃ p : Regrown, w'' = Sort.grow (redrawn wr p.d) p.os := by
        intro d os
        exact Calls.regrown_of (eqMethod B B' m x1 x3 x2 x4 y1 y3 y2 y4 hsm _ (hma.on (Keep.of (below_regrown wr d os))) (hmb.on (Keep.of (below_regrown wr d os))))
      clear hma hmb hsm
      go_wp2_with fail
      refine wp_region_quiet_below (by kernel_rfl) (by kernel_rfl) ?_
      repeat (quiet_step ((go_at_call 84; exact cE _ _)))
      refine wpQuiet_nil ?_
      intro _ hw'
      obtain ⟨⟨dq, osq⟩, hw''⟩ := hw'
      subst hw''
      have hw1 : Below w.heap.size w (Sort.grow (redrawn wr dq) osq) := below_over hb (below_regrown wr dq osq)
      clear a0 a1 a2 a3 b0 b1 b2 b3 r0 r1 r2 r3 s0 s1 s2 s3 cE hb
      generalize Sort.grow (redrawn wr dq) osq = w1 at *
      go_wp2
      go_roundw
      case rel => exact ⟨k + 1, by omega, by go_num, hw1⟩
      case measure => simp [intOf]; omega
    · go_wp2
      go_ret
      exact ⟨rfl, hb⟩

set_option maxHeartbeats 800000 in
theorem eqClass (B B' : Nat) (c : Cls) (aa aa' ac ac' : Option Addr) (ca ca' cc cc' : Nat) (hs : SmallC c) (w : World) (h1 : CV front B w (.slice aa c.fields.length ca) (.slice ac c.meths.length cc) c) (h2 : CV front B' w (.slice aa' c.fields.length ca') (.slice ac' c.meths.length cc') c) :
    Calls Try.prog 49 #[.agg #[.int .i64 c.super, .slice aa c.fields.length ca, .slice ac c.meths.length cc], .agg #[.int .i64 c.super, .slice aa' c.fields.length ca', .slice ac' c.meths.length cc']] w fun e w' => e = .returned (.bool true) ∧ Below w.heap.size w w' := by
  have H1 : Hid (CV front B w (.slice aa c.fields.length ca) (.slice ac c.meths.length cc) c) := h1
  have H2 : Hid (CV front B' w (.slice aa' c.fields.length ca') (.slice ac' c.meths.length cc') c) := h2
  have hs1 := hs.1
  have hs2 := hs.2.1
  have HS3 : Hid (∀ m ∈ c.meths, SmallM m) := hs.2.2
  clear h1 h2 hs
  go_enter Try.func49, Try.ntmps49
  go_wp2_with fail
  refine (eqInts' (f := true) (f' := true) B B' aa aa' ca ca' c.fields hs1 _ ?_ ?_).mono ?_
  · exact SI.on H1.out.1 (Keep.of (by go_grown))
  · exact SI.on H2.out.1 (Keep.of (by go_grown))
  rintro e w1 ⟨rfl, hb1⟩
  have hw1 : Below w.heap.size w w1 := below_over (by go_grown) hb1
  have A1 : Cells w1 w.heap.size [.int .i64 c.super, .slice aa c.fields.length ca, .slice ac c.meths.length cc] := by
    refine Cells.on ?_ hb1
    exact (Cells.new w _ rfl _ _).alloc _
  have B1 : Cells w1 (w.heap.size + 1) [.int .i64 c.super, .slice aa' c.fields.length ca', .slice ac' c.meths.length cc'] := by
    refine Cells.on ?_ hb1
    exact Cells.new (w.alloc _) _ (by simp) _ _
  have a2 := A1.g2.1
  have b2 := B1.g2.1
  clear A1 B1 hb1
  go_wp2_with fail
  refine (eqMethods B B' ac ac' cc cc' c.meths hs2 HS3.out _ (SM.on H1.out.2 (Keep.of hw1)) (SM.on H2.out.2 (Keep.of hw1))).mono ?_
  rintro e w2 ⟨rfl, hb2⟩
  have hw2 : Below w.heap.size w w2 := below_over hw1 hb2
  clear hb2 hw1 a2 b2
  go_wp2
  go_ret
  exact ⟨rfl, hw2⟩

set_option maxRecDepth 100000 in
set_option maxHeartbeats 1000000 in
theorem eqClasses (B B' : Nat) (a a' : Option Addr) (cap cap' : Nat) (ms : Prg) (hs : SmallP ms) (w : World) (h1 : SK front B w (.slice a ms.length cap) ms) (h2 : SK front B' w (.slice a' ms.length cap') ms) :
    Calls Try.prog 27 #[.slice a ms.length cap, .slice a' ms.length cap'] w fun e w' => e = .returned (.bool true) ∧ Below w.heap.size w w' := by
  have H1 : Hid (SK front B w (.slice a ms.length cap) ms) := h1
  have H2 : Hid (SK front B' w (.slice a' ms.length cap') ms) := h2
  have hn := hs.1
  have HS : Hid (∀ m ∈ ms, SmallC m) := hs.2
  clear h1 h2 hs
  go_enter Try.func27, Try.ntmps27
  go_wp2
  go_loopw [5] (fun i wr => ∃ k : Nat, k ≤ ms.length ∧ i = .int .i64 k ∧ Below w.heap.size w wr) (fun i _ => ms.length - (intOf i).toNat)
  case atStart => exact ⟨0, Nat.zero_le _, rfl, Below.refl _ _⟩
  case round =>
    obtain ⟨k, hk, rfl, hb⟩ := hrel
    by_cases hlt : k < ms.length
    · obtain ⟨b, o, rfl, _, va, vc, a0, a1, a2, hma⟩ := (SK.on H1.out (Keep.of hb)).get hlt
      obtain ⟨b', o', rfl, _, va', vc', b0, b1, b2, hmb⟩ := (SK.on H2.out (Keep.of hb)).get hlt
      obtain ⟨x1, y1, rfl⟩ := hma.1.form
      obtain ⟨x2, y2, rfl⟩ := hma.2.form
      obtain ⟨x3, y3, rfl⟩ := hmb.1.form
      obtain ⟨x4, y4, rfl⟩ := hmb.2.form
      have hsm := HS.out _ (List.getElem_mem hlt)
      generalize ms[k] = m at *
      have hki : (k : Int) < (ms.length : Int) := by omega
      have hki0 : (0 : Int) ≤ (k : Int) := by omega
      have r0 := cell_regrown a0
      have r1 := cell_regrown a1
      have r2 := cell_regrown a2
      have s0 := cell_regrown b0
      have s1 := cell_regrown b1
      have s2 := cell_regrown b2
      have cE : ∀ d os, Calls Try.prog 49 #[.agg #[.int .i64 m.super, .slice x1 m.fields.length y1, .slice x2 m.meths.length y2], .agg #[.int .i64 m.super, .slice x3 m.fields.length y3, .slice x4 m.meths.length y4]] (Sort.grow (redrawn wr d) os) fun e w'' => e = .returned (.bool true) ∧ ∃ p : Regrown, w'' = Sort.grow (redrawn wr p.d) p.os := by
        intro d os
        exact Calls.regrown_of (eqClass B B' m x1 x3 x2 x4 y1 y3 y2 y4 hsm _ (hma.on (Keep.of (below_regrown wr d os))) (hmb.on (Keep.of (below_regrown wr d os))))
      clear hma hmb hsm
      go_wp2_with fail
      refine wp_region_quiet_below (by kernel_rfl) (by kernel_rfl) ?_
      repeat (quiet_step ((go_at_call 49; exact cE _ _)))
      refine wpQuiet_nil ?_
      intro _ hw'
      obtain ⟨⟨dq, osq⟩, hw''⟩ := hw'
      subst hw''
      have hw1 : Below w.heap.size w (Sort.grow (redrawn wr dq) osq) := below_over hb (below_regrown wr dq osq)
      clear a0 a1 a2 b0 b1 b2 r0 r1 r2 s0 s1 s2 cE hb
      generalize Sort.grow (redrawn wr dq) osq = w1 at *
      go_wp2
      go_roundw
      case rel => exact ⟨k + 1, by omega, by go_num, hw1⟩
      case measure => simp [intOf]; omega
    · go_wp2
      go_ret
      exact ⟨rfl, hb⟩

set_option maxHeartbeats 800000 in
theorem eqProgram (B B' : Nat) (v v' : Value) (p : Prg) (hs : SmallP p) (w : World) (h1 : SK front B w v p) (h2 : SK front B' w v' p) :
    Calls Try.prog 9 #[.agg #[v], .agg #[v']] w fun e w' => e = .returned (.bool true) ∧ Below w.heap.size w w' := by
  obtain ⟨a, cap, rfl⟩ := h1.form
  obtain ⟨a', cap', rfl⟩ := h2.form
  have H1 : Hid (SK front B w (.slice a p.length cap) p) := h1
  have H2 : Hid (SK front B' w (.slice a' p.length cap') p) := h2
  have HS : Hid (SmallP p) := hs
  clear h1 h2 hs
  go_enter Try.func9, Try.ntmps9
  go_wp2_with fail
  refine (eqClasses B B' a a' cap cap' p HS.out _ ?_ ?_).mono ?_
  · exact SK.on H1.out (Keep.of (by go_grown))
  · exact SK.on H2.out (Keep.of (by go_grown))
  rintro e w1 ⟨rfl, hb1⟩
  have hw1 : Below w.heap.size w w1 := below_over (by go_grown) hb1
  clear hb1
  go_wp2
  go_ret
  exact ⟨rfl, hw1⟩
end Pg
end Go.Proofs.Ytdomclicgajihaa

/- Contracts of the laws' own marking of programs: what it leaves alone. -/
namespace Go.Proofs.Ytdomclicgajihaa
namespace Pg
open Go.ChangeShapes Go.WideShapes Go.ChangeAt Go.RowKit St

/-- From u to v numbers alone have turned, in blocks from B1 on and below B2. -/
structure Mrk (B1 B2 : Nat) (u v : World) : Prop where
  os : v.os = u.os
  tape : v.tape = u.tape
  output : v.output = u.output
  size : u.heap.size ≤ v.heap.size
  far : ∀ k, k < u.heap.size → (k < B1 ∨ B2 ≤ k) → v.heap[k]? = u.heap[k]?
  cell : ∀ p : Addr, p.block < u.heap.size → v.cell? p = u.cell? p ∨ ((∃ x, u.cell? p = some (.int .i64 x)) ∧ ∃ y, v.cell? p = some (.int .i64 y))
  frz : ∀ p : Addr, p.block < u.heap.size → v.frozen? p = u.frozen? p
theorem Mrk.refl (B1 B2 : Nat) (u : World) : Mrk B1 B2 u u := ⟨rfl, rfl, rfl, Nat.le_refl _, fun _ _ _ => rfl, fun _ _ => .inl rfl, fun _ _ => rfl⟩
theorem Mrk.trans {B1 B2 : Nat} {u v w : World} (h : Mrk B1 B2 u v) (k : Mrk B1 B2 v w) : Mrk B1 B2 u w :=
  ⟨k.os.trans h.os, k.tape.trans h.tape, k.output.trans h.output, Nat.le_trans h.size k.size, fun i hi hf => (k.far i (Nat.lt_of_lt_of_le hi h.size) hf).trans (h.far i hi hf), fun p hp => by
    have hp' := Nat.lt_of_lt_of_le hp h.size
    rcases h.cell p hp with h1 | ⟨h1, y, h2⟩
    · rcases k.cell p hp' with k1 | ⟨⟨x, k1⟩, k2⟩
      · exact .inl (k1.trans h1)
      · exact .inr ⟨⟨x, h1 ▸ k1⟩, k2⟩
    · rcases k.cell p hp' with k1 | ⟨_, k2⟩
      · exact .inr ⟨h1, y, k1.trans h2⟩
      · exact .inr ⟨h1, k2⟩, fun p hp => (k.frz p (Nat.lt_of_lt_of_le hp h.size)).trans (h.frz p hp)⟩
theorem Mrk.set {B1 B2 : Nat} (u : World) {p : Addr} (h1 : B1 ≤ p.block) (h2 : p.block < B2) {x : Int} (hx : u.cell? p = some (.int .i64 x)) (y : Int) : Mrk B1 B2 u (u.setCell p (.int .i64 y)) := by
  have hb := (Below.refl 0 u).setCell (p := p) (Nat.zero_le _) (.int .i64 y)
  refine ⟨hb.os, hb.tape, hb.output, hb.size, fun k _ hf => Below.heap_setCell u p _ k (by omega), fun q hq => ?_, fun q _ => by simp⟩
  by_cases e : p = q
  · subst e
    exact .inr ⟨⟨x, hx⟩, y, World.cell?_setCell_same _ _ _ hx⟩
  · exact .inl (World.cell?_setCell_other _ _ _ _ e)
theorem Mrk.of {B1 B2 : Nat} {u v : World} (h : Below u.heap.size u v) : Mrk B1 B2 u v :=
  ⟨h.os, h.tape, h.output, h.size, fun k hk _ => h.block k hk, fun _ hp => .inl (h.cell hp), fun _ hp => h.frozen hp⟩
theorem Mrk.below {B1 B2 B : Nat} {u v : World} (h : Mrk B1 B2 u v) (hB : B ≤ B1) (hu : B ≤ u.heap.size) : Below B u v :=
  ⟨h.os, h.tape, h.output, h.size, fun k hk => h.far k (by omega) (.inl (by omega))⟩
theorem Mrk.keep {B1 B2 : Nat} {u v : World} (h : Mrk B1 B2 u v) : Keep B2 u v := ⟨h.size, fun k hk hl => h.far k hl (.inr hk)⟩
theorem Mrk.slice {B1 B2 : Nat} {u v : World} (h : Mrk B1 B2 u v) {p : Addr} {a : Option Addr} {n c : Nat} (hp : u.cell? p = some (.slice a n c)) : v.cell? p = some (.slice a n c) := by
  rcases h.cell p (cell_lt hp) with h1 | ⟨⟨x, h1⟩, _⟩
  · exact h1.trans hp
  · rw [hp] at h1; simp at h1
theorem Mrk.int {B1 B2 : Nat} {u v : World} (h : Mrk B1 B2 u v) {p : Addr} {x : Int} (hp : u.cell? p = some (.int .i64 x)) : ∃ y, v.cell? p = some (.int .i64 y) := by
  rcases h.cell p (cell_lt hp) with h1 | ⟨_, h2⟩
  · exact ⟨x, h1.trans hp⟩
  · exact h2
/-- A number that may be written. -/
def NumW (w : World) (p : Addr) : Prop := (∃ x, w.cell? p = some (.int .i64 x)) ∧ w.frozen? p = false
theorem NumW.mrk {B1 B2 : Nat} {u v : World} {p : Addr} (h : NumW u p) (hm : Mrk B1 B2 u v) : NumW v p := by
  obtain ⟨⟨x, hx⟩, hf⟩ := h
  exact ⟨hm.int hx, (hm.frz p (cell_lt hx)).trans hf⟩
/-- A slice of n elements, each of sz numbers that may be written, in blocks from B1 on and below B2. -/
def ShN (sz B1 B2 : Nat) (w : World) (v : Value) (n : Nat) : Prop :=
  ∃ a cap, v = .slice a n cap ∧ (0 < n → ∃ b o, a = some ⟨b, o, none⟩ ∧ B1 ≤ b ∧ b < B2 ∧ ∀ j, j < n * sz → NumW w ⟨b, o + j, none⟩)
theorem ShN.mrk {sz B1 B2 : Nat} {u v : World} {x : Value} {n : Nat} (h : ShN sz B1 B2 u x n) (hm : Mrk B1 B2 u v) : ShN sz B1 B2 v x n := by
  obtain ⟨a, cap, hv, h⟩ := h
  refine ⟨a, cap, hv, fun h0 => ?_⟩
  obtain ⟨b, o, ha, h1, h2, h3⟩ := h h0
  exact ⟨b, o, ha, h1, h2, fun j hj => (h3 j hj).mrk hm⟩
theorem ShN.form {sz B1 B2 : Nat} {u : World} {x : Value} {n : Nat} (h : ShN sz B1 B2 u x n) : ∃ a cap, x = .slice a n cap := by
  obtain ⟨a, cap, hv, _⟩ := h
  exact ⟨a, cap, hv⟩
def ShMat (B1 B2 : Nat) (w : World) (b o : Nat) (m : Meth) : Prop :=
  ∃ va vc, NumW w ⟨b, o, none⟩ ∧ w.cell? ⟨b, o + 1, none⟩ = some va ∧ NumW w ⟨b, o + 2, none⟩ ∧ w.cell? ⟨b, o + 3, none⟩ = some vc ∧ ShN 1 B1 B2 w va m.args.length ∧ ShN 3 B1 B2 w vc m.code.length
theorem ShMat.mrk {B1 B2 : Nat} {u v : World} {b o : Nat} {m : Meth} (h : ShMat B1 B2 u b o m) (hm : Mrk B1 B2 u v) : ShMat B1 B2 v b o m := by
  obtain ⟨va, vc, h0, h1, h2, h3, h4, h5⟩ := h
  obtain ⟨a1, c1, rfl⟩ := h4.form
  obtain ⟨a2, c2, rfl⟩ := h5.form
  exact ⟨_, _, h0.mrk hm, hm.slice h1, h2.mrk hm, hm.slice h3, h4.mrk hm, h5.mrk hm⟩
def ShM (B1 B2 : Nat) (w : World) (v : Value) (l : List Meth) : Prop :=
  ∃ a cap, v = .slice a l.length cap ∧ (0 < l.length → ∃ b o, a = some ⟨b, o, none⟩ ∧ B1 ≤ b ∧ b < B2 ∧ ∀ j x, l[j]? = some x → ShMat B1 B2 w b (o + j * 4) x)
theorem ShM.mrk {B1 B2 : Nat} {u v : World} {x : Value} {l : List Meth} (h : ShM B1 B2 u x l) (hm : Mrk B1 B2 u v) : ShM B1 B2 v x l := by
  obtain ⟨a, cap, hv, h⟩ := h
  refine ⟨a, cap, hv, fun h0 => ?_⟩
  obtain ⟨b, o, ha, h1, h2, h3⟩ := h h0
  exact ⟨b, o, ha, h1, h2, fun j y hj => (h3 j y hj).mrk hm⟩
theorem ShM.form {B1 B2 : Nat} {u : World} {x : Value} {l : List Meth} (h : ShM B1 B2 u x l) : ∃ a cap, x = .slice a l.length cap := by
  obtain ⟨a, cap, hv, _⟩ := h
  exact ⟨a, cap, hv⟩
def ShKat (B1 B2 : Nat) (w : World) (b o : Nat) (c : Cls) : Prop :=
  ∃ vf vm, NumW w ⟨b, o, none⟩ ∧ w.cell? ⟨b, o + 1, none⟩ = some vf ∧ w.cell? ⟨b, o + 2, none⟩ = some vm ∧ ShN 1 B1 B2 w vf c.fields.length ∧ ShM B1 B2 w vm c.meths
theorem ShKat.mrk {B1 B2 : Nat} {u v : World} {b o : Nat} {c : Cls} (h : ShKat B1 B2 u b o c) (hm : Mrk B1 B2 u v) : ShKat B1 B2 v b o c := by
  obtain ⟨va, vc, h0, h1, h3, h4, h5⟩ := h
  obtain ⟨a1, c1, rfl⟩ := h4.form
  obtain ⟨a2, c2, rfl⟩ := h5.form
  exact ⟨_, _, h0.mrk hm, hm.slice h1, hm.slice h3, h4.mrk hm, h5.mrk hm⟩
def ShK (B1 B2 : Nat) (w : World) (v : Value) (l : Prg) : Prop :=
  ∃ a cap, v = .slice a l.length cap ∧ (0 < l.length → ∃ b o, a = some ⟨b, o, none⟩ ∧ B1 ≤ b ∧ b < B2 ∧ ∀ j x, l[j]? = some x → ShKat B1 B2 w b (o + j * 3) x)
theorem ShK.mrk {B1 B2 : Nat} {u v : World} {x : Value} {l : Prg} (h : ShK B1 B2 u x l) (hm : Mrk B1 B2 u v) : ShK B1 B2 v x l := by
  obtain ⟨a, cap, hv, h⟩ := h
  refine ⟨a, cap, hv, fun h0 => ?_⟩
  obtain ⟨b, o, ha, h1, h2, h3⟩ := h h0
  exact ⟨b, o, ha, h1, h2, fun j y hj => (h3 j y hj).mrk hm⟩

/-- The shape of a fresh program. -/
theorem shI_of {B : Nat} {w : World} {v : Value} {l : List Int} (h : SI true B w v l) : ShN 1 B w.heap.size w v l.length := by
  obtain ⟨a, cap, hv, _, h⟩ := h
  refine ⟨a, cap, hv, fun h0 => ?_⟩
  obtain ⟨b, o, ha, hB, ⟨hl, hf⟩, hx⟩ := h h0
  refine ⟨b, o, ha, hB, hl, fun j hj => ?_⟩
  have hj' : j < l.length := by omega
  have := hx j _ (List.getElem?_eq_getElem hj')
  rw [Nat.mul_one] at this
  exact ⟨⟨_, this⟩, hf rfl j hj⟩
theorem row_num {w : World} {g n : Nat} {l : List Tx.Ins} (hn : n = l.length) (h : Row w g 0 l) (hr : Room w g (l.length * 3)) : ∀ j, j < n * 3 → NumW w ⟨g, 0 + j, none⟩ := by
  intro j hj
  have hq : j / 3 < l.length := by omega
  obtain ⟨c0, c1, c2⟩ := h (j / 3) _ (List.getElem?_eq_getElem hq)
  refine ⟨?_, by rw [Nat.zero_add]; exact (hr j (by omega)).2⟩
  have hm : j % 3 = 0 ∨ j % 3 = 1 ∨ j % 3 = 2 := by omega
  rcases hm with hm | hm | hm
  · have e : 0 + j / 3 * 3 = 0 + j := by omega
    rw [e] at c0; exact ⟨_, c0⟩
  · have e : 0 + j / 3 * 3 + 1 = 0 + j := by omega
    rw [e] at c1; exact ⟨_, c1⟩
  · have e : 0 + j / 3 * 3 + 2 = 0 + j := by omega
    rw [e] at c2; exact ⟨_, c2⟩
theorem shC_of {B : Nat} {w : World} {v : Value} {l : List Tx.Ins} (h : CS B w v l) : ShN 3 B w.heap.size w v l.length := by
  obtain ⟨g, cap, hv, h1, h2, h3, h4⟩ := h
  exact ⟨_, cap, hv, fun _ => ⟨g, 0, rfl, h1, h2, row_num rfl h3 h4⟩⟩
theorem shM_of {B : Nat} {w : World} {v : Value} {l : List Meth} (h : SM front B w v l) : ShM B w.heap.size w v l := by
  obtain ⟨a, cap, hv, _, h⟩ := h
  refine ⟨a, cap, hv, fun h0 => ?_⟩
  obtain ⟨b, o, ha, hB, ⟨hl, hf⟩, hx⟩ := h h0
  refine ⟨b, o, ha, hB, hl, fun j x hj => ?_⟩
  have hjl : j < l.length := (List.getElem?_eq_some_iff.1 hj).1
  have f0 := hf rfl (j * 4) (by omega)
  have f2 := hf rfl (j * 4 + 2) (by omega)
  obtain ⟨va, vc, c0, c1, c2, c3, hv1, hv2⟩ := hx j x hj
  exact ⟨va, vc, ⟨⟨_, c0⟩, f0⟩, c1, ⟨⟨_, c2⟩, by rw [Nat.add_assoc]; exact f2⟩, c3, shI_of hv1, shC_of hv2⟩
theorem shK_of {B : Nat} {w : World} {v : Value} {l : Prg} (h : SK front B w v l) : ShK B w.heap.size w v l := by
  obtain ⟨a, cap, hv, _, h⟩ := h
  refine ⟨a, cap, hv, fun h0 => ?_⟩
  obtain ⟨b, o, ha, hB, ⟨hl, hf⟩, hx⟩ := h h0
  refine ⟨b, o, ha, hB, hl, fun j x hj => ?_⟩
  have hjl : j < l.length := (List.getElem?_eq_some_iff.1 hj).1
  have f0 := hf rfl (j * 3) (by omega)
  obtain ⟨va, vc, c0, c1, c2, hv1, hv2⟩ := hx j x hj
  exact ⟨va, vc, ⟨⟨_, c0⟩, f0⟩, c1, c2, shI_of hv1, shM_of hv2⟩

/-- How many numbers are marked. -/
def cntM (m : Meth) : Nat := 2 + m.args.length + 3 * m.code.length
def cntMs (ms : List Meth) : Nat := sumN (ms.map cntM)
def cntC (c : Cls) : Nat := 1 + c.fields.length + cntMs c.meths
def cntP (p : Prg) : Nat := sumN (p.map cntC)
theorem sumN_lin {α : Type} {f g : α → Nat} (l : List α) (h : ∀ x ∈ l, f x ≤ 3 + 3 * g x) : sumN (l.map f) ≤ 3 * (l.length + sumN (l.map g)) := by
  induction l with
  | nil => simp [sumN]
  | cons x l ih =>
    have h1 := h x (by simp)
    have h2 := ih (fun y hy => h y (by simp [hy]))
    simp only [sumN, List.map_cons, List.foldr_cons, List.length_cons] at h2 ⊢
    omega
theorem cntMs_le (ms : List Meth) : cntMs ms ≤ 3 * szMs ms := sumN_lin ms (fun m _ => by unfold cntM szM; omega)
theorem cntP_le (p : Prg) : cntP p ≤ 3 * szP p := sumN_lin p (fun c _ => by have := cntMs_le c.meths; unfold cntC szC; omega)

set_option maxRecDepth 100000 in
set_option maxHeartbeats 1000000 in
theorem markInts' (B1 B2 : Nat) (a : Option Addr) (cap m n : Nat) (hm : m + n ≤ 4000000) (w : World) (hs : ShN 1 B1 B2 w (.slice a n cap) n) :
    Calls Try.prog 16 #[.slice a n cap, .int .i64 m] w fun e w' => e = .returned (.int .i64 ((m + n : Nat) : Int)) ∧ Mrk B1 B2 w w' := by
  have HS : Hid (ShN 1 B1 B2 w (.slice a n cap) n) := hs
  clear hs
  go_enter Try.func16, Try.ntmps16
  go_wp2
  go_loopw [1, 5] (fun q i wr => ∃ k : Nat, k ≤ n ∧ i = .int .i64 k ∧ q = .int .i64 ((m : Int) + (k : Int)) ∧ Hid (Mrk B1 B2 w wr)) (fun _ i _ => n - (intOf i).toNat)
  case atStart => exact ⟨0, Nat.zero_le _, rfl, by simp, Mrk.refl _ _ _⟩
  case round =>
    obtain ⟨k, hk, rfl, rfl, hon⟩ := hrel
    by_cases hlt : k < n
    · have hki : (k : Int) < (n : Int) := by omega
      obtain ⟨a', c', he, hx⟩ := HS.out.mrk hon.out
      injection he with e1 e2 e3
      subst e1
      obtain ⟨b, o, rfl, h1, h2, h3⟩ := hx (by omega)
      obtain ⟨⟨x0, d0⟩, f0⟩ := h3 k (by omega)
      have HNX : Hid (Mrk B1 B2 w (wr.setCell ⟨b, o + k, none⟩ (.int .i64 ((m : Int) + (k : Int))))) := hon.out.trans (Mrk.set wr (p := ⟨b, o + k, none⟩) h1 h2 d0 _)
      clear hx h3
      go_wp2
      go_roundw
      case rel => exact ⟨k + 1, by omega, by go_num, by go_num, HNX.out⟩
      case measure => simp [intOf]; omega
    · have HKN : Hid (k = n) := by show k = n; omega
      go_wp2
      go_ret
      exact ⟨by rw [← HKN.out]; push_cast; rfl, hon.out⟩

set_option maxRecDepth 100000 in
set_option maxHeartbeats 1000000 in
theorem markInsns' (B1 B2 : Nat) (a : Option Addr) (cap m n : Nat) (hm : m + 3 * n ≤ 4000000) (w : World) (hs : ShN 3 B1 B2 w (.slice a n cap) n) :
    Calls Try.prog 71 #[.slice a n cap, .int .i64 m] w fun e w' => e = .returned (.int .i64 ((m + 3 * n : Nat) : Int)) ∧ Mrk B1 B2 w w' := by
  have HS : Hid (ShN 3 B1 B2 w (.slice a n cap) n) := hs
  clear hs
  go_enter Try.func71, Try.ntmps71
  go_wp2
  go_loopw [1, 5] (fun q i wr => ∃ k : Nat, k ≤ n ∧ i = .int .i64 k ∧ q = .int .i64 ((m : Int) + 3 * (k : Int)) ∧ Hid (Mrk B1 B2 w wr)) (fun _ i _ => n - (intOf i).toNat)
  case atStart => exact ⟨0, Nat.zero_le _, rfl, by simp, Mrk.refl _ _ _⟩
  case round =>
    obtain ⟨k, hk, rfl, rfl, hon⟩ := hrel
    by_cases hlt : k < n
    · have hki : (k : Int) < (n : Int) := by omega
      obtain ⟨a', c', he, hx⟩ := HS.out.mrk hon.out
      injection he with e1 e2 e3
      subst e1
      obtain ⟨b, o, rfl, h1, h2, h3⟩ := hx (by omega)
      obtain ⟨⟨x0, d0⟩, f0⟩ := h3 (k * 3) (by omega)
      obtain ⟨⟨x1, d1⟩, f1⟩ := h3 (k * 3 + 1) (by omega)
      obtain ⟨⟨x2, d2⟩, f2⟩ := h3 (k * 3 + 2) (by omega)
      rw [← Nat.add_assoc] at d1 f1 d2 f2
      have M1 := Mrk.set (B1 := B1) (B2 := B2) wr (p := ⟨b, o + k * 3, none⟩) h1 h2 d0 ((m : Int) + 3 * (k : Int))
      obtain ⟨y1, e1⟩ := M1.int d1
      obtain ⟨y2, e2⟩ := M1.int d2
      have M2 := Mrk.set (B1 := B1) (B2 := B2) _ (p := ⟨b, o + k * 3 + 1, none⟩) h1 h2 e1 ((m : Int) + 3 * (k : Int) + 1)
      obtain ⟨y3, e3⟩ := M2.int e2
      have M3 := Mrk.set (B1 := B1) (B2 := B2) _ (p := ⟨b, o + k * 3 + 2, none⟩) h1 h2 e3 ((m : Int) + 3 * (k : Int) + 1 + 1)
      have HNX : Hid (Mrk B1 B2 w (((wr.setCell ⟨b, o + k * 3, none⟩ (.int .i64 ((m : Int) + 3 * (k : Int)))).setCell ⟨b, o + k * 3 + 1, none⟩ (.int .i64 ((m : Int) + 3 * (k : Int) + 1))).setCell ⟨b, o + k * 3 + 2, none⟩ (.int .i64 ((m : Int) + 3 * (k : Int) + 1 + 1)))) := hon.out.trans ((M1.trans M2).trans M3)
      clear hx h3 M1 M2 M3
      go_wp2
      go_roundw
      case rel => exact ⟨k + 1, by omega, by go_num, by go_num, HNX.out⟩
      case measure => simp [intOf]; omega
    · have HKN : Hid (k = n) := by show k = n; omega
      go_wp2
      go_ret
      exact ⟨by rw [← HKN.out]; push_cast; rfl, hon.out⟩
end Pg
end Go.Proofs.Ytdomclicgajihaa

/- Contracts of the laws' own marking of programs: methods, classes, programs. -/
namespace Go.Proofs.Ytdomclicgajihaa
namespace Pg
open Go.ChangeShapes Go.WideShapes Go.ChangeAt Go.RowKit St

theorem ShM.at {B1 B2 : Nat} {w : World} {a : Option Addr} {n cap : Nat} {l : List Meth} (h : ShM B1 B2 w (.slice a n cap) l) {k : Nat} (hk : k < l.length) : ∃ b o, a = some ⟨b, o, none⟩ ∧ B1 ≤ b ∧ b < B2 ∧ ShMat B1 B2 w b (o + k * 4) l[k] := by
  obtain ⟨a', c', he, hx⟩ := h
  injection he with e1 e2 e3
  subst e1
  obtain ⟨b, o, ha, h1, h2, h3⟩ := hx (by omega)
  exact ⟨b, o, ha, h1, h2, h3 k _ (List.getElem?_eq_getElem hk)⟩
theorem ShK.at {B1 B2 : Nat} {w : World} {a : Option Addr} {n cap : Nat} {l : Prg} (h : ShK B1 B2 w (.slice a n cap) l) {k : Nat} (hk : k < l.length) : ∃ b o, a = some ⟨b, o, none⟩ ∧ B1 ≤ b ∧ b < B2 ∧ ShKat B1 B2 w b (o + k * 3) l[k] := by
  obtain ⟨a', c', he, hx⟩ := h
  injection he with e1 e2 e3
  subst e1
  obtain ⟨b, o, ha, h1, h2, h3⟩ := hx (by omega)
  exact ⟨b, o, ha, h1, h2, h3 k _ (List.getElem?_eq_getElem hk)⟩
theorem cnt_step {ms : List Meth} {k : Nat} (hk : k < ms.length) : cntMs (ms.take (k + 1)) = cntMs (ms.take k) + cntM ms[k] := sumN_take_succ _ ms k hk
theorem cnt_take (ms : List Meth) (k : Nat) : cntMs (ms.take k) ≤ cntMs ms := sumN_take_le _ ms k
theorem cntP_step {p : Prg} {k : Nat} (hk : k < p.length) : cntP (p.take (k + 1)) = cntP (p.take k) + cntC p[k] := sumN_take_succ _ p k hk
theorem cntP_take (p : Prg) (k : Nat) : cntP (p.take k) ≤ cntP p := sumN_take_le _ p k

set_option maxRecDepth 100000 in
set_option maxHeartbeats 2000000 in
theorem markMethods' (B1 B2 : Nat) (a : Option Addr) (cap q : Nat) (ms : List Meth) (hn : ms.length ≤ 1048576) (hq : q + cntMs ms ≤ 4000000) (w : World) (hs : ShM B1 B2 w (.slice a ms.length cap) ms) :
    Calls Try.prog 50 #[.slice a ms.length cap, .int .i64 q] w fun e w' => e = .returned (.int .i64 ((q + cntMs ms : Nat) : Int)) ∧ Mrk B1 B2 w w' := by
  have HS : Hid (ShM B1 B2 w (.slice a ms.length cap) ms) := hs
  clear hs
  go_enter Try.func50, Try.ntmps50
  go_wp2
  go_loopw [1, 5] (fun v i wr => ∃ k c : Nat, k ≤ ms.length ∧ i = .int .i64 k ∧ v = .int .i64 c ∧ Hid (c = q + cntMs (ms.take k)) ∧ Hid (Mrk B1 B2 w wr)) (fun _ i _ => ms.length - (intOf i).toNat)
  case atStart => exact ⟨0, q, Nat.zero_le _, rfl, rfl, by show _ = _; simp [cntMs, sumN], Mrk.refl _ _ _⟩
  case round =>
    obtain ⟨k, c, hk, rfl, rfl, hc, hon⟩ := hrel
    by_cases hlt : k < ms.length
    · have hki : (k : Int) < (ms.length : Int) := by omega
      have HST : Hid (cntMs (ms.take (k + 1)) = cntMs (ms.take k) + cntM ms[k]) := cnt_step hlt
      have hbd : c + cntM ms[k] ≤ 4000000 := by
        have h1 := HST.out
        have h2 := cnt_take ms (k + 1)
        have h3 := hc.out
        omega
      have HS0 : Hid (ShM B1 B2 wr (.slice a ms.length cap) ms) := HS.out.mrk hon.out
      obtain ⟨b, o, rfl, h1, h2, va0, vc0, ⟨⟨x0, d0⟩, f0⟩, _⟩ := HS0.out.at hlt
      have HAT : Hid (∀ u, Mrk B1 B2 wr u → ShMat B1 B2 u b (o + k * 4) ms[k]) := fun u hu => by
        obtain ⟨b', o', he, _, _, hm⟩ := (HS0.out.mrk hu).at hlt
        simp at he
        obtain ⟨rfl, rfl⟩ := he
        exact hm
      generalize ms[k] = m at *
      have em : cntM m = 2 + m.args.length + 3 * m.code.length := rfl
      have M1 : Hid (Mrk B1 B2 wr (wr.setCell ⟨b, o + k * 4, none⟩ (.int .i64 c))) := Mrk.set wr (p := ⟨b, o + k * 4, none⟩) h1 h2 d0 c
      obtain ⟨va, vc, _, c1, _, _, hva, _⟩ := HAT.out _ M1.out
      obtain ⟨a1, y1, rfl⟩ := hva.form
      have HVA : Hid (ShN 1 B1 B2 (wr.setCell ⟨b, o + k * 4, none⟩ (.int .i64 c)) (.slice a1 m.args.length y1) m.args.length) := hva
      clear hva HS0
      go_wp2_with fail
      have e1 : ((c : Int) + 1) = ((c + 1 : Nat) : Int) := by omega
      rw [e1]
      clear e1
      refine (markInts' B1 B2 a1 y1 (c + 1) m.args.length (by omega) _ HVA.out).mono ?_
      rintro e w2 ⟨rfl, hm2⟩
      have M2 : Hid (Mrk B1 B2 wr w2) := M1.out.trans hm2
      clear hm2 c1 d0 f0 HVA M1
      obtain ⟨_, _, _, _, ⟨⟨x2, d2⟩, f2⟩, _⟩ := HAT.out _ M2.out
      have M3 : Hid (Mrk B1 B2 wr (w2.setCell ⟨b, o + k * 4 + 2, none⟩ (.int .i64 ((c + 1 + m.args.length : Nat) : Int)))) := M2.out.trans (Mrk.set w2 (p := ⟨b, o + k * 4 + 2, none⟩) h1 h2 d2 _)
      obtain ⟨va3, vc3, _, _, _, c3, _, hvc⟩ := HAT.out _ M3.out
      obtain ⟨a3, y3, rfl⟩ := hvc.form
      have HVC : Hid (ShN 3 B1 B2 (w2.setCell ⟨b, o + k * 4 + 2, none⟩ (.int .i64 ((c + 1 + m.args.length : Nat) : Int))) (.slice a3 m.code.length y3) m.code.length) := hvc
      clear hvc
      generalize hcc : c + 1 + m.args.length = cc at *
      have HCC : Hid (c + 1 + m.args.length = cc) := hcc
      have hcc2 : cc ≤ 4000000 := by omega
      have hcc3 : cc + 1 + 3 * m.code.length ≤ 4000000 := by omega
      clear hcc
      go_wp2_with fail
      have e2 : ((cc : Int) + 1) = ((cc + 1 : Nat) : Int) := by omega
      rw [e2]
      clear e2
      refine (markInsns' B1 B2 a3 y3 (cc + 1) m.code.length hcc3 _ HVC.out).mono ?_
      rintro e w4 ⟨rfl, hm4⟩
      have M4 : Hid (Mrk B1 B2 w w4) := hon.out.trans (M3.out.trans hm4)
      have HC4 : Hid (cc + 1 + 3 * m.code.length = q + cntMs (ms.take (k + 1))) := by
        show _ = _
        have h1 := HST.out
        have h2 := hc.out
        have h3 := HCC.out
        omega
      clear hm4 c3 d2 f2 HVC M2 M3 HAT hon HST hc HCC
      generalize cc + 1 + 3 * m.code.length = c5 at *
      go_wp2
      go_roundw
      case rel => exact ⟨k + 1, c5, by omega, by go_num, rfl, HC4.out, M4.out⟩
      case measure => simp [intOf]; omega
    · have HKN : Hid (q + cntMs ms = c) := by
        show _ = _
        have h := hc.out
        rw [List.take_of_length_le (by omega)] at h
        exact h.symm
      go_wp2
      go_ret
      exact ⟨retI (by rw [HKN.out]), hon.out⟩

set_option maxRecDepth 100000 in
set_option maxHeartbeats 2000000 in
theorem markClasses' (B1 B2 : Nat) (a : Option Addr) (cap q : Nat) (ms : Prg) (hsm : SmallP ms) (hq : q + cntP ms ≤ 4000000) (w : World) (hs : ShK B1 B2 w (.slice a ms.length cap) ms) :
    Calls Try.prog 28 #[.slice a ms.length cap, .int .i64 q] w fun e w' => e = .returned (.int .i64 ((q + cntP ms : Nat) : Int)) ∧ Mrk B1 B2 w w' := by
  have HS : Hid (ShK B1 B2 w (.slice a ms.length cap) ms) := hs
  have hn := hsm.1
  have HSM : Hid (SmallP ms) := hsm
  clear hs hsm
  go_enter Try.func28, Try.ntmps28
  go_wp2
  go_loopw [1, 5] (fun v i wr => ∃ k c : Nat, k ≤ ms.length ∧ i = .int .i64 k ∧ v = .int .i64 c ∧ Hid (c = q + cntP (ms.take k)) ∧ Hid (Mrk B1 B2 w wr)) (fun _ i _ => ms.length - (intOf i).toNat)
  case atStart => exact ⟨0, q, Nat.zero_le _, rfl, rfl, by show _ = _; simp [cntP, sumN], Mrk.refl _ _ _⟩
  case round =>
    obtain ⟨k, c, hk, rfl, rfl, hc, hon⟩ := hrel
    by_cases hlt : k < ms.length
    · have hki : (k : Int) < (ms.length : Int) := by omega
      have HST : Hid (cntP (ms.take (k + 1)) = cntP (ms.take k) + cntC ms[k]) := cntP_step hlt
      have hbd : c + cntC ms[k] ≤ 4000000 := by
        have h1 := HST.out
        have h2 := cntP_take ms (k + 1)
        have h3 := hc.out
        omega
      have hml := (HSM.out.2 _ (List.getElem_mem hlt)).2.1
      have HS0 : Hid (ShK B1 B2 wr (.slice a ms.length cap) ms) := HS.out.mrk hon.out
      obtain ⟨b, o, rfl, h1, h2, va0, vc0, ⟨⟨x0, d0⟩, f0⟩, _⟩ := HS0.out.at hlt
      have HAT : Hid (∀ u, Mrk B1 B2 wr u → ShKat B1 B2 u b (o + k * 3) ms[k]) := fun u hu => by
        obtain ⟨b', o', he, _, _, hm⟩ := (HS0.out.mrk hu).at hlt
        simp at he
        obtain ⟨rfl, rfl⟩ := he
        exact hm
      generalize ms[k] = m at *
      have em : cntC m = 1 + m.fields.length + cntMs m.meths := rfl
      have M1 : Hid (Mrk B1 B2 wr (wr.setCell ⟨b, o + k * 3, none⟩ (.int .i64 c))) := Mrk.set wr (p := ⟨b, o + k * 3, none⟩) h1 h2 d0 c
      obtain ⟨va, vc, _, c1, _, hva, _⟩ := HAT.out _ M1.out
      obtain ⟨a1, y1, rfl⟩ := hva.form
      have HVA : Hid (ShN 1 B1 B2 (wr.setCell ⟨b, o + k * 3, none⟩ (.int .i64 c)) (.slice a1 m.fields.length y1) m.fields.length) := hva
      clear hva HS0
      go_wp2_with fail
      have e1 : ((c : Int) + 1) = ((c + 1 : Nat) : Int) := by omega
      rw [e1]
      clear e1
      refine (markInts' B1 B2 a1 y1 (c + 1) m.fields.length (by omega) _ HVA.out).mono ?_
      rintro e w2 ⟨rfl, hm2⟩
      have M2 : Hid (Mrk B1 B2 wr w2) := M1.out.trans hm2
      clear hm2 c1 d0 f0 HVA M1
      obtain ⟨va3, vc3, _, _, c3, _, hvc⟩ := HAT.out _ M2.out
      obtain ⟨a3, y3, rfl⟩ := hvc.form
      have HVC : Hid (ShM B1 B2 w2 (.slice a3 m.meths.length y3) m.meths) := hvc
      clear hvc
      generalize hcc : c + 1 + m.fields.length = cc at *
      have HCC : Hid (c + 1 + m.fields.length = cc) := hcc
      have hcc3 : cc + cntMs m.meths ≤ 4000000 := by omega
      clear hcc
      go_wp2_with fail
      refine (markMethods' B1 B2 a3 y3 cc m.meths hml hcc3 _ HVC.out).mono ?_
      rintro e w4 ⟨rfl, hm4⟩
      have M4 : Hid (Mrk B1 B2 w w4) := hon.out.trans (M2.out.trans hm4)
      have HC4 : Hid (cc + cntMs m.meths = q + cntP (ms.take (k + 1))) := by
        show _ = _
        have h1 := HST.out
        have h2 := hc.out
        have h3 := HCC.out
        omega
      clear hm4 c3 HVC M2 HAT hon HST hc HCC
      generalize cc + cntMs m.meths = c5 at *
      go_wp2
      go_roundw
      case rel => exact ⟨k + 1, c5, by omega, by go_num, rfl, HC4.out, M4.out⟩
      case measure => simp [intOf]; omega
    · have HKN : Hid (q + cntP ms = c) := by
        show _ = _
        have h := hc.out
        rw [List.take_of_length_le (by omega)] at h
        exact h.symm
      go_wp2
      go_ret
      exact ⟨retI (by rw [HKN.out]), hon.out⟩

set_option maxHeartbeats 1000000 in
theorem markProgram' (B1 B2 : Nat) (a : Option Addr) (cap : Nat) (p : Prg) (hsz : szP p ≤ 1048576) (w : World) (hs : ShK B1 B2 w (.slice a p.length cap) p) :
    Calls Try.prog 10 #[.agg #[.slice a p.length cap], .int .i64 1] w fun e w' => e = .returned (.int .i64 ((1 + cntP p : Nat) : Int)) ∧ Mrk B1 B2 w w' := by
  have HS : Hid (ShK B1 B2 w (.slice a p.length cap) p) := hs
  have HSM : Hid (SmallP p) := SmallP.of hsz
  have hc : 1 + cntP p ≤ 4000000 := by have := cntP_le p; omega
  clear hs
  go_enter Try.func10, Try.ntmps10
  go_wp2_with fail
  refine (markClasses' B1 B2 a cap 1 p HSM.out hc _ (HS.out.mrk (Mrk.of ((Below.refl _ _).alloc (Nat.le_refl _) _)))).mono ?_
  rintro e w1 ⟨rfl, hm1⟩
  have M1 : Hid (Mrk B1 B2 w w1) := (Mrk.of ((Below.refl _ _).alloc (Nat.le_refl _) _)).trans hm1
  clear hm1
  generalize hc5 : 1 + cntP p = c5 at *
  have HC5 : Hid (1 + cntP p = c5) := hc5
  clear hc5
  go_wp2
  go_ret
  exact ⟨retI (by rw [HC5.out]), M1.out⟩
end Pg
end Go.Proofs.Ytdomclicgajihaa
