/- Contracts of the laws' own copying of machines. -/
import Derived.Test.YtffkkhaiedhaiaaJMv1
import Derived.Test.YtffkkhaiedhaiaaJSu0
import Derived.Deep.RegionLaw
namespace Go.Proofs.Ytffkkhaiedhaiaa
namespace Pg
open Go.ChangeShapes Go.WideShapes Go.ChangeAt Go.RowKit St

theorem Cells.g4 {w : World} {k : Nat} {a b c d e : Value} {l : List Value} (h : Cells w k (a :: b :: c :: d :: e :: l)) : w.cell? ⟨k, 4, none⟩ = some e ∧ w.frozen? ⟨k, 4, none⟩ = false := h 4 e rfl
theorem Cells.s4 {w : World} {k : Nat} {a b c d e : Value} {l : List Value} (h : Cells w k (a :: b :: c :: d :: e :: l)) (v : Value) : Cells (w.setCell ⟨k, 4, none⟩ v) k (a :: b :: c :: d :: v :: l) := h.set 4 v
theorem VAt.far {g o i : Nat} {w : World} {x : Vl} (h : VAt w g o x) (hi : i < o ∨ o + 1 < i) (v : Value) : VAt (w.setCell ⟨g, i, none⟩ v) g o x := by
  obtain ⟨h0, h1⟩ := h
  exact ⟨(World.cell?_setCell_other _ _ _ _ (ne_off (by omega))).trans h0, (World.cell?_setCell_other _ _ _ _ (ne_off (by omega))).trans h1⟩
theorem VAt.next {g k : Nat} {w : World} {ms : List Vl} (hk : k < ms.length) (hroom : Room w g (ms.length * 2)) (h : ∀ j x, (ms.take k)[j]? = some x → VAt w g (0 + j * 2) x) :
    ∀ j x, (ms.take (k + 1))[j]? = some x → VAt ((w.setCell ⟨g, k * 2, none⟩ (.int .i64 ms[k].1)).setCell ⟨g, k * 2 + 1, none⟩ (.int .i64 ms[k].2)) g (0 + j * 2) x := by
  intro j x hj
  rw [List.getElem?_take] at hj
  split at hj
  · rename_i hlt
    by_cases e : j = k
    · subst e
      rw [List.getElem?_eq_getElem hk] at hj
      simp at hj
      subst hj
      obtain ⟨⟨x0, h0⟩, _⟩ := hroom (j * 2) (by omega)
      obtain ⟨⟨x1, h1⟩, _⟩ := hroom (j * 2 + 1) (by omega)
      rw [Nat.zero_add]
      refine ⟨?_, ?_⟩
      · rw [World.cell?_setCell_other _ _ _ _ (ne_off (by omega))]
        exact World.cell?_setCell_same _ _ _ h0
      · exact World.cell?_setCell_same _ _ _ ((World.cell?_setCell_other _ _ _ _ (ne_off (by omega))).trans h1)
    · have hx := h j x (by rw [List.getElem?_take, if_pos (by omega)]; exact hj)
      exact ((hx.far (by omega) _).far (by omega) _)
  · simp at hj
theorem OAt.far {f : Bool} {B : Nat} {g o i : Nat} {w : World} {x : Ob} (h : OAt f B w g o x) (hg : g < B) (hi : i < o ∨ o + 1 < i) (v : Value) : OAt f B (w.setCell ⟨g, i, none⟩ v) g o x := by
  obtain ⟨v1, h0, h1, hv⟩ := h
  exact ⟨v1, (World.cell?_setCell_other _ _ _ _ (ne_off (by omega))).trans h0, (World.cell?_setCell_other _ _ _ _ (ne_off (by omega))).trans h1, hv.on (Keep.set w (p := ⟨g, i, none⟩) hg v)⟩
theorem OAt.next {f : Bool} {g k : Nat} {w : World} {ms : List Ob} (hk : k < ms.length) (hroom : Room w g (ms.length * 2)) (h : ∀ j x, (ms.take k)[j]? = some x → OAt f (g + 1) w g (0 + j * 2) x) {v1 : Value} (hv : OV f (g + 1) w v1 ms[k]) :
    ∀ j x, (ms.take (k + 1))[j]? = some x → OAt f (g + 1) ((w.setCell ⟨g, k * 2, none⟩ (.int .i64 ms[k].cls)).setCell ⟨g, k * 2 + 1, none⟩ (v1)) g (0 + j * 2) x := by
  intro j x hj
  rw [List.getElem?_take] at hj
  split at hj
  · rename_i hlt
    by_cases e : j = k
    · subst e
      rw [List.getElem?_eq_getElem hk] at hj
      simp at hj
      subst hj
      obtain ⟨⟨x0, h0⟩, _⟩ := hroom (j * 2) (by omega)
      obtain ⟨⟨x1, h1⟩, _⟩ := hroom (j * 2 + 1) (by omega)
      rw [Nat.zero_add]
      refine ⟨v1, ?_, ?_, hv.on ((Keep.set (B := g + 1) w (p := ⟨g, j * 2, none⟩) (by simp) (.int .i64 ms[j].cls)).trans (Keep.set (B := g + 1) _ (p := ⟨g, j * 2 + 1, none⟩) (by simp) (v1)))⟩
      · rw [World.cell?_setCell_other _ _ _ _ (ne_off (by omega))]
        exact World.cell?_setCell_same _ _ _ h0
      · exact World.cell?_setCell_same _ _ _ ((World.cell?_setCell_other _ _ _ _ (ne_off (by omega))).trans h1)
    · have hx := h j x (by rw [List.getElem?_take, if_pos (by omega)]; exact hj)
      exact ((hx.far (by omega) (by omega) _).far (by omega) (by omega) _)
  · simp at hj
theorem FAt.far {f : Bool} {B : Nat} {g o i : Nat} {w : World} {x : Fr} (h : FAt f B w g o x) (hg : g < B) (hi : i < o ∨ o + 4 < i) (v : Value) : FAt f B (w.setCell ⟨g, i, none⟩ v) g o x := by
  obtain ⟨v1, v2, h0, h1, h2, h3, h4, hv⟩ := h
  exact ⟨v1, v2, (World.cell?_setCell_other _ _ _ _ (ne_off (by omega))).trans h0, (World.cell?_setCell_other _ _ _ _ (ne_off (by omega))).trans h1, (World.cell?_setCell_other _ _ _ _ (ne_off (by omega))).trans h2, (World.cell?_setCell_other _ _ _ _ (ne_off (by omega))).trans h3, (World.cell?_setCell_other _ _ _ _ (ne_off (by omega))).trans h4, hv.on (Keep.set w (p := ⟨g, i, none⟩) hg v)⟩
theorem FAt.next {f : Bool} {g k : Nat} {w : World} {ms : List Fr} (hk : k < ms.length) (hroom : Room w g (ms.length * 5)) (h : ∀ j x, (ms.take k)[j]? = some x → FAt f (g + 1) w g (0 + j * 5) x) {v1 v2 : Value} (hv : FV f (g + 1) w v1 v2 ms[k]) :
    ∀ j x, (ms.take (k + 1))[j]? = some x → FAt f (g + 1) (((((w.setCell ⟨g, k * 5, none⟩ (.int .i64 ms[k].cls)).setCell ⟨g, k * 5 + 1, none⟩ (.int .i64 ms[k].name)).setCell ⟨g, k * 5 + 2, none⟩ (.int .i64 ms[k].pos)).setCell ⟨g, k * 5 + 3, none⟩ (v1)).setCell ⟨g, k * 5 + 4, none⟩ (v2)) g (0 + j * 5) x := by
  intro j x hj
  rw [List.getElem?_take] at hj
  split at hj
  · rename_i hlt
    by_cases e : j = k
    · subst e
      rw [List.getElem?_eq_getElem hk] at hj
      simp at hj
      subst hj
      obtain ⟨⟨x0, h0⟩, _⟩ := hroom (j * 5) (by omega)
      obtain ⟨⟨x1, h1⟩, _⟩ := hroom (j * 5 + 1) (by omega)
      obtain ⟨⟨x2, h2⟩, _⟩ := hroom (j * 5 + 2) (by omega)
      obtain ⟨⟨x3, h3⟩, _⟩ := hroom (j * 5 + 3) (by omega)
      obtain ⟨⟨x4, h4⟩, _⟩ := hroom (j * 5 + 4) (by omega)
      rw [Nat.zero_add]
      refine ⟨v1, v2, ?_, ?_, ?_, ?_, ?_, hv.on (((((Keep.set (B := g + 1) w (p := ⟨g, j * 5, none⟩) (by simp) (.int .i64 ms[j].cls)).trans (Keep.set (B := g + 1) _ (p := ⟨g, j * 5 + 1, none⟩) (by simp) (.int .i64 ms[j].name))).trans (Keep.set (B := g + 1) _ (p := ⟨g, j * 5 + 2, none⟩) (by simp) (.int .i64 ms[j].pos))).trans (Keep.set (B := g + 1) _ (p := ⟨g, j * 5 + 3, none⟩) (by simp) (v1))).trans (Keep.set (B := g + 1) _ (p := ⟨g, j * 5 + 4, none⟩) (by simp) (v2)))⟩
      · rw [World.cell?_setCell_other _ _ _ _ (ne_off (by omega)), World.cell?_setCell_other _ _ _ _ (ne_off (by omega)), World.cell?_setCell_other _ _ _ _ (ne_off (by omega)), World.cell?_setCell_other _ _ _ _ (ne_off (by omega))]
        exact World.cell?_setCell_same _ _ _ h0
      · rw [World.cell?_setCell_other _ _ _ _ (ne_off (by omega)), World.cell?_setCell_other _ _ _ _ (ne_off (by omega)), World.cell?_setCell_other _ _ _ _ (ne_off (by omega))]
        exact World.cell?_setCell_same _ _ _ ((World.cell?_setCell_other _ _ _ _ (ne_off (by omega))).trans h1)
      · rw [World.cell?_setCell_other _ _ _ _ (ne_off (by omega)), World.cell?_setCell_other _ _ _ _ (ne_off (by omega))]
        exact World.cell?_setCell_same _ _ _ ((World.cell?_setCell_other _ _ _ _ (ne_off (by omega))).trans ((World.cell?_setCell_other _ _ _ _ (ne_off (by omega))).trans h2))
      · rw [World.cell?_setCell_other _ _ _ _ (ne_off (by omega))]
        exact World.cell?_setCell_same _ _ _ ((World.cell?_setCell_other _ _ _ _ (ne_off (by omega))).trans ((World.cell?_setCell_other _ _ _ _ (ne_off (by omega))).trans ((World.cell?_setCell_other _ _ _ _ (ne_off (by omega))).trans h3)))
      · exact World.cell?_setCell_same _ _ _ ((World.cell?_setCell_other _ _ _ _ (ne_off (by omega))).trans ((World.cell?_setCell_other _ _ _ _ (ne_off (by omega))).trans ((World.cell?_setCell_other _ _ _ _ (ne_off (by omega))).trans ((World.cell?_setCell_other _ _ _ _ (ne_off (by omega))).trans h4))))
    · have hx := h j x (by rw [List.getElem?_take, if_pos (by omega)]; exact hj)
      exact (((((hx.far (by omega) (by omega) _).far (by omega) (by omega) _).far (by omega) (by omega) _).far (by omega) (by omega) _).far (by omega) (by omega) _)
  · simp at hj
theorem infoValue : (Try.prog.info? 57).map (fun i => (i.zero, i.size, i.bytes)) = some (some (.agg #[.int .i64 0, .int .i64 0]), 2, 16) := by kernel_rfl
theorem infoObject : (Try.prog.info? 118).map (fun i => (i.zero, i.size, i.bytes)) = some (some (.agg #[.int .i64 0, .slice none 0 0]), 2, 32) := by kernel_rfl
theorem infoFrame : (Try.prog.info? 49).map (fun i => (i.zero, i.size, i.bytes)) = some (some (.agg #[.int .i64 0, .int .i64 0, .int .i64 0, .slice none 0 0, .slice none 0 0]), 5, 72) := by kernel_rfl
end Pg
end Go.Proofs.Ytffkkhaiedhaiaa

/- Contracts of the laws' own comparing of machines, where both are the same. -/
namespace Go.Proofs.Ytffkkhaiedhaiaa
namespace Pg
open Go.ChangeShapes Go.WideShapes Go.ChangeAt Go.RowKit St

end Pg
end Go.Proofs.Ytffkkhaiedhaiaa

/- Contracts of both sides' account of the fields of a class. -/
namespace Go.Proofs.Ytffkkhaiedhaiaa
namespace Pg
open Go.ChangeShapes Go.WideShapes Go.ChangeAt Go.RowKit St

set_option maxRecDepth 100000 in
set_option maxHeartbeats 4000000 in
theorem l4Fields (B : Nat) (p : Prg) (b o cap : Nat) (hok : okP p = true) (wI : World) (hp : SK front B wI (.slice (some ⟨b, o, none⟩) p.length cap) p) : ∀ (n : Nat) (up : Int) (w : World), -1 ≤ up → up < (n : Int) → up < (p.length : Int) → Below wI.heap.size wI w →
    Calls Try.prog 104 #[.agg #[.slice (some ⟨b, o, none⟩) p.length cap], .int .i64 up] w fun e w' => ∃ v, e = .returned v ∧ Grow w.heap.size w' v (fieldsR p 6 up) ∧ Below w.heap.size w w' := by
  intro n
  induction n with
  | zero =>
    intro up w h1 h2 _ _
    obtain rfl : up = -1 := by omega
    go_enter Try.func104, Try.ntmps104
    go_wp2
    go_ret
    exact ⟨_, rfl, by rw [fieldsR_neg _ _ (by omega)]; exact grow_nil w _, ((Below.refl _ _).alloc (Nat.le_refl _) _).alloc (by simp) _⟩
  | succ n ih =>
    intro up w h1 h2 h3 hbI
    obtain ⟨i0, hif, hz0, hz1, hz2⟩ := info_parts infoN
    by_cases hneg : up = -1
    · subst hneg
      go_enter Try.func104, Try.ntmps104
      go_wp2
      go_ret
      exact ⟨_, rfl, by rw [fieldsR_neg _ _ (by omega)]; exact grow_nil w _, ((Below.refl _ _).alloc (Nat.le_refl _) _).alloc (by simp) _⟩

    · obtain ⟨u, rfl⟩ := Int.eq_ofNat_of_zero_le (show 0 ≤ up by omega)
      have hup : u < p.length := by omega
      have hl6 := (okP_len hok).2
      obtain ⟨b', o', he, _, vf, vm, d0, d1, d2, hcv⟩ := hp.get hup
      simp at he
      obtain ⟨rfl, rfl⟩ := he
      obtain ⟨z1, t1, rfl⟩ := hcv.1.form
      obtain ⟨z2, t2, rfl⟩ := hcv.2.form
      have HST : Hid (fieldsR p 6 (u : Int) = fieldsR p 6 p[u].super ++ p[u].fields) := fieldsR_step (okP_sup hok) hup (by omega) (List.getElem?_eq_getElem hup)
      have hsu := okP_sup hok u _ hup (List.getElem?_eq_getElem hup)
      have hf4 := okP_four hok u _ hup (List.getElem?_eq_getElem hup)
      have HFL : Hid (SI true B wI (.slice z1 p[u].fields.length t1) p[u].fields) := hcv.1
      have hlen : (fieldsR p 6 p[u].super).length ≤ 24 := fieldsR_len (okP_sup hok) hl6 (Nat.le_refl _) (okP_four hok) 6 _ (by omega) (by omega)
      have IH : Hid (∀ w, Below wI.heap.size wI w → Calls Try.prog 104 #[.agg #[.slice (some ⟨b, o, none⟩) p.length cap], .int .i64 p[u].super] w fun e w' => ∃ v, e = .returned v ∧ Grow w.heap.size w' v (fieldsR p 6 p[u].super) ∧ Below w.heap.size w w') := fun w hw => ih _ w hsu.1 (by omega) (by omega) hw
      have l0 : b < wI.heap.size := cell_lt d0
      generalize p[u] = c at *
      generalize fieldsR p 6 c.super = above at *
      clear ih hcv hp hsu
      have hui : (u : Int) < (p.length : Int) := by omega
      have hui0 : (0 : Int) ≤ (u : Int) := by omega
      obtain ⟨W, hW⟩ : ∃ W, W = (w.alloc (.cells #[.slice (some ⟨b, o, none⟩) p.length cap] 39)) := ⟨_, rfl⟩
      have hwW : Below w.heap.size w W := by rw [hW]; exact (Below.refl _ _).alloc (Nat.le_refl _) _
      have lw : b < w.heap.size := Nat.lt_of_lt_of_le l0 hbI.size
      have k0 := (hwW.cell lw).trans ((hbI.cell l0).trans d0)
      have k1 := (hwW.cell lw).trans ((hbI.cell l0).trans d1)
      have P0 : Hid (Cells W w.heap.size [.slice (some ⟨b, o, none⟩) p.length cap]) := by rw [hW]; exact Cells.new w _ rfl _ _
      obtain ⟨p0, _⟩ := P0.out.g0
      have hIW : Below wI.heap.size wI W := below_over hbI hwW
      clear d0 d1 d2
      cases z1 with
      | none =>
        obtain ⟨hfe, _, ht1⟩ := Arr.nil HFL.out
        have HFE : Hid (c.fields = []) := hfe
        have hfl : c.fields.length = 0 := by rw [hfe]; rfl
        rw [hfl, ht1] at k1 
        clear hfe hfl ht1 HFL hf4
        go_enter Try.func104, Try.ntmps104
        go_wp2_with fail
        rw [← hW]
        clear hW 
        go_region_law (first
          | (refine stepAppNone _ rfl (.tmp 15) (.tmp 21) 27 rfl W.drew.heap.size 2 i0 1 Try.underlying27 hif v above.length (nums above) (by simp [Act.eval]) hg.1 (by simp [Act.eval]) ?_; dsimp only)
          | (go_simp; go_at_call 104; refine (IH.out _ hIW.drew).mono ?_; rintro e w1 ⟨v, rfl, hg, hb1⟩; have k1' := (hb1.cell (cell_lt k1)).trans k1; have p0' := (hb1.cell (cell_lt p0)).trans p0; dsimp only))
        all_goals
          have hw1 : Below w.heap.size w w1 := below_over hwW (below_over (Below.refl _ _).drew hb1)
          have HG : Hid (Grow w.heap.size w1 v (fieldsR p 6 (u : Int))) := by
            show Grow _ _ _ _
            rw [HST.out, HFE.out, List.append_nil]
            exact ⟨ownBase hg.1 (by have := hwW.size; simpa using this), hg.2⟩
          clear hg hb1 k1 k1' p0 p0' k0
          go_wp2
          go_ret
          exact ⟨_, rfl, HG.out, hw1⟩
      | some ad =>
        have HNW : Hid (∀ x, Below W.heap.size W x → ∀ j u, (nums c.fields)[j]? = some u → x.cell? (ad.add j) = some u) := fun x hx => SI.nums (SI.on HFL.out (Keep.of (below_over hIW hx)))
        go_enter Try.func104, Try.ntmps104
        go_wp2_with fail
        rw [← hW]
        clear hW 
        go_region_law (first
          | (refine stepApp _ rfl (.tmp 15) (.tmp 21) 27 rfl W.drew.heap.size 2 i0 (.int .i64 0) 1 8 Try.underlying27 hif hz0 hz1 hz2 rfl (by decide) v above.length (nums above) (by simp [Act.eval]) hg.1 ad c.fields.length t1 (nums c.fields) (by simp [Act.eval]) (by simp [nums]) (HNW.out _ (below_over (Below.refl _ _).drew hb1)) (nums_one _) (by unfold maxLen; omega) (by omega) hb1.size ?_; intro v1 w2 hown1 hgrow1 hnil1; dsimp only)
          | (go_simp; go_at_call 104; refine (IH.out _ hIW.drew).mono ?_; rintro e w1 ⟨v, rfl, hg, hb1⟩; have k1' := (hb1.cell (cell_lt k1)).trans k1; have p0' := (hb1.cell (cell_lt p0)).trans p0; dsimp only))
        all_goals
          have hWs : w.heap.size ≤ W.drew.heap.size := by have := hwW.size; simpa using this
          have hw1 : Below w.heap.size w w1 := below_over hwW (below_over (Below.refl _ _).drew hb1)
          have hw2 : Below w.heap.size w w2 := hw1.grown hgrow1 hw1.size (fun q hq => Nat.le_trans hWs (hg.1.lt q hq).1)
          have HG : Hid (Grow w.heap.size w2 v1 (fieldsR p 6 (u : Int))) := by
            show Grow _ _ _ _
            rw [HST.out]
            refine ⟨ownBase (by unfold nums at hown1 ⊢; rw [List.length_append, List.map_append]; exact hown1) hWs, fun e => ?_⟩
            have := (hnil1.1 e).1
            exact hg.2 this
          clear hg hb1 k1 k1' p0 p0' k0 hown1 hgrow1 hnil1
          go_wp2
          go_ret
          exact ⟨_, rfl, HG.out, hw2⟩
end Pg
end Go.Proofs.Ytffkkhaiedhaiaa
