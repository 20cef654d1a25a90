/- Contracts of both sides' account of the fields of a class. -/
import Derived.Test.YtbgbddahniacbaaGreatDoorJPg5
import Derived.Test.YtbgbddahniacbaaGreatDoorJMa0
import Derived.Deep.RegionLaw
import Derived.Test.YtbgbddahniacbaaGreatDoorJGot0
import Derived.Laws.AppendOwnNone
import Derived.Lib.SliceRun
namespace Go.Proofs.YtbgbddahniacbaaGreatDoor
namespace Pg
open Go.ChangeShapes Go.WideShapes Go.ChangeAt Go.RowKit St

set_option maxRecDepth 100000 in
set_option maxHeartbeats 4000000 in
theorem fieldsDownTo (B : Nat) (p : Prg) (b o cap : Nat) (hok : okP p = true) (wI : World) (hp : SK front B wI (.slice (some ⟨b, o, none⟩) p.length cap) p) : ∀ (n : Nat) (up : Int) (w : World), -1 ≤ up → up < (n : Int) → up < (p.length : Int) → Below wI.heap.size wI w →
    Calls Tryz.prog 24 #[.agg #[.slice (some ⟨b, o, none⟩) p.length cap], .int .i64 up] w fun e w' => ∃ v, e = .returned v ∧ Grow w.heap.size w' v (fieldsR p 6 up) ∧ Below w.heap.size w w' := by
  intro n
  induction n with
  | zero =>
    intro up w h1 h2 _ _
    obtain rfl : up = -1 := by omega
    go_enter Tryz.func24, Tryz.ntmps24
    go_wp2
    go_ret
    exact ⟨_, rfl, by rw [fieldsR_neg _ _ (by omega)]; exact grow_nil w _, ((Below.refl _ _).alloc (Nat.le_refl _) _).alloc (by simp) _⟩
  | succ n ih =>
    intro up w h1 h2 h3 hbI
    obtain ⟨i0, hif, hz0, hz1, hz2⟩ := info_parts infoN
    by_cases hneg : up = -1
    · subst hneg
      go_enter Tryz.func24, Tryz.ntmps24
      go_wp2
      go_ret
      exact ⟨_, rfl, by rw [fieldsR_neg _ _ (by omega)]; exact grow_nil w _, ((Below.refl _ _).alloc (Nat.le_refl _) _).alloc (by simp) _⟩

    · obtain ⟨u, rfl⟩ := Int.eq_ofNat_of_zero_le (show 0 ≤ up by omega)
      have hup : u < p.length := by omega
      have hl6 := (okP_len hok).2
      obtain ⟨b', o', he, _, vf, vm, d0, d1, d2, hcv⟩ := hp.get hup
      simp at he
      obtain ⟨rfl, rfl⟩ := he
      obtain ⟨z1, t1, rfl⟩ := hcv.1.form
      obtain ⟨z2, t2, rfl⟩ := hcv.2.form
      have HST : Hid (fieldsR p 6 (u : Int) = fieldsR p 6 p[u].super ++ p[u].fields) := fieldsR_step (okP_sup hok) hup (by omega) (List.getElem?_eq_getElem hup)
      have hsu := okP_sup hok u _ hup (List.getElem?_eq_getElem hup)
      have hf4 := okP_four hok u _ hup (List.getElem?_eq_getElem hup)
      have HFL : Hid (SI true B wI (.slice z1 p[u].fields.length t1) p[u].fields) := hcv.1
      have hlen : (fieldsR p 6 p[u].super).length ≤ 24 := fieldsR_len (okP_sup hok) hl6 (Nat.le_refl _) (okP_four hok) 6 _ (by omega) (by omega)
      have IH : Hid (∀ w, Below wI.heap.size wI w → Calls Tryz.prog 24 #[.agg #[.slice (some ⟨b, o, none⟩) p.length cap], .int .i64 p[u].super] w fun e w' => ∃ v, e = .returned v ∧ Grow w.heap.size w' v (fieldsR p 6 p[u].super) ∧ Below w.heap.size w w') := fun w hw => ih _ w hsu.1 (by omega) (by omega) hw
      have l0 : b < wI.heap.size := cell_lt d0
      generalize p[u] = c at *
      generalize fieldsR p 6 c.super = above at *
      clear ih hcv hp hsu
      have hui : (u : Int) < (p.length : Int) := by omega
      have hui0 : (0 : Int) ≤ (u : Int) := by omega
      obtain ⟨W, hW⟩ : ∃ W, W = ((w.alloc (.cells #[.slice (some ⟨b, o, none⟩) p.length cap] 26)).alloc (.cells #[.int .i64 c.super, .slice z1 c.fields.length t1, .slice z2 c.meths.length t2] 45)) := ⟨_, rfl⟩
      have hwW : Below w.heap.size w W := by rw [hW]; exact ((Below.refl _ _).alloc (Nat.le_refl _) _).alloc (by simp) _
      have hbP : Below w.heap.size w (w.alloc (.cells #[.slice (some ⟨b, o, none⟩) p.length cap] 26)) := (Below.refl _ _).alloc (Nat.le_refl _) _
      have lw : b < w.heap.size := Nat.lt_of_lt_of_le l0 hbI.size
      have c0 := (hbP.cell lw).trans ((hbI.cell l0).trans d0)
      have c1 := (hbP.cell lw).trans ((hbI.cell l0).trans d1)
      have c2 := (hbP.cell lw).trans ((hbI.cell l0).trans d2)
      clear hbP
      have P0 : Hid (Cells W w.heap.size [.slice (some ⟨b, o, none⟩) p.length cap]) := by rw [hW]; exact (Cells.new w _ rfl _ _).alloc _
      have C0 : Hid (Cells W (w.heap.size + 1) [.int .i64 c.super, .slice z1 c.fields.length t1, .slice z2 c.meths.length t2]) := by rw [hW]; exact Cells.new (w.alloc _) _ (by simp) _ _
      obtain ⟨p0, _⟩ := P0.out.g0
      obtain ⟨k0, _⟩ := C0.out.g0
      obtain ⟨k1, _⟩ := C0.out.g1
      have hIW : Below wI.heap.size wI W := below_over hbI hwW
      clear d0 d1 d2
      cases z1 with
      | none =>
        obtain ⟨hfe, _, ht1⟩ := Arr.nil HFL.out
        have HFE : Hid (c.fields = []) := hfe
        have hfl : c.fields.length = 0 := by rw [hfe]; rfl
        rw [hfl, ht1] at k1 hW c1
        clear hfe hfl ht1 HFL hf4
        go_enter Tryz.func24, Tryz.ntmps24
        go_wp2_with fail
        rw [← hW]
        clear hW c0 c1 c2 
        go_region_law (first
          | (refine stepAppNone _ rfl (.tmp 17) (.tmp 19) 29 rfl W.drew.heap.size 2 i0 1 Tryz.underlying29 hif v above.length (nums above) (by simp [Act.eval]) hg.1 (by simp [Act.eval]) ?_; dsimp only)
          | (go_simp; go_at_call 24; refine (IH.out _ hIW.drew).mono ?_; rintro e w1 ⟨v, rfl, hg, hb1⟩; have k1' := (hb1.cell (cell_lt k1)).trans k1; have p0' := (hb1.cell (cell_lt p0)).trans p0; dsimp only))
        all_goals
          have hw1 : Below w.heap.size w w1 := below_over hwW (below_over (Below.refl _ _).drew hb1)
          have HG : Hid (Grow w.heap.size w1 v (fieldsR p 6 (u : Int))) := by
            show Grow _ _ _ _
            rw [HST.out, HFE.out, List.append_nil]
            exact ⟨ownBase hg.1 (by have := hwW.size; simpa using this), hg.2⟩
          clear hg hb1 k1 k1' p0 p0' k0
          go_wp2
          go_ret
          exact ⟨_, rfl, HG.out, hw1⟩
      | some ad =>
        have HNW : Hid (∀ x, Below W.heap.size W x → ∀ j u, (nums c.fields)[j]? = some u → x.cell? (ad.add j) = some u) := fun x hx => SI.nums (SI.on HFL.out (Keep.of (below_over hIW hx)))
        go_enter Tryz.func24, Tryz.ntmps24
        go_wp2_with fail
        rw [← hW]
        clear hW c0 c1 c2 
        go_region_law (first
          | (refine stepApp _ rfl (.tmp 17) (.tmp 19) 29 rfl W.drew.heap.size 2 i0 (.int .i64 0) 1 8 Tryz.underlying29 hif hz0 hz1 hz2 rfl (by decide) v above.length (nums above) (by simp [Act.eval]) hg.1 ad c.fields.length t1 (nums c.fields) (by simp [Act.eval]) (by simp [nums]) (HNW.out _ (below_over (Below.refl _ _).drew hb1)) (nums_one _) (by unfold maxLen; omega) (by omega) hb1.size ?_; intro v1 w2 hown1 hgrow1 hnil1; dsimp only)
          | (go_simp; go_at_call 24; refine (IH.out _ hIW.drew).mono ?_; rintro e w1 ⟨v, rfl, hg, hb1⟩; have k1' := (hb1.cell (cell_lt k1)).trans k1; have p0' := (hb1.cell (cell_lt p0)).trans p0; dsimp only))
        all_goals
          have hWs : w.heap.size ≤ W.drew.heap.size := by have := hwW.size; simpa using this
          have hw1 : Below w.heap.size w w1 := below_over hwW (below_over (Below.refl _ _).drew hb1)
          have hw2 : Below w.heap.size w w2 := hw1.grown hgrow1 hw1.size (fun q hq => Nat.le_trans hWs (hg.1.lt q hq).1)
          have HG : Hid (Grow w.heap.size w2 v1 (fieldsR p 6 (u : Int))) := by
            show Grow _ _ _ _
            rw [HST.out]
            refine ⟨ownBase (by unfold nums at hown1 ⊢; rw [List.length_append, List.map_append]; exact hown1) hWs, fun e => ?_⟩
            have := (hnil1.1 e).1
            exact hg.2 this
          clear hg hb1 k1 k1' p0 p0' k0 hown1 hgrow1 hnil1
          go_wp2
          go_ret
          exact ⟨_, rfl, HG.out, hw2⟩
set_option maxRecDepth 100000 in
set_option maxHeartbeats 4000000 in
theorem l4Fields (B : Nat) (p : Prg) (b o cap : Nat) (hok : okP p = true) (wI : World) (hp : SK front B wI (.slice (some ⟨b, o, none⟩) p.length cap) p) : ∀ (n : Nat) (up : Int) (w : World), -1 ≤ up → up < (n : Int) → up < (p.length : Int) → Below wI.heap.size wI w →
    Calls Tryz.prog 35 #[.agg #[.slice (some ⟨b, o, none⟩) p.length cap], .int .i64 up] w fun e w' => ∃ v, e = .returned v ∧ Grow w.heap.size w' v (fieldsR p 6 up) ∧ Below w.heap.size w w' := by
  intro n
  induction n with
  | zero =>
    intro up w h1 h2 _ _
    obtain rfl : up = -1 := by omega
    go_enter Tryz.func35, Tryz.ntmps35
    go_wp2
    go_ret
    exact ⟨_, rfl, by rw [fieldsR_neg _ _ (by omega)]; exact grow_nil w _, ((Below.refl _ _).alloc (Nat.le_refl _) _).alloc (by simp) _⟩
  | succ n ih =>
    intro up w h1 h2 h3 hbI
    obtain ⟨i0, hif, hz0, hz1, hz2⟩ := info_parts infoN
    by_cases hneg : up = -1
    · subst hneg
      go_enter Tryz.func35, Tryz.ntmps35
      go_wp2
      go_ret
      exact ⟨_, rfl, by rw [fieldsR_neg _ _ (by omega)]; exact grow_nil w _, ((Below.refl _ _).alloc (Nat.le_refl _) _).alloc (by simp) _⟩

    · obtain ⟨u, rfl⟩ := Int.eq_ofNat_of_zero_le (show 0 ≤ up by omega)
      have hup : u < p.length := by omega
      have hl6 := (okP_len hok).2
      obtain ⟨b', o', he, _, vf, vm, d0, d1, d2, hcv⟩ := hp.get hup
      simp at he
      obtain ⟨rfl, rfl⟩ := he
      obtain ⟨z1, t1, rfl⟩ := hcv.1.form
      obtain ⟨z2, t2, rfl⟩ := hcv.2.form
      have HST : Hid (fieldsR p 6 (u : Int) = fieldsR p 6 p[u].super ++ p[u].fields) := fieldsR_step (okP_sup hok) hup (by omega) (List.getElem?_eq_getElem hup)
      have hsu := okP_sup hok u _ hup (List.getElem?_eq_getElem hup)
      have hf4 := okP_four hok u _ hup (List.getElem?_eq_getElem hup)
      have HFL : Hid (SI true B wI (.slice z1 p[u].fields.length t1) p[u].fields) := hcv.1
      have hlen : (fieldsR p 6 p[u].super).length ≤ 24 := fieldsR_len (okP_sup hok) hl6 (Nat.le_refl _) (okP_four hok) 6 _ (by omega) (by omega)
      have IH : Hid (∀ w, Below wI.heap.size wI w → Calls Tryz.prog 35 #[.agg #[.slice (some ⟨b, o, none⟩) p.length cap], .int .i64 p[u].super] w fun e w' => ∃ v, e = .returned v ∧ Grow w.heap.size w' v (fieldsR p 6 p[u].super) ∧ Below w.heap.size w w') := fun w hw => ih _ w hsu.1 (by omega) (by omega) hw
      have l0 : b < wI.heap.size := cell_lt d0
      generalize p[u] = c at *
      generalize fieldsR p 6 c.super = above at *
      clear ih hcv hp hsu
      have hui : (u : Int) < (p.length : Int) := by omega
      have hui0 : (0 : Int) ≤ (u : Int) := by omega
      obtain ⟨W, hW⟩ : ∃ W, W = (w.alloc (.cells #[.slice (some ⟨b, o, none⟩) p.length cap] 26)) := ⟨_, rfl⟩
      have hwW : Below w.heap.size w W := by rw [hW]; exact (Below.refl _ _).alloc (Nat.le_refl _) _
      have lw : b < w.heap.size := Nat.lt_of_lt_of_le l0 hbI.size
      have k0 := (hwW.cell lw).trans ((hbI.cell l0).trans d0)
      have k1 := (hwW.cell lw).trans ((hbI.cell l0).trans d1)
      have P0 : Hid (Cells W w.heap.size [.slice (some ⟨b, o, none⟩) p.length cap]) := by rw [hW]; exact Cells.new w _ rfl _ _
      obtain ⟨p0, _⟩ := P0.out.g0
      have hIW : Below wI.heap.size wI W := below_over hbI hwW
      clear d0 d1 d2
      cases z1 with
      | none =>
        obtain ⟨hfe, _, ht1⟩ := Arr.nil HFL.out
        have HFE : Hid (c.fields = []) := hfe
        have hfl : c.fields.length = 0 := by rw [hfe]; rfl
        rw [hfl, ht1] at k1 
        clear hfe hfl ht1 HFL hf4
        go_enter Tryz.func35, Tryz.ntmps35
        go_wp2_with fail
        rw [← hW]
        clear hW 
        go_region_law (first
          | (refine stepAppNone _ rfl (.tmp 15) (.tmp 21) 29 rfl W.drew.heap.size 2 i0 1 Tryz.underlying29 hif v above.length (nums above) (by simp [Act.eval]) hg.1 (by simp [Act.eval]) ?_; dsimp only)
          | (go_simp; go_at_call 35; refine (IH.out _ hIW.drew).mono ?_; rintro e w1 ⟨v, rfl, hg, hb1⟩; have k1' := (hb1.cell (cell_lt k1)).trans k1; have p0' := (hb1.cell (cell_lt p0)).trans p0; dsimp only))
        all_goals
          have hw1 : Below w.heap.size w w1 := below_over hwW (below_over (Below.refl _ _).drew hb1)
          have HG : Hid (Grow w.heap.size w1 v (fieldsR p 6 (u : Int))) := by
            show Grow _ _ _ _
            rw [HST.out, HFE.out, List.append_nil]
            exact ⟨ownBase hg.1 (by have := hwW.size; simpa using this), hg.2⟩
          clear hg hb1 k1 k1' p0 p0' k0
          go_wp2
          go_ret
          exact ⟨_, rfl, HG.out, hw1⟩
      | some ad =>
        have HNW : Hid (∀ x, Below W.heap.size W x → ∀ j u, (nums c.fields)[j]? = some u → x.cell? (ad.add j) = some u) := fun x hx => SI.nums (SI.on HFL.out (Keep.of (below_over hIW hx)))
        go_enter Tryz.func35, Tryz.ntmps35
        go_wp2_with fail
        rw [← hW]
        clear hW 
        go_region_law (first
          | (refine stepApp _ rfl (.tmp 15) (.tmp 21) 29 rfl W.drew.heap.size 2 i0 (.int .i64 0) 1 8 Tryz.underlying29 hif hz0 hz1 hz2 rfl (by decide) v above.length (nums above) (by simp [Act.eval]) hg.1 ad c.fields.length t1 (nums c.fields) (by simp [Act.eval]) (by simp [nums]) (HNW.out _ (below_over (Below.refl _ _).drew hb1)) (nums_one _) (by unfold maxLen; omega) (by omega) hb1.size ?_; intro v1 w2 hown1 hgrow1 hnil1; dsimp only)
          | (go_simp; go_at_call 35; refine (IH.out _ hIW.drew).mono ?_; rintro e w1 ⟨v, rfl, hg, hb1⟩; have k1' := (hb1.cell (cell_lt k1)).trans k1; have p0' := (hb1.cell (cell_lt p0)).trans p0; dsimp only))
        all_goals
          have hWs : w.heap.size ≤ W.drew.heap.size := by have := hwW.size; simpa using this
          have hw1 : Below w.heap.size w w1 := below_over hwW (below_over (Below.refl _ _).drew hb1)
          have hw2 : Below w.heap.size w w2 := hw1.grown hgrow1 hw1.size (fun q hq => Nat.le_trans hWs (hg.1.lt q hq).1)
          have HG : Hid (Grow w.heap.size w2 v1 (fieldsR p 6 (u : Int))) := by
            show Grow _ _ _ _
            rw [HST.out]
            refine ⟨ownBase (by unfold nums at hown1 ⊢; rw [List.length_append, List.map_append]; exact hown1) hWs, fun e => ?_⟩
            have := (hnil1.1 e).1
            exact hg.2 this
          clear hg hb1 k1 k1' p0 p0' k0 hown1 hgrow1 hnil1
          go_wp2
          go_ret
          exact ⟨_, rfl, HG.out, hw2⟩
end Pg
end Go.Proofs.YtbgbddahniacbaaGreatDoor

/- Contracts of both sides' copying of methods. -/
namespace Go.Proofs.YtbgbddahniacbaaGreatDoor
namespace Pg
open Go.ChangeShapes Go.WideShapes Go.ChangeAt Go.RowKit St

theorem grow_of {w : World} {B : Nat} {v : Value} {l : List Int} (h : w.ownsRow B 2 1 v l.length (nums l)) (hv : v ≠ .slice none 0 0) : Grow B w v l := ⟨h, hv⟩
theorem cs_of {w : World} {B : Nat} {v : Value} {l : List Tx.Ins} (h : w.ownsRow B 73 3 v l.length (flat l)) (hv : v ≠ .slice none 0 0) : CS B w v l := got_of h hv

/-- A row of numbers of its own, in a block from B1 on and below B2, or nil. -/
def GZ (B1 B2 : Nat) (w : World) (v : Value) (l : List Int) : Prop := (∃ g c, v = .slice (some ⟨g, 0, none⟩) l.length c ∧ B1 ≤ g ∧ g < B2 ∧ g < w.heap.size ∧ IRow w g 0 l ∧ Room w g l.length) ∨ (v = .slice none 0 0 ∧ l = [])
/-- A row of steps of its own, in a block from B1 on and below B2, or nil. -/
def CZ (B1 B2 : Nat) (w : World) (v : Value) (l : List Tx.Ins) : Prop := (∃ g c, v = .slice (some ⟨g, 0, none⟩) l.length c ∧ B1 ≤ g ∧ g < B2 ∧ g < w.heap.size ∧ Row w g 0 l ∧ Room w g (l.length * 3)) ∨ (v = .slice none 0 0 ∧ l = [])
theorem room_moved {u w : World} {g n : Nat} (hg : w.heap[g]? = u.heap[g]?) (h : Room u g n) : Room w g n := fun i hi => by
  obtain ⟨⟨x, hx⟩, hf⟩ := h i hi
  exact ⟨⟨x, (World.cell?_of_block (w := u) hg).trans hx⟩, (World.frozen?_of_block (w := u) hg).trans hf⟩
theorem GZ.moved {B1 B2 : Nat} {u w : World} {v : Value} {l : List Int} (h : GZ B1 B2 u v l) (hs : u.heap.size ≤ w.heap.size) (hb : ∀ k, B1 ≤ k → k < B2 → k < u.heap.size → w.heap[k]? = u.heap[k]?) : GZ B1 B2 w v l := by
  rcases h with ⟨g, c, hv, h1, h2, h3, h4, h5⟩ | h
  · have hg := hb g h1 h2 h3
    exact .inl ⟨g, c, hv, h1, h2, by omega, fun j x hj => (World.cell?_of_block (w := u) hg).trans (h4 j x hj), room_moved hg h5⟩
  · exact .inr h
theorem CZ.moved {B1 B2 : Nat} {u w : World} {v : Value} {l : List Tx.Ins} (h : CZ B1 B2 u v l) (hs : u.heap.size ≤ w.heap.size) (hb : ∀ k, B1 ≤ k → k < B2 → k < u.heap.size → w.heap[k]? = u.heap[k]?) : CZ B1 B2 w v l := by
  rcases h with ⟨g, c, hv, h1, h2, h3, h4, h5⟩ | h
  · have hg := hb g h1 h2 h3
    exact .inl ⟨g, c, hv, h1, h2, by omega, fun j x hj => by
      obtain ⟨c0, c1, c2⟩ := h4 j x hj
      exact ⟨(World.cell?_of_block (w := u) hg).trans c0, (World.cell?_of_block (w := u) hg).trans c1, (World.cell?_of_block (w := u) hg).trans c2⟩, room_moved hg h5⟩
  · exact .inr h
theorem GZ.keep {B B1 B2 : Nat} {u w : World} {v : Value} {l : List Int} (h : GZ B1 B2 u v l) (hk : Keep B u w) (hB : B ≤ B1) : GZ B1 B2 w v l := h.moved hk.size fun k h1 _ hl => hk.block k (by omega) hl
theorem CZ.keep {B B1 B2 : Nat} {u w : World} {v : Value} {l : List Tx.Ins} (h : CZ B1 B2 u v l) (hk : Keep B u w) (hB : B ≤ B1) : CZ B1 B2 w v l := h.moved hk.size fun k h1 _ hl => hk.block k (by omega) hl
theorem GZ.low {B B1 B2 : Nat} {u w : World} {v : Value} {l : List Int} (h : GZ B1 B2 u v l) (hk : Below B u w) (hB : B2 ≤ B) : GZ B1 B2 w v l := h.moved hk.size fun k _ h2 _ => hk.block k (by omega)
theorem CZ.low {B B1 B2 : Nat} {u w : World} {v : Value} {l : List Tx.Ins} (h : CZ B1 B2 u v l) (hk : Below B u w) (hB : B2 ≤ B) : CZ B1 B2 w v l := h.moved hk.size fun k _ h2 _ => hk.block k (by omega)
theorem GZ.on {B1 B2 : Nat} {u w : World} {v : Value} {l : List Int} (h : GZ B1 B2 u v l) (hk : Below u.heap.size u w) : GZ B1 B2 w v l := h.moved hk.size fun k _ _ h3 => hk.block k h3
theorem CZ.on {B1 B2 : Nat} {u w : World} {v : Value} {l : List Tx.Ins} (h : CZ B1 B2 u v l) (hk : Below u.heap.size u w) : CZ B1 B2 w v l := h.moved hk.size fun k _ _ h3 => hk.block k h3
theorem GZ.weak {B1 B2 C1 C2 : Nat} {w : World} {v : Value} {l : List Int} (h : GZ B1 B2 w v l) (h1 : C1 ≤ B1) (h2 : B2 ≤ C2) : GZ C1 C2 w v l := by
  rcases h with ⟨g, c, hv, k1, k2, h3, h4, h5⟩ | h
  · exact .inl ⟨g, c, hv, by omega, by omega, h3, h4, h5⟩
  · exact .inr h
theorem CZ.weak {B1 B2 C1 C2 : Nat} {w : World} {v : Value} {l : List Tx.Ins} (h : CZ B1 B2 w v l) (h1 : C1 ≤ B1) (h2 : B2 ≤ C2) : CZ C1 C2 w v l := by
  rcases h with ⟨g, c, hv, k1, k2, h3, h4, h5⟩ | h
  · exact .inl ⟨g, c, hv, by omega, by omega, h3, h4, h5⟩
  · exact .inr h
theorem GZ.form {B1 B2 : Nat} {w : World} {v : Value} {l : List Int} (h : GZ B1 B2 w v l) : ∃ a c, v = .slice a l.length c := by
  rcases h with ⟨g, c, hv, _⟩ | ⟨hv, hl⟩
  · exact ⟨_, _, hv⟩
  · subst hl; exact ⟨_, _, hv⟩
theorem CZ.form {B1 B2 : Nat} {w : World} {v : Value} {l : List Tx.Ins} (h : CZ B1 B2 w v l) : ∃ a c, v = .slice a l.length c := by
  rcases h with ⟨g, c, hv, _⟩ | ⟨hv, hl⟩
  · exact ⟨_, _, hv⟩
  · subst hl; exact ⟨_, _, hv⟩
theorem GZ.of {B : Nat} {w : World} {v : Value} {l : List Int} (h : GInt B w v l) : GZ B w.heap.size w v l := by
  obtain ⟨g, c, hv, h1, h2, h3, h4⟩ := h
  exact .inl ⟨g, c, hv, h1, h2, h2, h3, h4⟩
theorem CZ.of {B : Nat} {w : World} {v : Value} {l : List Tx.Ins} (h : CS B w v l) : CZ B w.heap.size w v l := by
  obtain ⟨g, c, hv, h1, h2, h3, h4⟩ := h
  exact .inl ⟨g, c, hv, h1, h2, h2, h3, h4⟩
theorem GZ.si {B1 B2 : Nat} {w : World} {v : Value} {l : List Int} (h : GZ B1 B2 w v l) : SI true B1 w v l := by
  rcases h with ⟨g, c, rfl, h1, _, h2, h3, h4⟩ | ⟨rfl, rfl⟩
  · exact SI.row h1 h2 h3 h4
  · exact SI.nil _ _ _
/-- A method that a call has made: its rows in blocks of their own. -/
def AnsM (B : Nat) (w : World) (va vc : Value) (m : Meth) : Prop := ∃ M, B ≤ M ∧ M ≤ w.heap.size ∧ GZ B M w va m.args ∧ CZ M w.heap.size w vc m.code

theorem AnsM.keep {B C : Nat} {u w : World} {va vc : Value} {m : Meth} (h : AnsM B u va vc m) (hk : Keep C u w) (hB : C ≤ B) : AnsM B w va vc m := by
  obtain ⟨M, h1, h2, h3, h4⟩ := h
  exact ⟨M, h1, Nat.le_trans h2 hk.size, h3.keep hk hB, (h4.keep hk (Nat.le_trans hB h1)).weak (Nat.le_refl _) hk.size⟩
theorem AnsM.weak {B C : Nat} {w : World} {va vc : Value} {m : Meth} (h : AnsM B w va vc m) (hB : C ≤ B) : AnsM C w va vc m := by
  obtain ⟨M, h1, h2, h3, h4⟩ := h
  exact ⟨M, Nat.le_trans hB h1, h2, h3.weak hB (Nat.le_refl _), h4⟩

set_option maxRecDepth 100000 in
set_option maxHeartbeats 800000 in
theorem cloneInts (B : Nat) (a : Option Addr) (cap : Nat) (l : List Int) (hl : l.length ≤ 1048576) (w : World) (h : SI true B w (.slice a l.length cap) l) :
    Calls Tryz.prog 48 #[.slice a l.length cap] w fun e w' => ∃ v, e = .returned v ∧ GZ w.heap.size w'.heap.size w' v l ∧ Below w.heap.size w w' := by
  obtain ⟨i0, hif, hz0, hz1, hz2⟩ := info_parts infoN
  cases a with
  | none =>
    obtain ⟨rfl, _, rfl⟩ := Arr.nil h
    clear h
    have hq : ∀ W : World, (binOp .eql 29 (.slice none 0 0) (.slice none 0 0)).run Tryz.prog W = .ok (.bool true) W := fun W => Lib.run_eql_slice_nil W _ _ _ _ _ _ _ Tryz.underlying29
    go_enter Tryz.func48, Tryz.ntmps48
    go_wp2
    go_ret
    exact ⟨_, rfl, .inr ⟨rfl, rfl⟩, Below.refl _ _⟩
  | some ad =>
    have HN : Hid (∀ x, Below w.heap.size w x → ∀ j u, (nums l)[j]? = some u → x.cell? (ad.add j) = some u) := fun x hx => SI.nums (SI.on h (Keep.of hx))
    clear h
    have hq : ∀ W : World, (binOp .eql 29 (.slice (some ad) l.length cap) (.slice none 0 0)).run Tryz.prog W = .ok (.bool false) W := fun W => Lib.run_eql_slice_nil W _ _ _ _ _ _ _ Tryz.underlying29
    go_enter Tryz.func48, Tryz.ntmps48
    go_wp2_with (at_builtin; refine wpList_append_own _ rfl _ _ 29 rfl w.heap.size 2 i0 (.int .i64 0) 1 8 Tryz.underlying29 hif hz0 hz1 hz2 rfl (by decide) _ _ _ rfl (World.ownsRow_made w #[] 0 (Nat.le_refl _) (by decide) (by simp)) ad l.length cap (nums l) rfl (by simp [nums]) (HN.out _ ((Below.refl _ _).alloc (Nat.le_refl _) _)) (nums_one _) (by unfold maxLen; omega) (by omega) (by simp) ?_)
    intro v' w1 hown hgrow hnil
    have hb : Below w.heap.size w w1 := ((Below.refl _ _).alloc (Nat.le_refl _) _).grown hgrow (by simp) (fun g hg => by simp [Value.ownBlock] at hg; omega)
    have HG : Hid (GZ w.heap.size w1.heap.size w1 v' l) := GZ.of (grow_of hown (fun h => by first | exact hnil h | exact absurd (hnil.1 h).1 (by simp))).gint
    clear hown hgrow hnil
    go_wp2
    go_ret
    exact ⟨_, rfl, HG.out, hb⟩
set_option maxRecDepth 100000 in
set_option maxHeartbeats 800000 in
theorem cloneCode (B : Nat) (v : Value) (l : List Tx.Ins) (hl : l.length ≤ 1048576) (w : World) (h : CS B w v l) :
    Calls Tryz.prog 49 #[v] w fun e w' => ∃ v, e = .returned v ∧ CS w.heap.size w' v l ∧ Below w.heap.size w w' := by
  obtain ⟨i0, hi, hz0, hz1, hz2⟩ := info_parts infoI
  obtain ⟨g, cap, rfl, _, _, hr, _⟩ := h
  have HR : Hid (Row w g 0 l) := hr
  clear hr
  have hq : ∀ W : World, (binOp .eql 33 (.slice (some ⟨g, 0, none⟩) l.length cap) (.slice none 0 0)).run Tryz.prog W = .ok (.bool false) W := fun W => Lib.run_eql_slice_nil W _ _ _ _ _ _ _ Tryz.underlying33
  go_enter Tryz.func49, Tryz.ntmps49
  go_wp2_with (at_builtin; refine wpList_append_own _ rfl _ _ 33 rfl w.heap.size 73 i0 (.agg #[.int .i64 0, .int .i64 0, .int .i64 0]) 3 24 Tryz.underlying33 hi hz0 hz1 hz2 rfl (by decide) _ _ _ rfl (World.ownsRow_made w #[] 0 (Nat.le_refl _) (by decide) (by simp)) ⟨g, 0, none⟩ l.length cap (flat l) rfl (flat_len l) (HR.out.on ((Below.refl _ _).alloc (Nat.le_refl _) _)).flat (flat_one _) (by unfold maxLen; omega) (by omega) (by simp) ?_)
  intro v' w1 hown hgrow hnil
  have hb : Below w.heap.size w w1 := ((Below.refl _ _).alloc (Nat.le_refl _) _).grown hgrow (by simp) (fun g hg => by simp [Value.ownBlock] at hg; omega)
  have HG : Hid (CS w.heap.size w1 v' l) := cs_of hown (fun h => by first | exact hnil h | exact absurd (hnil.1 h).1 (by simp))
  clear hown hgrow hnil
  go_wp2
  go_ret
  exact ⟨_, rfl, HG.out, hb⟩
end Pg
end Go.Proofs.YtbgbddahniacbaaGreatDoor
