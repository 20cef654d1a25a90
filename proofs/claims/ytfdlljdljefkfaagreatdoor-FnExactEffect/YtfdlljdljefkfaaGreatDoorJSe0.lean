/- Contracts of the specification's putting on a state. -/
import Derived.Test.YtfdlljdljefkfaaGreatDoorJPc3
import Derived.Test.YtfdlljdljefkfaaGreatDoorJEn3
import Derived.Test.YtfdlljdljefkfaaGreatDoorJDkC
import Derived.Deep.DeepCutAuto
import Derived.Deep.RegionHeld3
namespace Go.Proofs.YtfdlljdljefkfaaGreatDoor
namespace Pg
open Go.ChangeShapes Go.WideShapes Go.ChangeAt Go.RowKit St

theorem grow_empty (w : World) {B : Nat} (hB : B ≤ w.heap.size) : Grow B (w.alloc (.cells #[] 2)) (.slice (some ⟨w.heap.size, 0, none⟩) ([] : List Int).length 0) [] :=
  ⟨ownBase (World.ownsRow_made w #[] 0 (Nat.le_refl _) (by decide) (by simp)) hB, by simp⟩
theorem growOff {B g g' n cv : Nat} {X Y : World} {l : List Int} (h : Grow B X (.slice (some ⟨g, 0, none⟩) n cv) l) (hb : ∀ b, b ≠ g' → b < X.heap.size → Y.heap[b]? = X.heap[b]?) (hne : g ≠ g') : Grow B Y (.slice (some ⟨g, 0, none⟩) n cv) l := by
  refine ⟨⟨h.1.1, ?_⟩, h.2⟩
  rcases h.1.2 with ⟨hn, _⟩ | ⟨g1, cap, cur, hv, hB, hg, rest⟩
  · cases hn
  · injection hv with e1 e2 e3
    injection e1 with e1
    injection e1 with e1
    subst e1
    exact .inr ⟨g, cap, cur, by rw [e2, e3], hB, (hb g hne (Array.getElem?_eq_some_iff.1 hg).1).trans hg, rest⟩
theorem ne_step {g2 g g' n : Nat} (h : g2 ≠ g) (hl : g2 < n) (hg : g' = g ∨ g' = n) : g2 ≠ g' := by omega
/-- Where the new state lies: both rows one's own, apart. -/
def PutOut (W : World) (st lo : List Int) (v : Value) (u : World) : Prop := ∃ k g1 c1 g2 c2, v = .pointer (some ⟨k, 0, none⟩) ∧ W.heap.size ≤ k ∧ BoxT u k 32 #[.slice (some ⟨g1, 0, none⟩) st.length c1, .slice (some ⟨g2, 0, none⟩) lo.length c2] ∧ Grow W.heap.size u (.slice (some ⟨g1, 0, none⟩) st.length c1) st ∧ Grow W.heap.size u (.slice (some ⟨g2, 0, none⟩) lo.length c2) lo ∧ g1 ≠ g2 ∧ g1 ≠ k ∧ g2 ≠ k ∧ Below W.heap.size W u
theorem putOut_of {W X : World} {st lo : List Int} {k g1 c1 g2 c2 : Nat} (hb : Below W.heap.size W X) (h1 : Grow W.heap.size X (.slice (some ⟨g1, 0, none⟩) ([] ++ st).length c1) ([] ++ st)) (h2 : Grow W.heap.size X (.slice (some ⟨g2, 0, none⟩) ([] ++ lo).length c2) ([] ++ lo)) (hc : BoxT X k 32 #[.slice none 0 0, .slice none 0 0]) (h12 : g1 ≠ g2) (h1k : g1 ≠ k) (h2k : g2 ≠ k) (hk : W.heap.size ≤ k) :
    PutOut W st lo (.pointer (some ⟨k, 0, none⟩)) ((X.setCell ⟨k, 0, none⟩ (.slice (some ⟨g1, 0, none⟩) ([] ++ st).length c1)).setCell ⟨k, 1, none⟩ (.slice (some ⟨g2, 0, none⟩) ([] ++ lo).length c2)) := by
  have two : ∀ b, b ≠ k → b < X.heap.size → ((X.setCell ⟨k, 0, none⟩ (.slice (some ⟨g1, 0, none⟩) ([] ++ st).length c1)).setCell ⟨k, 1, none⟩ (.slice (some ⟨g2, 0, none⟩) ([] ++ lo).length c2)).heap[b]? = X.heap[b]? := fun b hb' _ => (Below.heap_setCell _ ⟨k, 1, none⟩ _ b hb').trans (Below.heap_setCell _ ⟨k, 0, none⟩ _ b hb')
  refine ⟨k, g1, c1, g2, c2, rfl, hk, (hc.set 0 _ rfl).set 1 _ rfl, growOff h1 two h1k, growOff h2 two h2k, h12, h1k, h2k, (hb.setCell (p := ⟨k, 0, none⟩) hk _).setCell (p := ⟨k, 1, none⟩) hk _⟩

theorem si_take {B : Nat} {w : World} {z : Option Addr} {c keep : Nat} {st : List Int} (h : SI true B w (.slice z st.length c) st) (hk : keep ≤ st.length) : SI true B w (.slice z (st.take keep).length c) (st.take keep) := by
  obtain ⟨a, cap, hv, hz, hx⟩ := h
  injection hv with e1 _ e3
  subst e1 e3
  refine ⟨_, _, rfl, hz, fun h0 => ?_⟩
  have h1 : 0 < st.length := by simp at h0; omega
  obtain ⟨b, o, ha, hB, ⟨hl, hf⟩, hall⟩ := hx h1
  refine ⟨b, o, ha, hB, ⟨hl, fun e j hj => hf e j (by simp at hj ⊢; omega)⟩, fun j x hj => hall j x ?_⟩
  rw [List.getElem?_take] at hj
  split at hj
  · exact hj
  · cases hj
set_option maxRecDepth 100000 in
set_option maxHeartbeats 400000 in
theorem l7Back_at (B : Nat) (z : Option Addr) (c : Nat) (st : List Int) (hl : st.length ≤ 1000) (b : Nat) (hb0 : 0 < b) (hb9 : b ≤ 1000) (w : World) (h : SI true B w (.slice z st.length c) st) :
    Calls Tryz.prog 39 #[.slice z st.length c, .int .i64 b] w fun e w' => e = .returned (.int .i64 (if st.length < b then -3 else topF st b)) ∧ w = w' := by
  by_cases hlt : st.length < b
  · have hd : decide ((st.length : Int) < (b : Int)) = true := by simp; omega
    rw [if_pos hlt]
    clear h
    go_enter Tryz.func39, Tryz.ntmps39
    go_wp2
    go_ret
    exact ⟨rfl, rfl⟩
  · have hd : decide ((st.length : Int) < (b : Int)) = false := by simp; omega
    rw [if_neg hlt]
    have hj : st.length - b < st.length := by omega
    obtain ⟨g, o, rfl, _, a0⟩ := h.get hj
    have HT : Hid (topF st b = st[st.length - b]) := by show _ = _; unfold topF; rw [List.getD_eq_getElem?_getD, List.getElem?_eq_getElem hj]; rfl
    rw [HT.out]
    generalize st[st.length - b] = x at *
    have a0 : w.cell? ⟨g, o + (st.length - b), none⟩ = some (.int .i64 x) := by simpa [IntAt] using a0
    obtain ⟨j, hje⟩ : ∃ j, j = st.length - b := ⟨_, rfl⟩
    rw [← hje] at a0 hj
    have hwr : wrap64 ((st.length : Int) - (b : Int)) = (j : Int) := by unfold wrap64; omega
    have hj0 : (0 : Int) ≤ (j : Int) := by omega
    have hji : (j : Int) < (st.length : Int) := by omega
    clear hje hl
    go_enter Tryz.func39, Tryz.ntmps39
    go_wp2
    go_ret
    exact ⟨rfl, rfl⟩

set_option maxRecDepth 100000 in
set_option maxHeartbeats 8000000 in
theorem l7Put_at (B : Nat) (z1 z2 : Option Addr) (c1 c2 : Nat) (st lo : List Int) (hs1 : st.length ≤ 400) (hl1 : lo.length ≤ 400) (hc1 : st.length ≤ c1) (keep : Nat) (hkp : keep ≤ st.length) (ck : Nat) (ks : List Int) (hks : ks.length ≤ 10) (w : World) (hs : SI true B w (.slice z1 st.length c1) st) (hl : SI true B w (.slice z2 lo.length c2) lo) (zo : Option Addr) (hk : SI true B w (.slice zo ks.length ck) ks) :
    Calls Tryz.prog 40 #[.agg #[.slice z1 st.length c1, .slice z2 lo.length c2], .int .i64 keep, .slice zo ks.length ck] w fun e w' => ∃ x1 y1 x2 y2, e = .returned (.tuple #[.agg #[.slice x1 (st.take keep ++ ks).length y1, .slice x2 lo.length y2], .bool (decide ((st.take keep ++ ks).length ≤ 8))]) ∧ OwnS w.heap.size w' (.slice x1 (st.take keep ++ ks).length y1) (.slice x2 lo.length y2) (st.take keep ++ ks, lo) ∧ Below w.heap.size w w' := by
  obtain ⟨W, hW⟩ : ∃ W, W = (w.alloc (.cells #[.slice z1 st.length c1, .slice z2 lo.length c2] 32)).alloc (.cells #[.slice none 0 0, .slice none 0 0] 32) := ⟨_, rfl⟩
  have hwW : Below w.heap.size w W := by rw [hW]; exact ((Below.refl _ _).alloc (Nat.le_refl _) _).alloc (by simp) _
  have C0 : Hid (Cells W w.heap.size [.slice z1 st.length c1, .slice z2 lo.length c2]) := by rw [hW]; exact (Cells.new w _ rfl _ _).alloc _
  have R0 : Hid (Cells W (w.heap.size + 1) [.slice none 0 0, .slice none 0 0]) := by rw [hW]; exact Cells.new (w.alloc _) _ (by simp) _ _
  have HZ : Hid (W.heap.size = w.heap.size + 1 + 1) := by rw [hW]; show _ = _; simp
  have HLN : Hid (st.length ≤ 400 ∧ lo.length ≤ 400 ∧ keep ≤ st.length) := ⟨hs1, hl1, hkp⟩
  have hW0 : Below W.heap.size W W.drew := (Below.refl _ _).drew
  obtain ⟨zz, cz, HST, hslice⟩ : ∃ zz cz, Hid (SI true B w (.slice zz (st.take keep).length cz) (st.take keep)) ∧ zz = z1 ∧ cz = c1 := ⟨z1, c1, si_take hs hkp, rfl, rfl⟩
  obtain ⟨rfl, rfl⟩ := hslice
  have HLO : Hid (SI true B w (.slice z2 lo.length c2) lo) := hl
  have HKS : Hid (SI true B w (.slice zo ks.length ck) ks) := hk
  have hki : (keep : Int) ≤ (cz : Int) := by omega
  have HTL2 : Hid (([] ++ st.take keep).length = keep) := by show _ = _; simp; omega
  clear hs hl hk hs1 hl1
  go_enter Tryz.func40, Tryz.ntmps40
  go_wp2_with fail
  rw [← hW]
  clear hW
  go_cut [8] (fun v u => PutOut W (st.take keep) lo v u)
  case first =>
    rename_i J KK hJ hKK
    refine wp_region_held_drew (S := fun x => Cells x w.heap.size [.slice zz st.length cz, .slice z2 lo.length c2]) (by kernel_rfl) (C0.out.on hW0) (fun hHeld => ?_)
    generalize W.drew = X0 at hW0 hHeld ⊢
    refine wpAnyH_take (i := 1) (v := ?_) rfl (by kernel_rfl) (by kernel_rfl) (by kernel_rfl) (fun _ _ _ h => h) (Or.inl ⟨by rfl, ?_⟩) hHeld ?_
    rotate_left 1
    · intro w' hSw
      obtain ⟨s2, _⟩ := Cells.g0 hSw
      obtain ⟨s3, _⟩ := Cells.g1 hSw
      go_simp
      try with_reducible rfl
    simp only [Act.put]
    refine wpAnyH_take (i := 2) (v := ?_) rfl (by kernel_rfl) (by kernel_rfl) (by kernel_rfl) (fun _ _ _ h => h) (Or.inl ⟨by rfl, ?_⟩) hHeld ?_
    rotate_left 1
    · intro w' hSw
      obtain ⟨s2, _⟩ := Cells.g0 hSw
      obtain ⟨s3, _⟩ := Cells.g1 hSw
      go_simp
      try with_reducible rfl
    simp only [Act.put]
    refine wpAnyH_take (i := 3) (v := ?_) rfl (by kernel_rfl) (by kernel_rfl) (by kernel_rfl) (fun _ _ _ h => h) (Or.inl ⟨by rfl, ?_⟩) hHeld ?_
    rotate_left 1
    · intro w' hSw
      obtain ⟨s2, _⟩ := Cells.g0 hSw
      obtain ⟨s3, _⟩ := Cells.g1 hSw
      go_simp
      try with_reducible rfl
    simp only [Act.put]
    refine wpAnyH_take (i := 4) (v := ?_) rfl (by kernel_rfl) (by kernel_rfl) (by kernel_rfl) (fun _ _ _ h => h) (Or.inl ⟨by rfl, ?_⟩) hHeld ?_
    rotate_left 1
    · intro w' hSw
      obtain ⟨s2, _⟩ := Cells.g0 hSw
      obtain ⟨s3, _⟩ := Cells.g1 hSw
      go_simp
      try with_reducible rfl
    simp only [Act.put]
    refine wpAnyH_take (i := 7) (v := ?_) rfl (by kernel_rfl) (by kernel_rfl) (by kernel_rfl) (fun _ _ _ h => h) (Or.inl ⟨by rfl, ?_⟩) hHeld ?_
    rotate_left 1
    · intro w' hSw
      obtain ⟨s2, _⟩ := Cells.g0 hSw
      obtain ⟨s3, _⟩ := Cells.g1 hSw
      go_simp
      try with_reducible rfl
    simp only [Act.put]
    refine wpAnyH_take (i := 8) (v := ?_) rfl (by kernel_rfl) (by kernel_rfl) (by kernel_rfl) (fun _ _ _ h => h) (Or.inl ⟨by rfl, ?_⟩) hHeld ?_
    rotate_left 1
    · intro w' hSw
      obtain ⟨s2, _⟩ := Cells.g0 hSw
      obtain ⟨s3, _⟩ := Cells.g1 hSw
      go_simp
      try with_reducible rfl
    simp only [Act.put]
    refine wpAnyH_ready (rs := [0, 6, 11]) (by kernel_rfl) (by simp) ?_
    refine AllReadyH.cons rfl (fun K hK => ?_) (AllReadyH.cons rfl (fun K hK => ?_) (AllReadyH.cons rfl (fun K hK => ?_) AllReadyH.nil))
    · obtain ⟨Y2, hY2⟩ : ∃ Y, Y = X0.alloc (.cells #[] 2) := ⟨_, rfl⟩
      have hB1 : Below W.heap.size W Y2 := by rw [hY2]; exact hW0.alloc hW0.size _
      have alY2 : Below X0.heap.size X0 Y2 := by rw [hY2]; exact allocBelow _ _
      have f3 : Grow W.heap.size Y2 (.slice (some ⟨X0.heap.size, 0, none⟩) ([] : List Int).length 0) [] := by rw [hY2]; exact grow_empty X0 hW0.size
      go_simp
      rw [← hY2]
      refine hK.out _ _ (C0.out.on hB1) (fun hHeld => ?_)
      clear hK K hY2
      refine wpAnyH_ready (rs := [5, 6, 11]) (by kernel_rfl) (by simp) ?_
      refine AllReadyH.cons rfl (fun K hK => ?_) (AllReadyH.cons rfl (fun K hK => ?_) (AllReadyH.cons rfl (fun K hK => ?_) AllReadyH.nil))
      · refine stepGrowAt Y2 rfl (.tmp 9) (.tmp 13) rfl W.heap.size (X0.heap.size) 0 [] (by (try simp only [Act.put]); simp [Act.eval]) f3 hB1.size zz cz B (st.take keep) (by first | rfl | ((try simp only [Act.put]); simp [Act.eval]; done) | ((try simp only [Act.put]); simp [Act.eval]; omega)) (SI.on HST.out (Keep.of (below_over hwW hB1))) (by have := HLN.out; simp; omega) ?_
        intro g4 c5 Y6 f7 k8 b9 e10
        have hB11 : Below W.heap.size W Y6 := hB1.trans k8.below
        refine hK.out _ _ (C0.out.on hB11) (fun hHeld => ?_)
        clear hK K
        refine wpAnyH_ready (rs := [6, 11]) (by kernel_rfl) (by simp) ?_
        refine AllReadyH.cons rfl (fun K hK => ?_) (AllReadyH.cons rfl (fun K hK => ?_) AllReadyH.nil)
        · obtain ⟨Y13, hY13⟩ : ∃ Y, Y = Y6.alloc (.cells #[] 2) := ⟨_, rfl⟩
          have hB12 : Below W.heap.size W Y13 := by rw [hY13]; exact hB11.alloc hB11.size _
          have alY13 : Below Y6.heap.size Y6 Y13 := by rw [hY13]; exact allocBelow _ _
          have f14 := growOn f7 alY13
          have f15 : Grow W.heap.size Y13 (.slice (some ⟨Y6.heap.size, 0, none⟩) ([] : List Int).length 0) [] := by rw [hY13]; exact grow_empty Y6 hB11.size
          have n16 : g4 ≠ Y6.heap.size := by have := grow_lt f7; omega
          go_simp
          rw [← hY13]
          refine hK.out _ _ (C0.out.on hB12) (fun hHeld => ?_)
          clear hK K hY13
          refine wpAnyH_ready (rs := [9, 11]) (by kernel_rfl) (by simp) ?_
          refine AllReadyH.cons rfl (fun K hK => ?_) (AllReadyH.cons rfl (fun K hK => ?_) AllReadyH.nil)
          · refine stepGrowAt Y13 rfl (.tmp 15) (.tmp 17) rfl W.heap.size (Y6.heap.size) 0 [] (by (try simp only [Act.put]); simp [Act.eval]) f15 hB12.size z2 c2 B lo (by first | rfl | ((try simp only [Act.put]); simp [Act.eval]; done) | ((try simp only [Act.put]); simp [Act.eval]; omega)) (SI.on HLO.out (Keep.of (below_over hwW hB12))) (by have := HLN.out; simp; omega) ?_
            intro g17 cz8 Y19 f20 k21 b22 e23
            have hB24 : Below W.heap.size W Y19 := hB12.trans k21.below
            have f25 := growOff f14 b22 n16
            have n26 : g4 ≠ g17 := ne_step n16 (grow_lt f14) e23
            refine hK.out _ _ (C0.out.on hB24) (fun hHeld => ?_)
            clear hK K
            refine wpAnyH_take (i := 10) (v := ?_) rfl (by kernel_rfl) (by kernel_rfl) (by kernel_rfl) (fun _ _ _ h => h) (Or.inl ⟨by rfl, ?_⟩) hHeld ?_
            rotate_left 1
            · intro w' hSw
              obtain ⟨s2, _⟩ := Cells.g0 hSw
              obtain ⟨s3, _⟩ := Cells.g1 hSw
              go_simp
              try with_reducible rfl
            simp only [Act.put]
            refine wpAnyH_ready (rs := [11]) (by kernel_rfl) (by simp) ?_
            refine AllReadyH.cons rfl (fun K hK => ?_) AllReadyH.nil
            obtain ⟨Y28, hY28⟩ : ∃ Y, Y = Y19.alloc (.cells #[.slice none 0 0, .slice none 0 0] 32) := ⟨_, rfl⟩
            have hB27 : Below W.heap.size W Y28 := by rw [hY28]; exact hB24.alloc hB24.size _
            have alY28 : Below Y19.heap.size Y19 Y28 := by rw [hY28]; exact allocBelow _ _
            have f29 := growOn f25 alY28
            have f30 := growOn f20 alY28
            have f31 : BoxT Y28 Y19.heap.size 32 #[.slice none 0 0, .slice none 0 0] := by rw [hY28]; exact BoxT.new _ _ _
            have w32 : W.heap.size ≤ Y19.heap.size := hB24.size
            have n33 : g4 ≠ Y19.heap.size := by have := grow_lt f25; omega
            have n34 : g17 ≠ Y19.heap.size := by have := grow_lt f20; omega
            go_simp
            rw [← hY28]
            refine hK.out _ _ (C0.out.on hB27) (fun hHeld => ?_)
            clear hK K hY28
            refine wpAnyH_ready (rs := [12]) (by kernel_rfl) (by simp) ?_
            refine AllReadyH.cons rfl (fun K hK => ?_) AllReadyH.nil
            have CX := BoxT.cells f31
            obtain ⟨a0, b0⟩ := CX.g0
            obtain ⟨a1, b1⟩ := CX.g1
            have HJ : PutOut W (st.take keep) lo (.pointer (some ⟨Y19.heap.size, 0, none⟩)) ((Y28.setCell ⟨Y19.heap.size, 0, none⟩ (.slice (some ⟨g4, 0, none⟩) keep c5)).setCell ⟨Y19.heap.size, 1, none⟩ (.slice (some ⟨g17, 0, none⟩) lo.length cz8)) := by
              have h := putOut_of hB27 f29 f30 f31 n26 n33 n34 w32
              rw [HTL2.out] at h
              exact h
            have HSX : Cells ((Y28.setCell ⟨Y19.heap.size, 0, none⟩ (.slice (some ⟨g4, 0, none⟩) keep c5)).setCell ⟨Y19.heap.size, 1, none⟩ (.slice (some ⟨g17, 0, none⟩) lo.length cz8)) w.heap.size [.slice zz st.length cz, .slice z2 lo.length c2] := ((C0.out.on hB27).far ⟨Y19.heap.size, 0, none⟩ _ (by have := w32; have := HZ.out; simp; omega)).far ⟨Y19.heap.size, 1, none⟩ _ (by have := w32; have := HZ.out; simp; omega)
            go_simp
            refine hK.out _ _ HSX (fun hHeld => ?_)
            clear hK K a0 a1 b0 b1 CX
            refine wpAnyH_done (by kernel_rfl) ?_ _
            go_simp
            refine hKK _ _ (Met.intro (hJ _ _ ?_))
            (repeat apply Exists.intro)
            exact ⟨HJ, rfl⟩
          · obtain ⟨Y36, hY36⟩ : ∃ Y, Y = Y13.alloc (.cells #[.slice none 0 0, .slice none 0 0] 32) := ⟨_, rfl⟩
            have hB35 : Below W.heap.size W Y36 := by rw [hY36]; exact hB12.alloc hB12.size _
            have alY36 : Below Y13.heap.size Y13 Y36 := by rw [hY36]; exact allocBelow _ _
            have f37 := growOn f14 alY36
            have f38 := growOn f15 alY36
            have f39 : BoxT Y36 Y13.heap.size 32 #[.slice none 0 0, .slice none 0 0] := by rw [hY36]; exact BoxT.new _ _ _
            have w40 : W.heap.size ≤ Y13.heap.size := hB12.size
            have n41 : g4 ≠ Y13.heap.size := by have := grow_lt f14; omega
            have n42 : Y6.heap.size ≠ Y13.heap.size := by have := grow_lt f15; omega
            go_simp
            rw [← hY36]
            refine hK.out _ _ (C0.out.on hB35) (fun hHeld => ?_)
            clear hK K hY36
            refine wpAnyH_ready (rs := [9]) (by kernel_rfl) (by simp) ?_
            refine AllReadyH.cons rfl (fun K hK => ?_) AllReadyH.nil
            refine stepGrowAt Y36 rfl (.tmp 15) (.tmp 17) rfl W.heap.size (Y6.heap.size) 0 [] (by (try simp only [Act.put]); simp [Act.eval]) f38 hB35.size z2 c2 B lo (by first | rfl | ((try simp only [Act.put]); simp [Act.eval]; done) | ((try simp only [Act.put]); simp [Act.eval]; omega)) (SI.on HLO.out (Keep.of (below_over hwW hB35))) (by have := HLN.out; simp; omega) ?_
            intro g43 c44 Y45 f46 k47 b48 e49
            have hB50 : Below W.heap.size W Y45 := hB35.trans k47.below
            have f51 := growOff f37 b48 n16
            have n52 : g4 ≠ g43 := ne_step n16 (grow_lt f37) e49
            have f53 : BoxT Y45 Y13.heap.size 32 #[.slice none 0 0, .slice none 0 0] := (b48 _ (Ne.symm n42) f39.lt).trans f39
            have n54 : g43 ≠ Y13.heap.size := Ne.symm (ne_step (Ne.symm n42) f39.lt e49)
            refine hK.out _ _ (C0.out.on hB50) (fun hHeld => ?_)
            clear hK K
            refine wpAnyH_take (i := 10) (v := ?_) rfl (by kernel_rfl) (by kernel_rfl) (by kernel_rfl) (fun _ _ _ h => h) (Or.inl ⟨by rfl, ?_⟩) hHeld ?_
            rotate_left 1
            · intro w' hSw
              obtain ⟨s2, _⟩ := Cells.g0 hSw
              obtain ⟨s3, _⟩ := Cells.g1 hSw
              go_simp
              try with_reducible rfl
            simp only [Act.put]
            refine wpAnyH_ready (rs := [12]) (by kernel_rfl) (by simp) ?_
            refine AllReadyH.cons rfl (fun K hK => ?_) AllReadyH.nil
            have CX := BoxT.cells f53
            obtain ⟨a0, b0⟩ := CX.g0
            obtain ⟨a1, b1⟩ := CX.g1
            have HJ : PutOut W (st.take keep) lo (.pointer (some ⟨Y13.heap.size, 0, none⟩)) ((Y45.setCell ⟨Y13.heap.size, 0, none⟩ (.slice (some ⟨g4, 0, none⟩) keep c5)).setCell ⟨Y13.heap.size, 1, none⟩ (.slice (some ⟨g43, 0, none⟩) lo.length c44)) := by
              have h := putOut_of hB50 f51 f46 f53 n52 n41 n54 w40
              rw [HTL2.out] at h
              exact h
            have HSX : Cells ((Y45.setCell ⟨Y13.heap.size, 0, none⟩ (.slice (some ⟨g4, 0, none⟩) keep c5)).setCell ⟨Y13.heap.size, 1, none⟩ (.slice (some ⟨g43, 0, none⟩) lo.length c44)) w.heap.size [.slice zz st.length cz, .slice z2 lo.length c2] := ((C0.out.on hB50).far ⟨Y13.heap.size, 0, none⟩ _ (by have := w40; have := HZ.out; simp; omega)).far ⟨Y13.heap.size, 1, none⟩ _ (by have := w40; have := HZ.out; simp; omega)
            go_simp
            refine hK.out _ _ HSX (fun hHeld => ?_)
            clear hK K a0 a1 b0 b1 CX
            refine wpAnyH_done (by kernel_rfl) ?_ _
            go_simp
            refine hKK _ _ (Met.intro (hJ _ _ ?_))
            (repeat apply Exists.intro)
            exact ⟨HJ, rfl⟩
        · obtain ⟨Y56, hY56⟩ : ∃ Y, Y = Y6.alloc (.cells #[.slice none 0 0, .slice none 0 0] 32) := ⟨_, rfl⟩
          have hB55 : Below W.heap.size W Y56 := by rw [hY56]; exact hB11.alloc hB11.size _
          have alY56 : Below Y6.heap.size Y6 Y56 := by rw [hY56]; exact allocBelow _ _
          have f57 := growOn f7 alY56
          have f58 : BoxT Y56 Y6.heap.size 32 #[.slice none 0 0, .slice none 0 0] := by rw [hY56]; exact BoxT.new _ _ _
          have w59 : W.heap.size ≤ Y6.heap.size := hB11.size
          have n60 : g4 ≠ Y6.heap.size := by have := grow_lt f7; omega
          go_simp
          rw [← hY56]
          refine hK.out _ _ (C0.out.on hB55) (fun hHeld => ?_)
          clear hK K hY56
          refine wpAnyH_ready (rs := [6]) (by kernel_rfl) (by simp) ?_
          refine AllReadyH.cons rfl (fun K hK => ?_) AllReadyH.nil
          obtain ⟨Y62, hY62⟩ : ∃ Y, Y = Y56.alloc (.cells #[] 2) := ⟨_, rfl⟩
          have hB61 : Below W.heap.size W Y62 := by rw [hY62]; exact hB55.alloc hB55.size _
          have alY62 : Below Y56.heap.size Y56 Y62 := by rw [hY62]; exact allocBelow _ _
          have f63 := growOn f57 alY62
          have f64 := BoxT.on f58 alY62
          have f65 : Grow W.heap.size Y62 (.slice (some ⟨Y56.heap.size, 0, none⟩) ([] : List Int).length 0) [] := by rw [hY62]; exact grow_empty Y56 hB55.size
          have n66 : g4 ≠ Y56.heap.size := by have := grow_lt f57; omega
          have n67 : Y56.heap.size ≠ Y6.heap.size := by have := f58.lt; omega
          go_simp
          rw [← hY62]
          refine hK.out _ _ (C0.out.on hB61) (fun hHeld => ?_)
          clear hK K hY62
          refine wpAnyH_ready (rs := [9]) (by kernel_rfl) (by simp) ?_
          refine AllReadyH.cons rfl (fun K hK => ?_) AllReadyH.nil
          refine stepGrowAt Y62 rfl (.tmp 15) (.tmp 17) rfl W.heap.size (Y56.heap.size) 0 [] (by (try simp only [Act.put]); simp [Act.eval]) f65 hB61.size z2 c2 B lo (by first | rfl | ((try simp only [Act.put]); simp [Act.eval]; done) | ((try simp only [Act.put]); simp [Act.eval]; omega)) (SI.on HLO.out (Keep.of (below_over hwW hB61))) (by have := HLN.out; simp; omega) ?_
          intro g68 c69 Y70 f71 k72 b73 e74
          have hB75 : Below W.heap.size W Y70 := hB61.trans k72.below
          have f76 := growOff f63 b73 n66
          have n77 : g4 ≠ g68 := ne_step n66 (grow_lt f63) e74
          have f78 : BoxT Y70 Y6.heap.size 32 #[.slice none 0 0, .slice none 0 0] := (b73 _ (Ne.symm n67) f64.lt).trans f64
          have n79 : g68 ≠ Y6.heap.size := Ne.symm (ne_step (Ne.symm n67) f64.lt e74)
          refine hK.out _ _ (C0.out.on hB75) (fun hHeld => ?_)
          clear hK K
          refine wpAnyH_take (i := 10) (v := ?_) rfl (by kernel_rfl) (by kernel_rfl) (by kernel_rfl) (fun _ _ _ h => h) (Or.inl ⟨by rfl, ?_⟩) hHeld ?_
          rotate_left 1
          · intro w' hSw
            obtain ⟨s2, _⟩ := Cells.g0 hSw
            obtain ⟨s3, _⟩ := Cells.g1 hSw
            go_simp
            try with_reducible rfl
          simp only [Act.put]
          refine wpAnyH_ready (rs := [12]) (by kernel_rfl) (by simp) ?_
          refine AllReadyH.cons rfl (fun K hK => ?_) AllReadyH.nil
          have CX := BoxT.cells f78
          obtain ⟨a0, b0⟩ := CX.g0
          obtain ⟨a1, b1⟩ := CX.g1
          have HJ : PutOut W (st.take keep) lo (.pointer (some ⟨Y6.heap.size, 0, none⟩)) ((Y70.setCell ⟨Y6.heap.size, 0, none⟩ (.slice (some ⟨g4, 0, none⟩) keep c5)).setCell ⟨Y6.heap.size, 1, none⟩ (.slice (some ⟨g68, 0, none⟩) lo.length c69)) := by
            have h := putOut_of hB75 f76 f71 f78 n77 n60 n79 w59
            rw [HTL2.out] at h
            exact h
          have HSX : Cells ((Y70.setCell ⟨Y6.heap.size, 0, none⟩ (.slice (some ⟨g4, 0, none⟩) keep c5)).setCell ⟨Y6.heap.size, 1, none⟩ (.slice (some ⟨g68, 0, none⟩) lo.length c69)) w.heap.size [.slice zz st.length cz, .slice z2 lo.length c2] := ((C0.out.on hB75).far ⟨Y6.heap.size, 0, none⟩ _ (by have := w59; have := HZ.out; simp; omega)).far ⟨Y6.heap.size, 1, none⟩ _ (by have := w59; have := HZ.out; simp; omega)
          go_simp
          refine hK.out _ _ HSX (fun hHeld => ?_)
          clear hK K a0 a1 b0 b1 CX
          refine wpAnyH_done (by kernel_rfl) ?_ _
          go_simp
          refine hKK _ _ (Met.intro (hJ _ _ ?_))
          (repeat apply Exists.intro)
          exact ⟨HJ, rfl⟩
      · obtain ⟨Y81, hY81⟩ : ∃ Y, Y = Y2.alloc (.cells #[] 2) := ⟨_, rfl⟩
        have hB80 : Below W.heap.size W Y81 := by rw [hY81]; exact hB1.alloc hB1.size _
        have alY81 : Below Y2.heap.size Y2 Y81 := by rw [hY81]; exact allocBelow _ _
        have f82 := growOn f3 alY81
        have f83 : Grow W.heap.size Y81 (.slice (some ⟨Y2.heap.size, 0, none⟩) ([] : List Int).length 0) [] := by rw [hY81]; exact grow_empty Y2 hB1.size
        have n84 : X0.heap.size ≠ Y2.heap.size := by have := grow_lt f3; omega
        go_simp
        rw [← hY81]
        refine hK.out _ _ (C0.out.on hB80) (fun hHeld => ?_)
        clear hK K hY81
        refine wpAnyH_ready (rs := [5, 11]) (by kernel_rfl) (by simp) ?_
        refine AllReadyH.cons rfl (fun K hK => ?_) (AllReadyH.cons rfl (fun K hK => ?_) AllReadyH.nil)
        · refine stepGrowAt Y81 rfl (.tmp 9) (.tmp 13) rfl W.heap.size (X0.heap.size) 0 [] (by (try simp only [Act.put]); simp [Act.eval]) f82 hB80.size zz cz B (st.take keep) (by first | rfl | ((try simp only [Act.put]); simp [Act.eval]; done) | ((try simp only [Act.put]); simp [Act.eval]; omega)) (SI.on HST.out (Keep.of (below_over hwW hB80))) (by have := HLN.out; simp; omega) ?_
          intro g85 c86 Y87 f88 k89 b90 e91
          have hB92 : Below W.heap.size W Y87 := hB80.trans k89.below
          have f93 := growOff f83 b90 (Ne.symm n84)
          have n94 : g85 ≠ Y2.heap.size := Ne.symm (ne_step (Ne.symm n84) (grow_lt f83) e91)
          refine hK.out _ _ (C0.out.on hB92) (fun hHeld => ?_)
          clear hK K
          refine wpAnyH_ready (rs := [9, 11]) (by kernel_rfl) (by simp) ?_
          refine AllReadyH.cons rfl (fun K hK => ?_) (AllReadyH.cons rfl (fun K hK => ?_) AllReadyH.nil)
          · refine stepGrowAt Y87 rfl (.tmp 15) (.tmp 17) rfl W.heap.size (Y2.heap.size) 0 [] (by (try simp only [Act.put]); simp [Act.eval]) f93 hB92.size z2 c2 B lo (by first | rfl | ((try simp only [Act.put]); simp [Act.eval]; done) | ((try simp only [Act.put]); simp [Act.eval]; omega)) (SI.on HLO.out (Keep.of (below_over hwW hB92))) (by have := HLN.out; simp; omega) ?_
            intro g95 c96 Y97 f98 k99 b100 e101
            have hB102 : Below W.heap.size W Y97 := hB92.trans k99.below
            have f103 := growOff f88 b100 n94
            have n104 : g85 ≠ g95 := ne_step n94 (grow_lt f88) e101
            refine hK.out _ _ (C0.out.on hB102) (fun hHeld => ?_)
            clear hK K
            refine wpAnyH_take (i := 10) (v := ?_) rfl (by kernel_rfl) (by kernel_rfl) (by kernel_rfl) (fun _ _ _ h => h) (Or.inl ⟨by rfl, ?_⟩) hHeld ?_
            rotate_left 1
            · intro w' hSw
              obtain ⟨s2, _⟩ := Cells.g0 hSw
              obtain ⟨s3, _⟩ := Cells.g1 hSw
              go_simp
              try with_reducible rfl
            simp only [Act.put]
            refine wpAnyH_ready (rs := [11]) (by kernel_rfl) (by simp) ?_
            refine AllReadyH.cons rfl (fun K hK => ?_) AllReadyH.nil
            obtain ⟨Y106, hY106⟩ : ∃ Y, Y = Y97.alloc (.cells #[.slice none 0 0, .slice none 0 0] 32) := ⟨_, rfl⟩
            have hB105 : Below W.heap.size W Y106 := by rw [hY106]; exact hB102.alloc hB102.size _
            have alY106 : Below Y97.heap.size Y97 Y106 := by rw [hY106]; exact allocBelow _ _
            have f107 := growOn f103 alY106
            have f108 := growOn f98 alY106
            have f109 : BoxT Y106 Y97.heap.size 32 #[.slice none 0 0, .slice none 0 0] := by rw [hY106]; exact BoxT.new _ _ _
            have w110 : W.heap.size ≤ Y97.heap.size := hB102.size
            have n111 : g85 ≠ Y97.heap.size := by have := grow_lt f103; omega
            have n112 : g95 ≠ Y97.heap.size := by have := grow_lt f98; omega
            go_simp
            rw [← hY106]
            refine hK.out _ _ (C0.out.on hB105) (fun hHeld => ?_)
            clear hK K hY106
            refine wpAnyH_ready (rs := [12]) (by kernel_rfl) (by simp) ?_
            refine AllReadyH.cons rfl (fun K hK => ?_) AllReadyH.nil
            have CX := BoxT.cells f109
            obtain ⟨a0, b0⟩ := CX.g0
            obtain ⟨a1, b1⟩ := CX.g1
            have HJ : PutOut W (st.take keep) lo (.pointer (some ⟨Y97.heap.size, 0, none⟩)) ((Y106.setCell ⟨Y97.heap.size, 0, none⟩ (.slice (some ⟨g85, 0, none⟩) keep c86)).setCell ⟨Y97.heap.size, 1, none⟩ (.slice (some ⟨g95, 0, none⟩) lo.length c96)) := by
              have h := putOut_of hB105 f107 f108 f109 n104 n111 n112 w110
              rw [HTL2.out] at h
              exact h
            have HSX : Cells ((Y106.setCell ⟨Y97.heap.size, 0, none⟩ (.slice (some ⟨g85, 0, none⟩) keep c86)).setCell ⟨Y97.heap.size, 1, none⟩ (.slice (some ⟨g95, 0, none⟩) lo.length c96)) w.heap.size [.slice zz st.length cz, .slice z2 lo.length c2] := ((C0.out.on hB105).far ⟨Y97.heap.size, 0, none⟩ _ (by have := w110; have := HZ.out; simp; omega)).far ⟨Y97.heap.size, 1, none⟩ _ (by have := w110; have := HZ.out; simp; omega)
            go_simp
            refine hK.out _ _ HSX (fun hHeld => ?_)
            clear hK K a0 a1 b0 b1 CX
            refine wpAnyH_done (by kernel_rfl) ?_ _
            go_simp
            refine hKK _ _ (Met.intro (hJ _ _ ?_))
            (repeat apply Exists.intro)
            exact ⟨HJ, rfl⟩
          · obtain ⟨Y114, hY114⟩ : ∃ Y, Y = Y87.alloc (.cells #[.slice none 0 0, .slice none 0 0] 32) := ⟨_, rfl⟩
            have hB113 : Below W.heap.size W Y114 := by rw [hY114]; exact hB92.alloc hB92.size _
            have alY114 : Below Y87.heap.size Y87 Y114 := by rw [hY114]; exact allocBelow _ _
            have f115 := growOn f88 alY114
            have f116 := growOn f93 alY114
            have f117 : BoxT Y114 Y87.heap.size 32 #[.slice none 0 0, .slice none 0 0] := by rw [hY114]; exact BoxT.new _ _ _
            have w118 : W.heap.size ≤ Y87.heap.size := hB92.size
            have n119 : g85 ≠ Y87.heap.size := by have := grow_lt f88; omega
            have n120 : Y2.heap.size ≠ Y87.heap.size := by have := grow_lt f93; omega
            go_simp
            rw [← hY114]
            refine hK.out _ _ (C0.out.on hB113) (fun hHeld => ?_)
            clear hK K hY114
            refine wpAnyH_ready (rs := [9]) (by kernel_rfl) (by simp) ?_
            refine AllReadyH.cons rfl (fun K hK => ?_) AllReadyH.nil
            refine stepGrowAt Y114 rfl (.tmp 15) (.tmp 17) rfl W.heap.size (Y2.heap.size) 0 [] (by (try simp only [Act.put]); simp [Act.eval]) f116 hB113.size z2 c2 B lo (by first | rfl | ((try simp only [Act.put]); simp [Act.eval]; done) | ((try simp only [Act.put]); simp [Act.eval]; omega)) (SI.on HLO.out (Keep.of (below_over hwW hB113))) (by have := HLN.out; simp; omega) ?_
            intro g121 cz22 Y123 f124 k125 b126 e127
            have hB128 : Below W.heap.size W Y123 := hB113.trans k125.below
            have f129 := growOff f115 b126 n94
            have n130 : g85 ≠ g121 := ne_step n94 (grow_lt f115) e127
            have f131 : BoxT Y123 Y87.heap.size 32 #[.slice none 0 0, .slice none 0 0] := (b126 _ (Ne.symm n120) f117.lt).trans f117
            have n132 : g121 ≠ Y87.heap.size := Ne.symm (ne_step (Ne.symm n120) f117.lt e127)
            refine hK.out _ _ (C0.out.on hB128) (fun hHeld => ?_)
            clear hK K
            refine wpAnyH_take (i := 10) (v := ?_) rfl (by kernel_rfl) (by kernel_rfl) (by kernel_rfl) (fun _ _ _ h => h) (Or.inl ⟨by rfl, ?_⟩) hHeld ?_
            rotate_left 1
            · intro w' hSw
              obtain ⟨s2, _⟩ := Cells.g0 hSw
              obtain ⟨s3, _⟩ := Cells.g1 hSw
              go_simp
              try with_reducible rfl
            simp only [Act.put]
            refine wpAnyH_ready (rs := [12]) (by kernel_rfl) (by simp) ?_
            refine AllReadyH.cons rfl (fun K hK => ?_) AllReadyH.nil
            have CX := BoxT.cells f131
            obtain ⟨a0, b0⟩ := CX.g0
            obtain ⟨a1, b1⟩ := CX.g1
            have HJ : PutOut W (st.take keep) lo (.pointer (some ⟨Y87.heap.size, 0, none⟩)) ((Y123.setCell ⟨Y87.heap.size, 0, none⟩ (.slice (some ⟨g85, 0, none⟩) keep c86)).setCell ⟨Y87.heap.size, 1, none⟩ (.slice (some ⟨g121, 0, none⟩) lo.length cz22)) := by
              have h := putOut_of hB128 f129 f124 f131 n130 n119 n132 w118
              rw [HTL2.out] at h
              exact h
            have HSX : Cells ((Y123.setCell ⟨Y87.heap.size, 0, none⟩ (.slice (some ⟨g85, 0, none⟩) keep c86)).setCell ⟨Y87.heap.size, 1, none⟩ (.slice (some ⟨g121, 0, none⟩) lo.length cz22)) w.heap.size [.slice zz st.length cz, .slice z2 lo.length c2] := ((C0.out.on hB128).far ⟨Y87.heap.size, 0, none⟩ _ (by have := w118; have := HZ.out; simp; omega)).far ⟨Y87.heap.size, 1, none⟩ _ (by have := w118; have := HZ.out; simp; omega)
            go_simp
            refine hK.out _ _ HSX (fun hHeld => ?_)
            clear hK K a0 a1 b0 b1 CX
            refine wpAnyH_done (by kernel_rfl) ?_ _
            go_simp
            refine hKK _ _ (Met.intro (hJ _ _ ?_))
            (repeat apply Exists.intro)
            exact ⟨HJ, rfl⟩
        · obtain ⟨Y134, hY134⟩ : ∃ Y, Y = Y81.alloc (.cells #[.slice none 0 0, .slice none 0 0] 32) := ⟨_, rfl⟩
          have hB133 : Below W.heap.size W Y134 := by rw [hY134]; exact hB80.alloc hB80.size _
          have alY134 : Below Y81.heap.size Y81 Y134 := by rw [hY134]; exact allocBelow _ _
          have f135 := growOn f82 alY134
          have f136 := growOn f83 alY134
          have f137 : BoxT Y134 Y81.heap.size 32 #[.slice none 0 0, .slice none 0 0] := by rw [hY134]; exact BoxT.new _ _ _
          have w138 : W.heap.size ≤ Y81.heap.size := hB80.size
          have n139 : X0.heap.size ≠ Y81.heap.size := by have := grow_lt f82; omega
          have n140 : Y2.heap.size ≠ Y81.heap.size := by have := grow_lt f83; omega
          go_simp
          rw [← hY134]
          refine hK.out _ _ (C0.out.on hB133) (fun hHeld => ?_)
          clear hK K hY134
          refine wpAnyH_ready (rs := [5]) (by kernel_rfl) (by simp) ?_
          refine AllReadyH.cons rfl (fun K hK => ?_) AllReadyH.nil
          refine stepGrowAt Y134 rfl (.tmp 9) (.tmp 13) rfl W.heap.size (X0.heap.size) 0 [] (by (try simp only [Act.put]); simp [Act.eval]) f135 hB133.size zz cz B (st.take keep) (by first | rfl | ((try simp only [Act.put]); simp [Act.eval]; done) | ((try simp only [Act.put]); simp [Act.eval]; omega)) (SI.on HST.out (Keep.of (below_over hwW hB133))) (by have := HLN.out; simp; omega) ?_
          intro g141 cz42 Y143 f144 k145 b146 e147
          have hB148 : Below W.heap.size W Y143 := hB133.trans k145.below
          have f149 := growOff f136 b146 (Ne.symm n84)
          have n150 : g141 ≠ Y2.heap.size := Ne.symm (ne_step (Ne.symm n84) (grow_lt f136) e147)
          have f151 : BoxT Y143 Y81.heap.size 32 #[.slice none 0 0, .slice none 0 0] := (b146 _ (Ne.symm n139) f137.lt).trans f137
          have n152 : g141 ≠ Y81.heap.size := Ne.symm (ne_step (Ne.symm n139) f137.lt e147)
          refine hK.out _ _ (C0.out.on hB148) (fun hHeld => ?_)
          clear hK K
          refine wpAnyH_ready (rs := [9]) (by kernel_rfl) (by simp) ?_
          refine AllReadyH.cons rfl (fun K hK => ?_) AllReadyH.nil
          refine stepGrowAt Y143 rfl (.tmp 15) (.tmp 17) rfl W.heap.size (Y2.heap.size) 0 [] (by (try simp only [Act.put]); simp [Act.eval]) f149 hB148.size z2 c2 B lo (by first | rfl | ((try simp only [Act.put]); simp [Act.eval]; done) | ((try simp only [Act.put]); simp [Act.eval]; omega)) (SI.on HLO.out (Keep.of (below_over hwW hB148))) (by have := HLN.out; simp; omega) ?_
          intro g153 cz54 Y155 f156 k157 b158 e159
          have hB160 : Below W.heap.size W Y155 := hB148.trans k157.below
          have f161 := growOff f144 b158 n150
          have n162 : g141 ≠ g153 := ne_step n150 (grow_lt f144) e159
          have f163 : BoxT Y155 Y81.heap.size 32 #[.slice none 0 0, .slice none 0 0] := (b158 _ (Ne.symm n140) f151.lt).trans f151
          have n164 : g153 ≠ Y81.heap.size := Ne.symm (ne_step (Ne.symm n140) f151.lt e159)
          refine hK.out _ _ (C0.out.on hB160) (fun hHeld => ?_)
          clear hK K
          refine wpAnyH_take (i := 10) (v := ?_) rfl (by kernel_rfl) (by kernel_rfl) (by kernel_rfl) (fun _ _ _ h => h) (Or.inl ⟨by rfl, ?_⟩) hHeld ?_
          rotate_left 1
          · intro w' hSw
            obtain ⟨s2, _⟩ := Cells.g0 hSw
            obtain ⟨s3, _⟩ := Cells.g1 hSw
            go_simp
            try with_reducible rfl
          simp only [Act.put]
          refine wpAnyH_ready (rs := [12]) (by kernel_rfl) (by simp) ?_
          refine AllReadyH.cons rfl (fun K hK => ?_) AllReadyH.nil
          have CX := BoxT.cells f163
          obtain ⟨a0, b0⟩ := CX.g0
          obtain ⟨a1, b1⟩ := CX.g1
          have HJ : PutOut W (st.take keep) lo (.pointer (some ⟨Y81.heap.size, 0, none⟩)) ((Y155.setCell ⟨Y81.heap.size, 0, none⟩ (.slice (some ⟨g141, 0, none⟩) keep cz42)).setCell ⟨Y81.heap.size, 1, none⟩ (.slice (some ⟨g153, 0, none⟩) lo.length cz54)) := by
            have h := putOut_of hB160 f161 f156 f163 n162 n152 n164 w138
            rw [HTL2.out] at h
            exact h
          have HSX : Cells ((Y155.setCell ⟨Y81.heap.size, 0, none⟩ (.slice (some ⟨g141, 0, none⟩) keep cz42)).setCell ⟨Y81.heap.size, 1, none⟩ (.slice (some ⟨g153, 0, none⟩) lo.length cz54)) w.heap.size [.slice zz st.length cz, .slice z2 lo.length c2] := ((C0.out.on hB160).far ⟨Y81.heap.size, 0, none⟩ _ (by have := w138; have := HZ.out; simp; omega)).far ⟨Y81.heap.size, 1, none⟩ _ (by have := w138; have := HZ.out; simp; omega)
          go_simp
          refine hK.out _ _ HSX (fun hHeld => ?_)
          clear hK K a0 a1 b0 b1 CX
          refine wpAnyH_done (by kernel_rfl) ?_ _
          go_simp
          refine hKK _ _ (Met.intro (hJ _ _ ?_))
          (repeat apply Exists.intro)
          exact ⟨HJ, rfl⟩
      · obtain ⟨Y166, hY166⟩ : ∃ Y, Y = Y2.alloc (.cells #[.slice none 0 0, .slice none 0 0] 32) := ⟨_, rfl⟩
        have hB165 : Below W.heap.size W Y166 := by rw [hY166]; exact hB1.alloc hB1.size _
        have alY166 : Below Y2.heap.size Y2 Y166 := by rw [hY166]; exact allocBelow _ _
        have f167 := growOn f3 alY166
        have f168 : BoxT Y166 Y2.heap.size 32 #[.slice none 0 0, .slice none 0 0] := by rw [hY166]; exact BoxT.new _ _ _
        have w169 : W.heap.size ≤ Y2.heap.size := hB1.size
        have n170 : X0.heap.size ≠ Y2.heap.size := by have := grow_lt f3; omega
        go_simp
        rw [← hY166]
        refine hK.out _ _ (C0.out.on hB165) (fun hHeld => ?_)
        clear hK K hY166
        refine wpAnyH_ready (rs := [5, 6]) (by kernel_rfl) (by simp) ?_
        refine AllReadyH.cons rfl (fun K hK => ?_) (AllReadyH.cons rfl (fun K hK => ?_) AllReadyH.nil)
        · refine stepGrowAt Y166 rfl (.tmp 9) (.tmp 13) rfl W.heap.size (X0.heap.size) 0 [] (by (try simp only [Act.put]); simp [Act.eval]) f167 hB165.size zz cz B (st.take keep) (by first | rfl | ((try simp only [Act.put]); simp [Act.eval]; done) | ((try simp only [Act.put]); simp [Act.eval]; omega)) (SI.on HST.out (Keep.of (below_over hwW hB165))) (by have := HLN.out; simp; omega) ?_
          intro g171 cz72 Y173 f174 k175 b176 e177
          have hB178 : Below W.heap.size W Y173 := hB165.trans k175.below
          have f179 : BoxT Y173 Y2.heap.size 32 #[.slice none 0 0, .slice none 0 0] := (b176 _ (Ne.symm n170) f168.lt).trans f168
          have n180 : g171 ≠ Y2.heap.size := Ne.symm (ne_step (Ne.symm n170) f168.lt e177)
          refine hK.out _ _ (C0.out.on hB178) (fun hHeld => ?_)
          clear hK K
          refine wpAnyH_ready (rs := [6]) (by kernel_rfl) (by simp) ?_
          refine AllReadyH.cons rfl (fun K hK => ?_) AllReadyH.nil
          obtain ⟨Y182, hY182⟩ : ∃ Y, Y = Y173.alloc (.cells #[] 2) := ⟨_, rfl⟩
          have hB181 : Below W.heap.size W Y182 := by rw [hY182]; exact hB178.alloc hB178.size _
          have alY182 : Below Y173.heap.size Y173 Y182 := by rw [hY182]; exact allocBelow _ _
          have f183 := growOn f174 alY182
          have f184 := BoxT.on f179 alY182
          have f185 : Grow W.heap.size Y182 (.slice (some ⟨Y173.heap.size, 0, none⟩) ([] : List Int).length 0) [] := by rw [hY182]; exact grow_empty Y173 hB178.size
          have n186 : g171 ≠ Y173.heap.size := by have := grow_lt f174; omega
          have n187 : Y173.heap.size ≠ Y2.heap.size := by have := f179.lt; omega
          go_simp
          rw [← hY182]
          refine hK.out _ _ (C0.out.on hB181) (fun hHeld => ?_)
          clear hK K hY182
          refine wpAnyH_ready (rs := [9]) (by kernel_rfl) (by simp) ?_
          refine AllReadyH.cons rfl (fun K hK => ?_) AllReadyH.nil
          refine stepGrowAt Y182 rfl (.tmp 15) (.tmp 17) rfl W.heap.size (Y173.heap.size) 0 [] (by (try simp only [Act.put]); simp [Act.eval]) f185 hB181.size z2 c2 B lo (by first | rfl | ((try simp only [Act.put]); simp [Act.eval]; done) | ((try simp only [Act.put]); simp [Act.eval]; omega)) (SI.on HLO.out (Keep.of (below_over hwW hB181))) (by have := HLN.out; simp; omega) ?_
          intro g188 cz89 Y190 f191 k192 b193 e194
          have hB195 : Below W.heap.size W Y190 := hB181.trans k192.below
          have f196 := growOff f183 b193 n186
          have n197 : g171 ≠ g188 := ne_step n186 (grow_lt f183) e194
          have f198 : BoxT Y190 Y2.heap.size 32 #[.slice none 0 0, .slice none 0 0] := (b193 _ (Ne.symm n187) f184.lt).trans f184
          have n199 : g188 ≠ Y2.heap.size := Ne.symm (ne_step (Ne.symm n187) f184.lt e194)
          refine hK.out _ _ (C0.out.on hB195) (fun hHeld => ?_)
          clear hK K
          refine wpAnyH_take (i := 10) (v := ?_) rfl (by kernel_rfl) (by kernel_rfl) (by kernel_rfl) (fun _ _ _ h => h) (Or.inl ⟨by rfl, ?_⟩) hHeld ?_
          rotate_left 1
          · intro w' hSw
            obtain ⟨s2, _⟩ := Cells.g0 hSw
            obtain ⟨s3, _⟩ := Cells.g1 hSw
            go_simp
            try with_reducible rfl
          simp only [Act.put]
          refine wpAnyH_ready (rs := [12]) (by kernel_rfl) (by simp) ?_
          refine AllReadyH.cons rfl (fun K hK => ?_) AllReadyH.nil
          have CX := BoxT.cells f198
          obtain ⟨a0, b0⟩ := CX.g0
          obtain ⟨a1, b1⟩ := CX.g1
          have HJ : PutOut W (st.take keep) lo (.pointer (some ⟨Y2.heap.size, 0, none⟩)) ((Y190.setCell ⟨Y2.heap.size, 0, none⟩ (.slice (some ⟨g171, 0, none⟩) keep cz72)).setCell ⟨Y2.heap.size, 1, none⟩ (.slice (some ⟨g188, 0, none⟩) lo.length cz89)) := by
            have h := putOut_of hB195 f196 f191 f198 n197 n180 n199 w169
            rw [HTL2.out] at h
            exact h
          have HSX : Cells ((Y190.setCell ⟨Y2.heap.size, 0, none⟩ (.slice (some ⟨g171, 0, none⟩) keep cz72)).setCell ⟨Y2.heap.size, 1, none⟩ (.slice (some ⟨g188, 0, none⟩) lo.length cz89)) w.heap.size [.slice zz st.length cz, .slice z2 lo.length c2] := ((C0.out.on hB195).far ⟨Y2.heap.size, 0, none⟩ _ (by have := w169; have := HZ.out; simp; omega)).far ⟨Y2.heap.size, 1, none⟩ _ (by have := w169; have := HZ.out; simp; omega)
          go_simp
          refine hK.out _ _ HSX (fun hHeld => ?_)
          clear hK K a0 a1 b0 b1 CX
          refine wpAnyH_done (by kernel_rfl) ?_ _
          go_simp
          refine hKK _ _ (Met.intro (hJ _ _ ?_))
          (repeat apply Exists.intro)
          exact ⟨HJ, rfl⟩
        · obtain ⟨Y201, hY201⟩ : ∃ Y, Y = Y166.alloc (.cells #[] 2) := ⟨_, rfl⟩
          have hB200 : Below W.heap.size W Y201 := by rw [hY201]; exact hB165.alloc hB165.size _
          have alY201 : Below Y166.heap.size Y166 Y201 := by rw [hY201]; exact allocBelow _ _
          have f202 := growOn f167 alY201
          have f203 := BoxT.on f168 alY201
          have f204 : Grow W.heap.size Y201 (.slice (some ⟨Y166.heap.size, 0, none⟩) ([] : List Int).length 0) [] := by rw [hY201]; exact grow_empty Y166 hB165.size
          have n205 : X0.heap.size ≠ Y166.heap.size := by have := grow_lt f167; omega
          have n206 : Y166.heap.size ≠ Y2.heap.size := by have := f168.lt; omega
          go_simp
          rw [← hY201]
          refine hK.out _ _ (C0.out.on hB200) (fun hHeld => ?_)
          clear hK K hY201
          refine wpAnyH_ready (rs := [5]) (by kernel_rfl) (by simp) ?_
          refine AllReadyH.cons rfl (fun K hK => ?_) AllReadyH.nil
          refine stepGrowAt Y201 rfl (.tmp 9) (.tmp 13) rfl W.heap.size (X0.heap.size) 0 [] (by (try simp only [Act.put]); simp [Act.eval]) f202 hB200.size zz cz B (st.take keep) (by first | rfl | ((try simp only [Act.put]); simp [Act.eval]; done) | ((try simp only [Act.put]); simp [Act.eval]; omega)) (SI.on HST.out (Keep.of (below_over hwW hB200))) (by have := HLN.out; simp; omega) ?_
          intro g207 c208 Y209 f210 k211 b212 e213
          have hB214 : Below W.heap.size W Y209 := hB200.trans k211.below
          have f215 := growOff f204 b212 (Ne.symm n205)
          have n216 : g207 ≠ Y166.heap.size := Ne.symm (ne_step (Ne.symm n205) (grow_lt f204) e213)
          have f217 : BoxT Y209 Y2.heap.size 32 #[.slice none 0 0, .slice none 0 0] := (b212 _ (Ne.symm n170) f203.lt).trans f203
          have n218 : g207 ≠ Y2.heap.size := Ne.symm (ne_step (Ne.symm n170) f203.lt e213)
          refine hK.out _ _ (C0.out.on hB214) (fun hHeld => ?_)
          clear hK K
          refine wpAnyH_ready (rs := [9]) (by kernel_rfl) (by simp) ?_
          refine AllReadyH.cons rfl (fun K hK => ?_) AllReadyH.nil
          refine stepGrowAt Y209 rfl (.tmp 15) (.tmp 17) rfl W.heap.size (Y166.heap.size) 0 [] (by (try simp only [Act.put]); simp [Act.eval]) f215 hB214.size z2 c2 B lo (by first | rfl | ((try simp only [Act.put]); simp [Act.eval]; done) | ((try simp only [Act.put]); simp [Act.eval]; omega)) (SI.on HLO.out (Keep.of (below_over hwW hB214))) (by have := HLN.out; simp; omega) ?_
          intro g219 c220 Y221 f222 k223 b224 e225
          have hB226 : Below W.heap.size W Y221 := hB214.trans k223.below
          have f227 := growOff f210 b224 n216
          have n228 : g207 ≠ g219 := ne_step n216 (grow_lt f210) e225
          have f229 : BoxT Y221 Y2.heap.size 32 #[.slice none 0 0, .slice none 0 0] := (b224 _ (Ne.symm n206) f217.lt).trans f217
          have n230 : g219 ≠ Y2.heap.size := Ne.symm (ne_step (Ne.symm n206) f217.lt e225)
          refine hK.out _ _ (C0.out.on hB226) (fun hHeld => ?_)
          clear hK K
          refine wpAnyH_take (i := 10) (v := ?_) rfl (by kernel_rfl) (by kernel_rfl) (by kernel_rfl) (fun _ _ _ h => h) (Or.inl ⟨by rfl, ?_⟩) hHeld ?_
          rotate_left 1
          · intro w' hSw
            obtain ⟨s2, _⟩ := Cells.g0 hSw
            obtain ⟨s3, _⟩ := Cells.g1 hSw
            go_simp
            try with_reducible rfl
          simp only [Act.put]
          refine wpAnyH_ready (rs := [12]) (by kernel_rfl) (by simp) ?_
          refine AllReadyH.cons rfl (fun K hK => ?_) AllReadyH.nil
          have CX := BoxT.cells f229
          obtain ⟨a0, b0⟩ := CX.g0
          obtain ⟨a1, b1⟩ := CX.g1
          have HJ : PutOut W (st.take keep) lo (.pointer (some ⟨Y2.heap.size, 0, none⟩)) ((Y221.setCell ⟨Y2.heap.size, 0, none⟩ (.slice (some ⟨g207, 0, none⟩) keep c208)).setCell ⟨Y2.heap.size, 1, none⟩ (.slice (some ⟨g219, 0, none⟩) lo.length c220)) := by
            have h := putOut_of hB226 f227 f222 f229 n228 n218 n230 w169
            rw [HTL2.out] at h
            exact h
          have HSX : Cells ((Y221.setCell ⟨Y2.heap.size, 0, none⟩ (.slice (some ⟨g207, 0, none⟩) keep c208)).setCell ⟨Y2.heap.size, 1, none⟩ (.slice (some ⟨g219, 0, none⟩) lo.length c220)) w.heap.size [.slice zz st.length cz, .slice z2 lo.length c2] := ((C0.out.on hB226).far ⟨Y2.heap.size, 0, none⟩ _ (by have := w169; have := HZ.out; simp; omega)).far ⟨Y2.heap.size, 1, none⟩ _ (by have := w169; have := HZ.out; simp; omega)
          go_simp
          refine hK.out _ _ HSX (fun hHeld => ?_)
          clear hK K a0 a1 b0 b1 CX
          refine wpAnyH_done (by kernel_rfl) ?_ _
          go_simp
          refine hKK _ _ (Met.intro (hJ _ _ ?_))
          (repeat apply Exists.intro)
          exact ⟨HJ, rfl⟩
    · obtain ⟨Y232, hY232⟩ : ∃ Y, Y = X0.alloc (.cells #[] 2) := ⟨_, rfl⟩
      have hB231 : Below W.heap.size W Y232 := by rw [hY232]; exact hW0.alloc hW0.size _
      have alY232 : Below X0.heap.size X0 Y232 := by rw [hY232]; exact allocBelow _ _
      have f233 : Grow W.heap.size Y232 (.slice (some ⟨X0.heap.size, 0, none⟩) ([] : List Int).length 0) [] := by rw [hY232]; exact grow_empty X0 hW0.size
      go_simp
      rw [← hY232]
      refine hK.out _ _ (C0.out.on hB231) (fun hHeld => ?_)
      clear hK K hY232
      refine wpAnyH_ready (rs := [0, 11]) (by kernel_rfl) (by simp) ?_
      refine AllReadyH.cons rfl (fun K hK => ?_) (AllReadyH.cons rfl (fun K hK => ?_) AllReadyH.nil)
      · obtain ⟨Y235, hY235⟩ : ∃ Y, Y = Y232.alloc (.cells #[] 2) := ⟨_, rfl⟩
        have hB234 : Below W.heap.size W Y235 := by rw [hY235]; exact hB231.alloc hB231.size _
        have alY235 : Below Y232.heap.size Y232 Y235 := by rw [hY235]; exact allocBelow _ _
        have f236 := growOn f233 alY235
        have f237 : Grow W.heap.size Y235 (.slice (some ⟨Y232.heap.size, 0, none⟩) ([] : List Int).length 0) [] := by rw [hY235]; exact grow_empty Y232 hB231.size
        have n238 : Y232.heap.size ≠ X0.heap.size := by have := grow_lt f233; omega
        go_simp
        rw [← hY235]
        refine hK.out _ _ (C0.out.on hB234) (fun hHeld => ?_)
        clear hK K hY235
        refine wpAnyH_ready (rs := [5, 11]) (by kernel_rfl) (by simp) ?_
        refine AllReadyH.cons rfl (fun K hK => ?_) (AllReadyH.cons rfl (fun K hK => ?_) AllReadyH.nil)
        · refine stepGrowAt Y235 rfl (.tmp 9) (.tmp 13) rfl W.heap.size (Y232.heap.size) 0 [] (by (try simp only [Act.put]); simp [Act.eval]) f237 hB234.size zz cz B (st.take keep) (by first | rfl | ((try simp only [Act.put]); simp [Act.eval]; done) | ((try simp only [Act.put]); simp [Act.eval]; omega)) (SI.on HST.out (Keep.of (below_over hwW hB234))) (by have := HLN.out; simp; omega) ?_
          intro g239 c240 Y241 f242 k243 b244 e245
          have hB246 : Below W.heap.size W Y241 := hB234.trans k243.below
          have f247 := growOff f236 b244 (Ne.symm n238)
          have n248 : g239 ≠ X0.heap.size := Ne.symm (ne_step (Ne.symm n238) (grow_lt f236) e245)
          refine hK.out _ _ (C0.out.on hB246) (fun hHeld => ?_)
          clear hK K
          refine wpAnyH_ready (rs := [9, 11]) (by kernel_rfl) (by simp) ?_
          refine AllReadyH.cons rfl (fun K hK => ?_) (AllReadyH.cons rfl (fun K hK => ?_) AllReadyH.nil)
          · refine stepGrowAt Y241 rfl (.tmp 15) (.tmp 17) rfl W.heap.size (X0.heap.size) 0 [] (by (try simp only [Act.put]); simp [Act.eval]) f247 hB246.size z2 c2 B lo (by first | rfl | ((try simp only [Act.put]); simp [Act.eval]; done) | ((try simp only [Act.put]); simp [Act.eval]; omega)) (SI.on HLO.out (Keep.of (below_over hwW hB246))) (by have := HLN.out; simp; omega) ?_
            intro g249 c250 Y251 f252 k253 b254 e255
            have hB256 : Below W.heap.size W Y251 := hB246.trans k253.below
            have f257 := growOff f242 b254 n248
            have n258 : g239 ≠ g249 := ne_step n248 (grow_lt f242) e255
            refine hK.out _ _ (C0.out.on hB256) (fun hHeld => ?_)
            clear hK K
            refine wpAnyH_take (i := 10) (v := ?_) rfl (by kernel_rfl) (by kernel_rfl) (by kernel_rfl) (fun _ _ _ h => h) (Or.inl ⟨by rfl, ?_⟩) hHeld ?_
            rotate_left 1
            · intro w' hSw
              obtain ⟨s2, _⟩ := Cells.g0 hSw
              obtain ⟨s3, _⟩ := Cells.g1 hSw
              go_simp
              try with_reducible rfl
            simp only [Act.put]
            refine wpAnyH_ready (rs := [11]) (by kernel_rfl) (by simp) ?_
            refine AllReadyH.cons rfl (fun K hK => ?_) AllReadyH.nil
            obtain ⟨Y260, hY260⟩ : ∃ Y, Y = Y251.alloc (.cells #[.slice none 0 0, .slice none 0 0] 32) := ⟨_, rfl⟩
            have hB259 : Below W.heap.size W Y260 := by rw [hY260]; exact hB256.alloc hB256.size _
            have alY260 : Below Y251.heap.size Y251 Y260 := by rw [hY260]; exact allocBelow _ _
            have f261 := growOn f257 alY260
            have f262 := growOn f252 alY260
            have f263 : BoxT Y260 Y251.heap.size 32 #[.slice none 0 0, .slice none 0 0] := by rw [hY260]; exact BoxT.new _ _ _
            have w264 : W.heap.size ≤ Y251.heap.size := hB256.size
            have n265 : g239 ≠ Y251.heap.size := by have := grow_lt f257; omega
            have n266 : g249 ≠ Y251.heap.size := by have := grow_lt f252; omega
            go_simp
            rw [← hY260]
            refine hK.out _ _ (C0.out.on hB259) (fun hHeld => ?_)
            clear hK K hY260
            refine wpAnyH_ready (rs := [12]) (by kernel_rfl) (by simp) ?_
            refine AllReadyH.cons rfl (fun K hK => ?_) AllReadyH.nil
            have CX := BoxT.cells f263
            obtain ⟨a0, b0⟩ := CX.g0
            obtain ⟨a1, b1⟩ := CX.g1
            have HJ : PutOut W (st.take keep) lo (.pointer (some ⟨Y251.heap.size, 0, none⟩)) ((Y260.setCell ⟨Y251.heap.size, 0, none⟩ (.slice (some ⟨g239, 0, none⟩) keep c240)).setCell ⟨Y251.heap.size, 1, none⟩ (.slice (some ⟨g249, 0, none⟩) lo.length c250)) := by
              have h := putOut_of hB259 f261 f262 f263 n258 n265 n266 w264
              rw [HTL2.out] at h
              exact h
            have HSX : Cells ((Y260.setCell ⟨Y251.heap.size, 0, none⟩ (.slice (some ⟨g239, 0, none⟩) keep c240)).setCell ⟨Y251.heap.size, 1, none⟩ (.slice (some ⟨g249, 0, none⟩) lo.length c250)) w.heap.size [.slice zz st.length cz, .slice z2 lo.length c2] := ((C0.out.on hB259).far ⟨Y251.heap.size, 0, none⟩ _ (by have := w264; have := HZ.out; simp; omega)).far ⟨Y251.heap.size, 1, none⟩ _ (by have := w264; have := HZ.out; simp; omega)
            go_simp
            refine hK.out _ _ HSX (fun hHeld => ?_)
            clear hK K a0 a1 b0 b1 CX
            refine wpAnyH_done (by kernel_rfl) ?_ _
            go_simp
            refine hKK _ _ (Met.intro (hJ _ _ ?_))
            (repeat apply Exists.intro)
            exact ⟨HJ, rfl⟩
          · obtain ⟨Y268, hY268⟩ : ∃ Y, Y = Y241.alloc (.cells #[.slice none 0 0, .slice none 0 0] 32) := ⟨_, rfl⟩
            have hB267 : Below W.heap.size W Y268 := by rw [hY268]; exact hB246.alloc hB246.size _
            have alY268 : Below Y241.heap.size Y241 Y268 := by rw [hY268]; exact allocBelow _ _
            have f269 := growOn f242 alY268
            have f270 := growOn f247 alY268
            have f271 : BoxT Y268 Y241.heap.size 32 #[.slice none 0 0, .slice none 0 0] := by rw [hY268]; exact BoxT.new _ _ _
            have w272 : W.heap.size ≤ Y241.heap.size := hB246.size
            have n273 : g239 ≠ Y241.heap.size := by have := grow_lt f242; omega
            have n274 : X0.heap.size ≠ Y241.heap.size := by have := grow_lt f247; omega
            go_simp
            rw [← hY268]
            refine hK.out _ _ (C0.out.on hB267) (fun hHeld => ?_)
            clear hK K hY268
            refine wpAnyH_ready (rs := [9]) (by kernel_rfl) (by simp) ?_
            refine AllReadyH.cons rfl (fun K hK => ?_) AllReadyH.nil
            refine stepGrowAt Y268 rfl (.tmp 15) (.tmp 17) rfl W.heap.size (X0.heap.size) 0 [] (by (try simp only [Act.put]); simp [Act.eval]) f270 hB267.size z2 c2 B lo (by first | rfl | ((try simp only [Act.put]); simp [Act.eval]; done) | ((try simp only [Act.put]); simp [Act.eval]; omega)) (SI.on HLO.out (Keep.of (below_over hwW hB267))) (by have := HLN.out; simp; omega) ?_
            intro g275 c276 Y277 f278 k279 b280 e281
            have hB282 : Below W.heap.size W Y277 := hB267.trans k279.below
            have f283 := growOff f269 b280 n248
            have n284 : g239 ≠ g275 := ne_step n248 (grow_lt f269) e281
            have f285 : BoxT Y277 Y241.heap.size 32 #[.slice none 0 0, .slice none 0 0] := (b280 _ (Ne.symm n274) f271.lt).trans f271
            have n286 : g275 ≠ Y241.heap.size := Ne.symm (ne_step (Ne.symm n274) f271.lt e281)
            refine hK.out _ _ (C0.out.on hB282) (fun hHeld => ?_)
            clear hK K
            refine wpAnyH_take (i := 10) (v := ?_) rfl (by kernel_rfl) (by kernel_rfl) (by kernel_rfl) (fun _ _ _ h => h) (Or.inl ⟨by rfl, ?_⟩) hHeld ?_
            rotate_left 1
            · intro w' hSw
              obtain ⟨s2, _⟩ := Cells.g0 hSw
              obtain ⟨s3, _⟩ := Cells.g1 hSw
              go_simp
              try with_reducible rfl
            simp only [Act.put]
            refine wpAnyH_ready (rs := [12]) (by kernel_rfl) (by simp) ?_
            refine AllReadyH.cons rfl (fun K hK => ?_) AllReadyH.nil
            have CX := BoxT.cells f285
            obtain ⟨a0, b0⟩ := CX.g0
            obtain ⟨a1, b1⟩ := CX.g1
            have HJ : PutOut W (st.take keep) lo (.pointer (some ⟨Y241.heap.size, 0, none⟩)) ((Y277.setCell ⟨Y241.heap.size, 0, none⟩ (.slice (some ⟨g239, 0, none⟩) keep c240)).setCell ⟨Y241.heap.size, 1, none⟩ (.slice (some ⟨g275, 0, none⟩) lo.length c276)) := by
              have h := putOut_of hB282 f283 f278 f285 n284 n273 n286 w272
              rw [HTL2.out] at h
              exact h
            have HSX : Cells ((Y277.setCell ⟨Y241.heap.size, 0, none⟩ (.slice (some ⟨g239, 0, none⟩) keep c240)).setCell ⟨Y241.heap.size, 1, none⟩ (.slice (some ⟨g275, 0, none⟩) lo.length c276)) w.heap.size [.slice zz st.length cz, .slice z2 lo.length c2] := ((C0.out.on hB282).far ⟨Y241.heap.size, 0, none⟩ _ (by have := w272; have := HZ.out; simp; omega)).far ⟨Y241.heap.size, 1, none⟩ _ (by have := w272; have := HZ.out; simp; omega)
            go_simp
            refine hK.out _ _ HSX (fun hHeld => ?_)
            clear hK K a0 a1 b0 b1 CX
            refine wpAnyH_done (by kernel_rfl) ?_ _
            go_simp
            refine hKK _ _ (Met.intro (hJ _ _ ?_))
            (repeat apply Exists.intro)
            exact ⟨HJ, rfl⟩
        · obtain ⟨Y288, hY288⟩ : ∃ Y, Y = Y235.alloc (.cells #[.slice none 0 0, .slice none 0 0] 32) := ⟨_, rfl⟩
          have hB287 : Below W.heap.size W Y288 := by rw [hY288]; exact hB234.alloc hB234.size _
          have alY288 : Below Y235.heap.size Y235 Y288 := by rw [hY288]; exact allocBelow _ _
          have f289 := growOn f237 alY288
          have f290 := growOn f236 alY288
          have f291 : BoxT Y288 Y235.heap.size 32 #[.slice none 0 0, .slice none 0 0] := by rw [hY288]; exact BoxT.new _ _ _
          have w292 : W.heap.size ≤ Y235.heap.size := hB234.size
          have n293 : Y232.heap.size ≠ Y235.heap.size := by have := grow_lt f237; omega
          have n294 : X0.heap.size ≠ Y235.heap.size := by have := grow_lt f236; omega
          go_simp
          rw [← hY288]
          refine hK.out _ _ (C0.out.on hB287) (fun hHeld => ?_)
          clear hK K hY288
          refine wpAnyH_ready (rs := [5]) (by kernel_rfl) (by simp) ?_
          refine AllReadyH.cons rfl (fun K hK => ?_) AllReadyH.nil
          refine stepGrowAt Y288 rfl (.tmp 9) (.tmp 13) rfl W.heap.size (Y232.heap.size) 0 [] (by (try simp only [Act.put]); simp [Act.eval]) f289 hB287.size zz cz B (st.take keep) (by first | rfl | ((try simp only [Act.put]); simp [Act.eval]; done) | ((try simp only [Act.put]); simp [Act.eval]; omega)) (SI.on HST.out (Keep.of (below_over hwW hB287))) (by have := HLN.out; simp; omega) ?_
          intro g295 c296 Y297 f298 k299 b300 e301
          have hB302 : Below W.heap.size W Y297 := hB287.trans k299.below
          have f303 := growOff f290 b300 (Ne.symm n238)
          have n304 : g295 ≠ X0.heap.size := Ne.symm (ne_step (Ne.symm n238) (grow_lt f290) e301)
          have f305 : BoxT Y297 Y235.heap.size 32 #[.slice none 0 0, .slice none 0 0] := (b300 _ (Ne.symm n293) f291.lt).trans f291
          have n306 : g295 ≠ Y235.heap.size := Ne.symm (ne_step (Ne.symm n293) f291.lt e301)
          refine hK.out _ _ (C0.out.on hB302) (fun hHeld => ?_)
          clear hK K
          refine wpAnyH_ready (rs := [9]) (by kernel_rfl) (by simp) ?_
          refine AllReadyH.cons rfl (fun K hK => ?_) AllReadyH.nil
          refine stepGrowAt Y297 rfl (.tmp 15) (.tmp 17) rfl W.heap.size (X0.heap.size) 0 [] (by (try simp only [Act.put]); simp [Act.eval]) f303 hB302.size z2 c2 B lo (by first | rfl | ((try simp only [Act.put]); simp [Act.eval]; done) | ((try simp only [Act.put]); simp [Act.eval]; omega)) (SI.on HLO.out (Keep.of (below_over hwW hB302))) (by have := HLN.out; simp; omega) ?_
          intro g307 c308 Y309 f310 k311 b312 e313
          have hB314 : Below W.heap.size W Y309 := hB302.trans k311.below
          have f315 := growOff f298 b312 n304
          have n316 : g295 ≠ g307 := ne_step n304 (grow_lt f298) e313
          have f317 : BoxT Y309 Y235.heap.size 32 #[.slice none 0 0, .slice none 0 0] := (b312 _ (Ne.symm n294) f305.lt).trans f305
          have n318 : g307 ≠ Y235.heap.size := Ne.symm (ne_step (Ne.symm n294) f305.lt e313)
          refine hK.out _ _ (C0.out.on hB314) (fun hHeld => ?_)
          clear hK K
          refine wpAnyH_take (i := 10) (v := ?_) rfl (by kernel_rfl) (by kernel_rfl) (by kernel_rfl) (fun _ _ _ h => h) (Or.inl ⟨by rfl, ?_⟩) hHeld ?_
          rotate_left 1
          · intro w' hSw
            obtain ⟨s2, _⟩ := Cells.g0 hSw
            obtain ⟨s3, _⟩ := Cells.g1 hSw
            go_simp
            try with_reducible rfl
          simp only [Act.put]
          refine wpAnyH_ready (rs := [12]) (by kernel_rfl) (by simp) ?_
          refine AllReadyH.cons rfl (fun K hK => ?_) AllReadyH.nil
          have CX := BoxT.cells f317
          obtain ⟨a0, b0⟩ := CX.g0
          obtain ⟨a1, b1⟩ := CX.g1
          have HJ : PutOut W (st.take keep) lo (.pointer (some ⟨Y235.heap.size, 0, none⟩)) ((Y309.setCell ⟨Y235.heap.size, 0, none⟩ (.slice (some ⟨g295, 0, none⟩) keep c296)).setCell ⟨Y235.heap.size, 1, none⟩ (.slice (some ⟨g307, 0, none⟩) lo.length c308)) := by
            have h := putOut_of hB314 f315 f310 f317 n316 n306 n318 w292
            rw [HTL2.out] at h
            exact h
          have HSX : Cells ((Y309.setCell ⟨Y235.heap.size, 0, none⟩ (.slice (some ⟨g295, 0, none⟩) keep c296)).setCell ⟨Y235.heap.size, 1, none⟩ (.slice (some ⟨g307, 0, none⟩) lo.length c308)) w.heap.size [.slice zz st.length cz, .slice z2 lo.length c2] := ((C0.out.on hB314).far ⟨Y235.heap.size, 0, none⟩ _ (by have := w292; have := HZ.out; simp; omega)).far ⟨Y235.heap.size, 1, none⟩ _ (by have := w292; have := HZ.out; simp; omega)
          go_simp
          refine hK.out _ _ HSX (fun hHeld => ?_)
          clear hK K a0 a1 b0 b1 CX
          refine wpAnyH_done (by kernel_rfl) ?_ _
          go_simp
          refine hKK _ _ (Met.intro (hJ _ _ ?_))
          (repeat apply Exists.intro)
          exact ⟨HJ, rfl⟩
      · obtain ⟨Y320, hY320⟩ : ∃ Y, Y = Y232.alloc (.cells #[.slice none 0 0, .slice none 0 0] 32) := ⟨_, rfl⟩
        have hB319 : Below W.heap.size W Y320 := by rw [hY320]; exact hB231.alloc hB231.size _
        have alY320 : Below Y232.heap.size Y232 Y320 := by rw [hY320]; exact allocBelow _ _
        have f321 := growOn f233 alY320
        have f322 : BoxT Y320 Y232.heap.size 32 #[.slice none 0 0, .slice none 0 0] := by rw [hY320]; exact BoxT.new _ _ _
        have w323 : W.heap.size ≤ Y232.heap.size := hB231.size
        have n324 : X0.heap.size ≠ Y232.heap.size := by have := grow_lt f233; omega
        go_simp
        rw [← hY320]
        refine hK.out _ _ (C0.out.on hB319) (fun hHeld => ?_)
        clear hK K hY320
        refine wpAnyH_ready (rs := [0]) (by kernel_rfl) (by simp) ?_
        refine AllReadyH.cons rfl (fun K hK => ?_) AllReadyH.nil
        obtain ⟨Y326, hY326⟩ : ∃ Y, Y = Y320.alloc (.cells #[] 2) := ⟨_, rfl⟩
        have hB325 : Below W.heap.size W Y326 := by rw [hY326]; exact hB319.alloc hB319.size _
        have alY326 : Below Y320.heap.size Y320 Y326 := by rw [hY326]; exact allocBelow _ _
        have f327 := growOn f321 alY326
        have f328 := BoxT.on f322 alY326
        have f329 : Grow W.heap.size Y326 (.slice (some ⟨Y320.heap.size, 0, none⟩) ([] : List Int).length 0) [] := by rw [hY326]; exact grow_empty Y320 hB319.size
        have n330 : Y320.heap.size ≠ X0.heap.size := by have := grow_lt f321; omega
        have n331 : Y320.heap.size ≠ Y232.heap.size := by have := f322.lt; omega
        go_simp
        rw [← hY326]
        refine hK.out _ _ (C0.out.on hB325) (fun hHeld => ?_)
        clear hK K hY326
        refine wpAnyH_ready (rs := [5]) (by kernel_rfl) (by simp) ?_
        refine AllReadyH.cons rfl (fun K hK => ?_) AllReadyH.nil
        refine stepGrowAt Y326 rfl (.tmp 9) (.tmp 13) rfl W.heap.size (Y320.heap.size) 0 [] (by (try simp only [Act.put]); simp [Act.eval]) f329 hB325.size zz cz B (st.take keep) (by first | rfl | ((try simp only [Act.put]); simp [Act.eval]; done) | ((try simp only [Act.put]); simp [Act.eval]; omega)) (SI.on HST.out (Keep.of (below_over hwW hB325))) (by have := HLN.out; simp; omega) ?_
        intro g332 c333 Y334 f335 k336 b337 e338
        have hB339 : Below W.heap.size W Y334 := hB325.trans k336.below
        have f340 := growOff f327 b337 (Ne.symm n330)
        have n341 : g332 ≠ X0.heap.size := Ne.symm (ne_step (Ne.symm n330) (grow_lt f327) e338)
        have f342 : BoxT Y334 Y232.heap.size 32 #[.slice none 0 0, .slice none 0 0] := (b337 _ (Ne.symm n331) f328.lt).trans f328
        have n343 : g332 ≠ Y232.heap.size := Ne.symm (ne_step (Ne.symm n331) f328.lt e338)
        refine hK.out _ _ (C0.out.on hB339) (fun hHeld => ?_)
        clear hK K
        refine wpAnyH_ready (rs := [9]) (by kernel_rfl) (by simp) ?_
        refine AllReadyH.cons rfl (fun K hK => ?_) AllReadyH.nil
        refine stepGrowAt Y334 rfl (.tmp 15) (.tmp 17) rfl W.heap.size (X0.heap.size) 0 [] (by (try simp only [Act.put]); simp [Act.eval]) f340 hB339.size z2 c2 B lo (by first | rfl | ((try simp only [Act.put]); simp [Act.eval]; done) | ((try simp only [Act.put]); simp [Act.eval]; omega)) (SI.on HLO.out (Keep.of (below_over hwW hB339))) (by have := HLN.out; simp; omega) ?_
        intro g344 c345 Y346 f347 k348 b349 e350
        have hB351 : Below W.heap.size W Y346 := hB339.trans k348.below
        have f352 := growOff f335 b349 n341
        have n353 : g332 ≠ g344 := ne_step n341 (grow_lt f335) e350
        have f354 : BoxT Y346 Y232.heap.size 32 #[.slice none 0 0, .slice none 0 0] := (b349 _ (Ne.symm n324) f342.lt).trans f342
        have n355 : g344 ≠ Y232.heap.size := Ne.symm (ne_step (Ne.symm n324) f342.lt e350)
        refine hK.out _ _ (C0.out.on hB351) (fun hHeld => ?_)
        clear hK K
        refine wpAnyH_take (i := 10) (v := ?_) rfl (by kernel_rfl) (by kernel_rfl) (by kernel_rfl) (fun _ _ _ h => h) (Or.inl ⟨by rfl, ?_⟩) hHeld ?_
        rotate_left 1
        · intro w' hSw
          obtain ⟨s2, _⟩ := Cells.g0 hSw
          obtain ⟨s3, _⟩ := Cells.g1 hSw
          go_simp
          try with_reducible rfl
        simp only [Act.put]
        refine wpAnyH_ready (rs := [12]) (by kernel_rfl) (by simp) ?_
        refine AllReadyH.cons rfl (fun K hK => ?_) AllReadyH.nil
        have CX := BoxT.cells f354
        obtain ⟨a0, b0⟩ := CX.g0
        obtain ⟨a1, b1⟩ := CX.g1
        have HJ : PutOut W (st.take keep) lo (.pointer (some ⟨Y232.heap.size, 0, none⟩)) ((Y346.setCell ⟨Y232.heap.size, 0, none⟩ (.slice (some ⟨g332, 0, none⟩) keep c333)).setCell ⟨Y232.heap.size, 1, none⟩ (.slice (some ⟨g344, 0, none⟩) lo.length c345)) := by
          have h := putOut_of hB351 f352 f347 f354 n353 n343 n355 w323
          rw [HTL2.out] at h
          exact h
        have HSX : Cells ((Y346.setCell ⟨Y232.heap.size, 0, none⟩ (.slice (some ⟨g332, 0, none⟩) keep c333)).setCell ⟨Y232.heap.size, 1, none⟩ (.slice (some ⟨g344, 0, none⟩) lo.length c345)) w.heap.size [.slice zz st.length cz, .slice z2 lo.length c2] := ((C0.out.on hB351).far ⟨Y232.heap.size, 0, none⟩ _ (by have := w323; have := HZ.out; simp; omega)).far ⟨Y232.heap.size, 1, none⟩ _ (by have := w323; have := HZ.out; simp; omega)
        go_simp
        refine hK.out _ _ HSX (fun hHeld => ?_)
        clear hK K a0 a1 b0 b1 CX
        refine wpAnyH_done (by kernel_rfl) ?_ _
        go_simp
        refine hKK _ _ (Met.intro (hJ _ _ ?_))
        (repeat apply Exists.intro)
        exact ⟨HJ, rfl⟩
    · obtain ⟨Y357, hY357⟩ : ∃ Y, Y = X0.alloc (.cells #[.slice none 0 0, .slice none 0 0] 32) := ⟨_, rfl⟩
      have hB356 : Below W.heap.size W Y357 := by rw [hY357]; exact hW0.alloc hW0.size _
      have alY357 : Below X0.heap.size X0 Y357 := by rw [hY357]; exact allocBelow _ _
      have f358 : BoxT Y357 X0.heap.size 32 #[.slice none 0 0, .slice none 0 0] := by rw [hY357]; exact BoxT.new _ _ _
      have w359 : W.heap.size ≤ X0.heap.size := hW0.size
      go_simp
      rw [← hY357]
      refine hK.out _ _ (C0.out.on hB356) (fun hHeld => ?_)
      clear hK K hY357
      refine wpAnyH_ready (rs := [0, 6]) (by kernel_rfl) (by simp) ?_
      refine AllReadyH.cons rfl (fun K hK => ?_) (AllReadyH.cons rfl (fun K hK => ?_) AllReadyH.nil)
      · obtain ⟨Y361, hY361⟩ : ∃ Y, Y = Y357.alloc (.cells #[] 2) := ⟨_, rfl⟩
        have hB360 : Below W.heap.size W Y361 := by rw [hY361]; exact hB356.alloc hB356.size _
        have alY361 : Below Y357.heap.size Y357 Y361 := by rw [hY361]; exact allocBelow _ _
        have f362 := BoxT.on f358 alY361
        have f363 : Grow W.heap.size Y361 (.slice (some ⟨Y357.heap.size, 0, none⟩) ([] : List Int).length 0) [] := by rw [hY361]; exact grow_empty Y357 hB356.size
        have n364 : Y357.heap.size ≠ X0.heap.size := by have := f358.lt; omega
        go_simp
        rw [← hY361]
        refine hK.out _ _ (C0.out.on hB360) (fun hHeld => ?_)
        clear hK K hY361
        refine wpAnyH_ready (rs := [5, 6]) (by kernel_rfl) (by simp) ?_
        refine AllReadyH.cons rfl (fun K hK => ?_) (AllReadyH.cons rfl (fun K hK => ?_) AllReadyH.nil)
        · refine stepGrowAt Y361 rfl (.tmp 9) (.tmp 13) rfl W.heap.size (Y357.heap.size) 0 [] (by (try simp only [Act.put]); simp [Act.eval]) f363 hB360.size zz cz B (st.take keep) (by first | rfl | ((try simp only [Act.put]); simp [Act.eval]; done) | ((try simp only [Act.put]); simp [Act.eval]; omega)) (SI.on HST.out (Keep.of (below_over hwW hB360))) (by have := HLN.out; simp; omega) ?_
          intro g365 c366 Y367 f368 k369 b370 e371
          have hB372 : Below W.heap.size W Y367 := hB360.trans k369.below
          have f373 : BoxT Y367 X0.heap.size 32 #[.slice none 0 0, .slice none 0 0] := (b370 _ (Ne.symm n364) f362.lt).trans f362
          have n374 : g365 ≠ X0.heap.size := Ne.symm (ne_step (Ne.symm n364) f362.lt e371)
          refine hK.out _ _ (C0.out.on hB372) (fun hHeld => ?_)
          clear hK K
          refine wpAnyH_ready (rs := [6]) (by kernel_rfl) (by simp) ?_
          refine AllReadyH.cons rfl (fun K hK => ?_) AllReadyH.nil
          obtain ⟨Y376, hY376⟩ : ∃ Y, Y = Y367.alloc (.cells #[] 2) := ⟨_, rfl⟩
          have hB375 : Below W.heap.size W Y376 := by rw [hY376]; exact hB372.alloc hB372.size _
          have alY376 : Below Y367.heap.size Y367 Y376 := by rw [hY376]; exact allocBelow _ _
          have f377 := growOn f368 alY376
          have f378 := BoxT.on f373 alY376
          have f379 : Grow W.heap.size Y376 (.slice (some ⟨Y367.heap.size, 0, none⟩) ([] : List Int).length 0) [] := by rw [hY376]; exact grow_empty Y367 hB372.size
          have n380 : g365 ≠ Y367.heap.size := by have := grow_lt f368; omega
          have n381 : Y367.heap.size ≠ X0.heap.size := by have := f373.lt; omega
          go_simp
          rw [← hY376]
          refine hK.out _ _ (C0.out.on hB375) (fun hHeld => ?_)
          clear hK K hY376
          refine wpAnyH_ready (rs := [9]) (by kernel_rfl) (by simp) ?_
          refine AllReadyH.cons rfl (fun K hK => ?_) AllReadyH.nil
          refine stepGrowAt Y376 rfl (.tmp 15) (.tmp 17) rfl W.heap.size (Y367.heap.size) 0 [] (by (try simp only [Act.put]); simp [Act.eval]) f379 hB375.size z2 c2 B lo (by first | rfl | ((try simp only [Act.put]); simp [Act.eval]; done) | ((try simp only [Act.put]); simp [Act.eval]; omega)) (SI.on HLO.out (Keep.of (below_over hwW hB375))) (by have := HLN.out; simp; omega) ?_
          intro g382 c383 Y384 f385 k386 b387 e388
          have hB389 : Below W.heap.size W Y384 := hB375.trans k386.below
          have f390 := growOff f377 b387 n380
          have n391 : g365 ≠ g382 := ne_step n380 (grow_lt f377) e388
          have f392 : BoxT Y384 X0.heap.size 32 #[.slice none 0 0, .slice none 0 0] := (b387 _ (Ne.symm n381) f378.lt).trans f378
          have n393 : g382 ≠ X0.heap.size := Ne.symm (ne_step (Ne.symm n381) f378.lt e388)
          refine hK.out _ _ (C0.out.on hB389) (fun hHeld => ?_)
          clear hK K
          refine wpAnyH_take (i := 10) (v := ?_) rfl (by kernel_rfl) (by kernel_rfl) (by kernel_rfl) (fun _ _ _ h => h) (Or.inl ⟨by rfl, ?_⟩) hHeld ?_
          rotate_left 1
          · intro w' hSw
            obtain ⟨s2, _⟩ := Cells.g0 hSw
            obtain ⟨s3, _⟩ := Cells.g1 hSw
            go_simp
            try with_reducible rfl
          simp only [Act.put]
          refine wpAnyH_ready (rs := [12]) (by kernel_rfl) (by simp) ?_
          refine AllReadyH.cons rfl (fun K hK => ?_) AllReadyH.nil
          have CX := BoxT.cells f392
          obtain ⟨a0, b0⟩ := CX.g0
          obtain ⟨a1, b1⟩ := CX.g1
          have HJ : PutOut W (st.take keep) lo (.pointer (some ⟨X0.heap.size, 0, none⟩)) ((Y384.setCell ⟨X0.heap.size, 0, none⟩ (.slice (some ⟨g365, 0, none⟩) keep c366)).setCell ⟨X0.heap.size, 1, none⟩ (.slice (some ⟨g382, 0, none⟩) lo.length c383)) := by
            have h := putOut_of hB389 f390 f385 f392 n391 n374 n393 w359
            rw [HTL2.out] at h
            exact h
          have HSX : Cells ((Y384.setCell ⟨X0.heap.size, 0, none⟩ (.slice (some ⟨g365, 0, none⟩) keep c366)).setCell ⟨X0.heap.size, 1, none⟩ (.slice (some ⟨g382, 0, none⟩) lo.length c383)) w.heap.size [.slice zz st.length cz, .slice z2 lo.length c2] := ((C0.out.on hB389).far ⟨X0.heap.size, 0, none⟩ _ (by have := w359; have := HZ.out; simp; omega)).far ⟨X0.heap.size, 1, none⟩ _ (by have := w359; have := HZ.out; simp; omega)
          go_simp
          refine hK.out _ _ HSX (fun hHeld => ?_)
          clear hK K a0 a1 b0 b1 CX
          refine wpAnyH_done (by kernel_rfl) ?_ _
          go_simp
          refine hKK _ _ (Met.intro (hJ _ _ ?_))
          (repeat apply Exists.intro)
          exact ⟨HJ, rfl⟩
        · obtain ⟨Y395, hY395⟩ : ∃ Y, Y = Y361.alloc (.cells #[] 2) := ⟨_, rfl⟩
          have hB394 : Below W.heap.size W Y395 := by rw [hY395]; exact hB360.alloc hB360.size _
          have alY395 : Below Y361.heap.size Y361 Y395 := by rw [hY395]; exact allocBelow _ _
          have f396 := growOn f363 alY395
          have f397 := BoxT.on f362 alY395
          have f398 : Grow W.heap.size Y395 (.slice (some ⟨Y361.heap.size, 0, none⟩) ([] : List Int).length 0) [] := by rw [hY395]; exact grow_empty Y361 hB360.size
          have n399 : Y357.heap.size ≠ Y361.heap.size := by have := grow_lt f363; omega
          have n400 : Y361.heap.size ≠ X0.heap.size := by have := f362.lt; omega
          go_simp
          rw [← hY395]
          refine hK.out _ _ (C0.out.on hB394) (fun hHeld => ?_)
          clear hK K hY395
          refine wpAnyH_ready (rs := [5]) (by kernel_rfl) (by simp) ?_
          refine AllReadyH.cons rfl (fun K hK => ?_) AllReadyH.nil
          refine stepGrowAt Y395 rfl (.tmp 9) (.tmp 13) rfl W.heap.size (Y357.heap.size) 0 [] (by (try simp only [Act.put]); simp [Act.eval]) f396 hB394.size zz cz B (st.take keep) (by first | rfl | ((try simp only [Act.put]); simp [Act.eval]; done) | ((try simp only [Act.put]); simp [Act.eval]; omega)) (SI.on HST.out (Keep.of (below_over hwW hB394))) (by have := HLN.out; simp; omega) ?_
          intro g401 c402 Y403 f404 k405 b406 e407
          have hB408 : Below W.heap.size W Y403 := hB394.trans k405.below
          have f409 := growOff f398 b406 (Ne.symm n399)
          have n410 : g401 ≠ Y361.heap.size := Ne.symm (ne_step (Ne.symm n399) (grow_lt f398) e407)
          have f411 : BoxT Y403 X0.heap.size 32 #[.slice none 0 0, .slice none 0 0] := (b406 _ (Ne.symm n364) f397.lt).trans f397
          have n412 : g401 ≠ X0.heap.size := Ne.symm (ne_step (Ne.symm n364) f397.lt e407)
          refine hK.out _ _ (C0.out.on hB408) (fun hHeld => ?_)
          clear hK K
          refine wpAnyH_ready (rs := [9]) (by kernel_rfl) (by simp) ?_
          refine AllReadyH.cons rfl (fun K hK => ?_) AllReadyH.nil
          refine stepGrowAt Y403 rfl (.tmp 15) (.tmp 17) rfl W.heap.size (Y361.heap.size) 0 [] (by (try simp only [Act.put]); simp [Act.eval]) f409 hB408.size z2 c2 B lo (by first | rfl | ((try simp only [Act.put]); simp [Act.eval]; done) | ((try simp only [Act.put]); simp [Act.eval]; omega)) (SI.on HLO.out (Keep.of (below_over hwW hB408))) (by have := HLN.out; simp; omega) ?_
          intro g413 c414 Y415 f416 k417 b418 e419
          have hB420 : Below W.heap.size W Y415 := hB408.trans k417.below
          have f421 := growOff f404 b418 n410
          have n422 : g401 ≠ g413 := ne_step n410 (grow_lt f404) e419
          have f423 : BoxT Y415 X0.heap.size 32 #[.slice none 0 0, .slice none 0 0] := (b418 _ (Ne.symm n400) f411.lt).trans f411
          have n424 : g413 ≠ X0.heap.size := Ne.symm (ne_step (Ne.symm n400) f411.lt e419)
          refine hK.out _ _ (C0.out.on hB420) (fun hHeld => ?_)
          clear hK K
          refine wpAnyH_take (i := 10) (v := ?_) rfl (by kernel_rfl) (by kernel_rfl) (by kernel_rfl) (fun _ _ _ h => h) (Or.inl ⟨by rfl, ?_⟩) hHeld ?_
          rotate_left 1
          · intro w' hSw
            obtain ⟨s2, _⟩ := Cells.g0 hSw
            obtain ⟨s3, _⟩ := Cells.g1 hSw
            go_simp
            try with_reducible rfl
          simp only [Act.put]
          refine wpAnyH_ready (rs := [12]) (by kernel_rfl) (by simp) ?_
          refine AllReadyH.cons rfl (fun K hK => ?_) AllReadyH.nil
          have CX := BoxT.cells f423
          obtain ⟨a0, b0⟩ := CX.g0
          obtain ⟨a1, b1⟩ := CX.g1
          have HJ : PutOut W (st.take keep) lo (.pointer (some ⟨X0.heap.size, 0, none⟩)) ((Y415.setCell ⟨X0.heap.size, 0, none⟩ (.slice (some ⟨g401, 0, none⟩) keep c402)).setCell ⟨X0.heap.size, 1, none⟩ (.slice (some ⟨g413, 0, none⟩) lo.length c414)) := by
            have h := putOut_of hB420 f421 f416 f423 n422 n412 n424 w359
            rw [HTL2.out] at h
            exact h
          have HSX : Cells ((Y415.setCell ⟨X0.heap.size, 0, none⟩ (.slice (some ⟨g401, 0, none⟩) keep c402)).setCell ⟨X0.heap.size, 1, none⟩ (.slice (some ⟨g413, 0, none⟩) lo.length c414)) w.heap.size [.slice zz st.length cz, .slice z2 lo.length c2] := ((C0.out.on hB420).far ⟨X0.heap.size, 0, none⟩ _ (by have := w359; have := HZ.out; simp; omega)).far ⟨X0.heap.size, 1, none⟩ _ (by have := w359; have := HZ.out; simp; omega)
          go_simp
          refine hK.out _ _ HSX (fun hHeld => ?_)
          clear hK K a0 a1 b0 b1 CX
          refine wpAnyH_done (by kernel_rfl) ?_ _
          go_simp
          refine hKK _ _ (Met.intro (hJ _ _ ?_))
          (repeat apply Exists.intro)
          exact ⟨HJ, rfl⟩
      · obtain ⟨Y426, hY426⟩ : ∃ Y, Y = Y357.alloc (.cells #[] 2) := ⟨_, rfl⟩
        have hB425 : Below W.heap.size W Y426 := by rw [hY426]; exact hB356.alloc hB356.size _
        have alY426 : Below Y357.heap.size Y357 Y426 := by rw [hY426]; exact allocBelow _ _
        have f427 := BoxT.on f358 alY426
        have f428 : Grow W.heap.size Y426 (.slice (some ⟨Y357.heap.size, 0, none⟩) ([] : List Int).length 0) [] := by rw [hY426]; exact grow_empty Y357 hB356.size
        have n429 : Y357.heap.size ≠ X0.heap.size := by have := f358.lt; omega
        go_simp
        rw [← hY426]
        refine hK.out _ _ (C0.out.on hB425) (fun hHeld => ?_)
        clear hK K hY426
        refine wpAnyH_ready (rs := [0]) (by kernel_rfl) (by simp) ?_
        refine AllReadyH.cons rfl (fun K hK => ?_) AllReadyH.nil
        obtain ⟨Y431, hY431⟩ : ∃ Y, Y = Y426.alloc (.cells #[] 2) := ⟨_, rfl⟩
        have hB430 : Below W.heap.size W Y431 := by rw [hY431]; exact hB425.alloc hB425.size _
        have alY431 : Below Y426.heap.size Y426 Y431 := by rw [hY431]; exact allocBelow _ _
        have f432 := growOn f428 alY431
        have f433 := BoxT.on f427 alY431
        have f434 : Grow W.heap.size Y431 (.slice (some ⟨Y426.heap.size, 0, none⟩) ([] : List Int).length 0) [] := by rw [hY431]; exact grow_empty Y426 hB425.size
        have n435 : Y426.heap.size ≠ Y357.heap.size := by have := grow_lt f428; omega
        have n436 : Y426.heap.size ≠ X0.heap.size := by have := f427.lt; omega
        go_simp
        rw [← hY431]
        refine hK.out _ _ (C0.out.on hB430) (fun hHeld => ?_)
        clear hK K hY431
        refine wpAnyH_ready (rs := [5]) (by kernel_rfl) (by simp) ?_
        refine AllReadyH.cons rfl (fun K hK => ?_) AllReadyH.nil
        refine stepGrowAt Y431 rfl (.tmp 9) (.tmp 13) rfl W.heap.size (Y426.heap.size) 0 [] (by (try simp only [Act.put]); simp [Act.eval]) f434 hB430.size zz cz B (st.take keep) (by first | rfl | ((try simp only [Act.put]); simp [Act.eval]; done) | ((try simp only [Act.put]); simp [Act.eval]; omega)) (SI.on HST.out (Keep.of (below_over hwW hB430))) (by have := HLN.out; simp; omega) ?_
        intro g437 c438 Y439 f440 k441 b442 e443
        have hB444 : Below W.heap.size W Y439 := hB430.trans k441.below
        have f445 := growOff f432 b442 (Ne.symm n435)
        have n446 : g437 ≠ Y357.heap.size := Ne.symm (ne_step (Ne.symm n435) (grow_lt f432) e443)
        have f447 : BoxT Y439 X0.heap.size 32 #[.slice none 0 0, .slice none 0 0] := (b442 _ (Ne.symm n436) f433.lt).trans f433
        have n448 : g437 ≠ X0.heap.size := Ne.symm (ne_step (Ne.symm n436) f433.lt e443)
        refine hK.out _ _ (C0.out.on hB444) (fun hHeld => ?_)
        clear hK K
        refine wpAnyH_ready (rs := [9]) (by kernel_rfl) (by simp) ?_
        refine AllReadyH.cons rfl (fun K hK => ?_) AllReadyH.nil
        refine stepGrowAt Y439 rfl (.tmp 15) (.tmp 17) rfl W.heap.size (Y357.heap.size) 0 [] (by (try simp only [Act.put]); simp [Act.eval]) f445 hB444.size z2 c2 B lo (by first | rfl | ((try simp only [Act.put]); simp [Act.eval]; done) | ((try simp only [Act.put]); simp [Act.eval]; omega)) (SI.on HLO.out (Keep.of (below_over hwW hB444))) (by have := HLN.out; simp; omega) ?_
        intro g449 c450 Y451 f452 k453 b454 e455
        have hB456 : Below W.heap.size W Y451 := hB444.trans k453.below
        have f457 := growOff f440 b454 n446
        have n458 : g437 ≠ g449 := ne_step n446 (grow_lt f440) e455
        have f459 : BoxT Y451 X0.heap.size 32 #[.slice none 0 0, .slice none 0 0] := (b454 _ (Ne.symm n429) f447.lt).trans f447
        have n460 : g449 ≠ X0.heap.size := Ne.symm (ne_step (Ne.symm n429) f447.lt e455)
        refine hK.out _ _ (C0.out.on hB456) (fun hHeld => ?_)
        clear hK K
        refine wpAnyH_take (i := 10) (v := ?_) rfl (by kernel_rfl) (by kernel_rfl) (by kernel_rfl) (fun _ _ _ h => h) (Or.inl ⟨by rfl, ?_⟩) hHeld ?_
        rotate_left 1
        · intro w' hSw
          obtain ⟨s2, _⟩ := Cells.g0 hSw
          obtain ⟨s3, _⟩ := Cells.g1 hSw
          go_simp
          try with_reducible rfl
        simp only [Act.put]
        refine wpAnyH_ready (rs := [12]) (by kernel_rfl) (by simp) ?_
        refine AllReadyH.cons rfl (fun K hK => ?_) AllReadyH.nil
        have CX := BoxT.cells f459
        obtain ⟨a0, b0⟩ := CX.g0
        obtain ⟨a1, b1⟩ := CX.g1
        have HJ : PutOut W (st.take keep) lo (.pointer (some ⟨X0.heap.size, 0, none⟩)) ((Y451.setCell ⟨X0.heap.size, 0, none⟩ (.slice (some ⟨g437, 0, none⟩) keep c438)).setCell ⟨X0.heap.size, 1, none⟩ (.slice (some ⟨g449, 0, none⟩) lo.length c450)) := by
          have h := putOut_of hB456 f457 f452 f459 n458 n448 n460 w359
          rw [HTL2.out] at h
          exact h
        have HSX : Cells ((Y451.setCell ⟨X0.heap.size, 0, none⟩ (.slice (some ⟨g437, 0, none⟩) keep c438)).setCell ⟨X0.heap.size, 1, none⟩ (.slice (some ⟨g449, 0, none⟩) lo.length c450)) w.heap.size [.slice zz st.length cz, .slice z2 lo.length c2] := ((C0.out.on hB456).far ⟨X0.heap.size, 0, none⟩ _ (by have := w359; have := HZ.out; simp; omega)).far ⟨X0.heap.size, 1, none⟩ _ (by have := w359; have := HZ.out; simp; omega)
        go_simp
        refine hK.out _ _ HSX (fun hHeld => ?_)
        clear hK K a0 a1 b0 b1 CX
        refine wpAnyH_done (by kernel_rfl) ?_ _
        go_simp
        refine hKK _ _ (Met.intro (hJ _ _ ?_))
        (repeat apply Exists.intro)
        exact ⟨HJ, rfl⟩

  case rest =>
    obtain ⟨k, g1, d1, g2, d2, rfl, hkW, hbx, hgr1, hgr2, h12, h1k, h2k, hbu⟩ := hcut
    obtain ⟨sk, HSKE⟩ : ∃ sk, Hid (st.take keep = sk) := ⟨_, rfl⟩
    have HSL : Hid (sk.length ≤ 400) := by have h1 := HLN.out; show _ ≤ _; rw [← HSKE.out]; simp; omega
    rw [HSKE.out] at hbx hgr1
    obtain ⟨b0, _⟩ := hbx.cells.g0
    have HBX : Hid (BoxT _ k 32 #[.slice (some ⟨g1, 0, none⟩) sk.length d1, .slice (some ⟨g2, 0, none⟩) lo.length d2]) := hbx
    have HG1 : Hid (Grow W.heap.size _ (.slice (some ⟨g1, 0, none⟩) sk.length d1) sk) := hgr1
    have HG2 : Hid (Grow W.heap.size _ (.slice (some ⟨g2, 0, none⟩) lo.length d2) lo) := hgr2
    have HSK : Hid (SI true B _ (.slice zo ks.length ck) ks) := SI.on HKS.out (Keep.of (below_over hwW hbu))
    clear hbx hgr1 hgr2
    go_wp2_with (at_builtin; refine wpList_growAt _ rfl _ _ rfl W.heap.size g1 d1 sk rfl HG1.out hbu.size zo ck B ks rfl HSK.out (by have h1 := HSL.out; omega) ?_)
    intro g3 d3 w3 hg3 hk3 hoff hwh
    have hb3 : Below W.heap.size W w3 := hbu.trans hk3.below
    have HBX3 : BoxT w3 k 32 #[.slice (some ⟨g1, 0, none⟩) sk.length d1, .slice (some ⟨g2, 0, none⟩) lo.length d2] := hk3.box _ _ _ (by decide) HBX.out
    have HG23 := growOff HG2.out hoff (Ne.symm h12)
    have h32 : g3 ≠ g2 := Ne.symm (ne_step (Ne.symm h12) (grow_lt HG2.out) hwh)
    have h3k : g3 ≠ k := Ne.symm (ne_step (Ne.symm h1k) HBX.out.lt hwh)
    obtain ⟨f0, f1⟩ := HBX3.cells.g0
    have HBX4 := HBX3.set 0 (.slice (some ⟨g3, 0, none⟩) (sk.length + ks.length) d3) rfl
    have hb4 : Below W.heap.size W (w3.setCell ⟨k, 0, none⟩ (.slice (some ⟨g3, 0, none⟩) (sk.length + ks.length) d3)) := hb3.setCell (p := ⟨k, 0, none⟩) hkW _
    have hoff4 : ∀ b, b ≠ k → b < w3.heap.size → (w3.setCell ⟨k, 0, none⟩ (.slice (some ⟨g3, 0, none⟩) (sk.length + ks.length) d3)).heap[b]? = w3.heap[b]? := fun b hb _ => Below.heap_setCell _ ⟨k, 0, none⟩ _ b hb
    have HO1 : Hid (Grow W.heap.size (w3.setCell ⟨k, 0, none⟩ (.slice (some ⟨g3, 0, none⟩) (sk.length + ks.length) d3)) (.slice (some ⟨g3, 0, none⟩) (sk.length + ks.length) d3) (sk ++ ks)) := growOff hg3 hoff4 h3k
    have HO2 : Hid (Grow W.heap.size (w3.setCell ⟨k, 0, none⟩ (.slice (some ⟨g3, 0, none⟩) (sk.length + ks.length) d3)) (.slice (some ⟨g2, 0, none⟩) lo.length d2) lo) := growOff HG23 hoff4 h2k
    have HB4 : Hid (BoxT (w3.setCell ⟨k, 0, none⟩ (.slice (some ⟨g3, 0, none⟩) (sk.length + ks.length) d3)) k 32 #[.slice (some ⟨g3, 0, none⟩) (sk.length + ks.length) d3, .slice (some ⟨g2, 0, none⟩) lo.length d2]) := HBX4
    obtain ⟨L, hL⟩ : ∃ L, L = sk.length + ks.length := ⟨_, rfl⟩
    have HL : Hid (L = (sk ++ ks).length) := by show _ = _; rw [hL]; simp
    rw [← hL]
    rw [← hL] at HO1 HO2 HB4 hb4
    clear hL hg3 hk3 hoff HBX3 HG23 HBX4 hoff4 HBX HG1 HG2 HSK b0 hb3 hbu hwh HST HLO HKS C0
    go_wp2_with fail
    generalize w3.setCell ⟨k, 0, none⟩ (.slice (some ⟨g3, 0, none⟩) L d3) = w4 at *
    clear f0 f1
    have RA := R0.out.on hb4
    obtain ⟨r0, q0⟩ := RA.g0
    obtain ⟨r1, q1⟩ := RA.g1
    obtain ⟨m0, _⟩ := HB4.out.cells.g0
    obtain ⟨m1, _⟩ := HB4.out.cells.g1
    have R5 := (RA.s0 (.slice (some ⟨g3, 0, none⟩) L d3)).s1 (.slice (some ⟨g2, 0, none⟩) lo.length d2)
    obtain ⟨e0, _⟩ := R5.g0
    obtain ⟨e1, _⟩ := R5.g1
    have hr : w.heap.size + 1 < W.heap.size := by have := HZ.out; omega
    have hoff5 : ∀ b, b ≠ w.heap.size + 1 → b < w4.heap.size → ((w4.setCell ⟨w.heap.size + 1, 0, none⟩ (.slice (some ⟨g3, 0, none⟩) L d3)).setCell ⟨w.heap.size + 1, 1, none⟩ (.slice (some ⟨g2, 0, none⟩) lo.length d2)).heap[b]? = w4.heap[b]? := fun b hb _ => (Below.heap_setCell _ ⟨w.heap.size + 1, 1, none⟩ _ b hb).trans (Below.heap_setCell _ ⟨w.heap.size + 1, 0, none⟩ _ b hb)
    have l3 := (HO1.out.1.lt g3 rfl).1
    have l2 := (HO2.out.1.lt g2 rfl).1
    have HE : Hid (OwnS w.heap.size ((w4.setCell ⟨w.heap.size + 1, 0, none⟩ (.slice (some ⟨g3, 0, none⟩) L d3)).setCell ⟨w.heap.size + 1, 1, none⟩ (.slice (some ⟨g2, 0, none⟩) lo.length d2)) (.slice (some ⟨g3, 0, none⟩) L d3) (.slice (some ⟨g2, 0, none⟩) lo.length d2) (sk ++ ks, lo) ∧ Below w.heap.size w ((w4.setCell ⟨w.heap.size + 1, 0, none⟩ (.slice (some ⟨g3, 0, none⟩) L d3)).setCell ⟨w.heap.size + 1, 1, none⟩ (.slice (some ⟨g2, 0, none⟩) lo.length d2))) := by
      refine ⟨⟨ownBase (growOff HO1.out hoff5 (by omega)).1 hwW.size, ownBase (growOff HO2.out hoff5 (by omega)).1 hwW.size, .inr (by simp [Value.ownBlock]; exact h32)⟩, ((below_over hwW hb4).setCell (p := ⟨w.heap.size + 1, 0, none⟩) (by simp) _).setCell (p := ⟨w.heap.size + 1, 1, none⟩) (by simp) _⟩
    clear R5 RA hoff5 HO1 HO2 HB4 l3 l2
    go_region
    all_goals (try go_wp2)
    all_goals
      refine bodyPost_ret (v := .tuple #[.agg #[.slice (some ⟨g3, 0, none⟩) L d3, .slice (some ⟨g2, 0, none⟩) lo.length d2], .bool (decide (L ≤ 8))]) (by simp [results, Tryz.results40, go_sem, e0, e1]; omega) rfl ?_
      have hL := HL.out
      rw [HSKE.out]
      refine ⟨some ⟨g3, 0, none⟩, d3, some ⟨g2, 0, none⟩, d2, ?_, ?_⟩
      · rw [← hL]
      · rw [← hL]; exact ⟨⟨ownOn HE.out.1.1 (Below.refl _ _).drew, ownOn HE.out.1.2.1 (Below.refl _ _).drew, HE.out.1.2.2⟩, HE.out.2.drew⟩
end Pg
end Go.Proofs.YtfdlljdljefkfaaGreatDoor
