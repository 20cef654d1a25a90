/- Contracts of the program's questions that go up: the lowest that is above two, and what is selected. -/
import Derived.Test.YtinanjjhkddikaaGreatJHi2
import Derived.Test.YtinanjjhkddikaaGreatJPi1
import Derived.Test.YtinanjjhkddikaaGreatJHi1
import Derived.Deep.RegionHeld3
import Derived.OrdersIn
import Derived.Test.YtinanjjhkddikaaGreatJSg0
namespace Go.Proofs.YtinanjjhkddikaaGreat
namespace Pg
open Go.ChangeShapes Go.WideShapes Go.ChangeAt Go.RowKit Go.Shelf St
attribute [local go_sem] Oper.semAt_some

theorem find_none' {α : Type} {f : α → Bool} {l : List α} (h : ∀ y ∈ l, f y = false) : l.find? f = none := by
  rw [List.find?_eq_none]; intro x hx; rw [h x hx]; simp
theorem find_pre {α : Type} {f : α → Bool} {l pre : List α} {x : α} (hp : pre ++ [x] <+: l) (h : ∀ y ∈ pre, f y = false) (hx : f x = true) : l.find? f = some x := by
  obtain ⟨r, rfl⟩ := hp
  rw [List.find?_append, List.find?_append, find_none' h]
  simp [hx]
/-- The round that leaves: none before was one, this one is. -/
def Hit (f : Int → Bool) (pre : List Int) (x : Int) : Prop := ∃ q, pre = q ++ [x] ∧ (∀ y ∈ q, f y = false) ∧ f x = true
theorem Hit.find {f : Int → Bool} {pre l : List Int} {x : Int} (h : Hit f pre x) (hp : pre <+: l) : l.find? f = some x := by
  obtain ⟨q, rfl, h1, h2⟩ := h
  exact find_pre hp h1 h2

end Pg
end Go.Proofs.YtinanjjhkddikaaGreat

/- A region that draws its order, in a round of a loop over a function: as in a plain body. -/
namespace Go.Proofs.YtinanjjhkddikaaGreat
namespace Pg
open Go.ChangeShapes Go.WideShapes Go.ChangeAt Go.RowKit Go.Shelf St

end Pg
end Go.Proofs.YtinanjjhkddikaaGreat

/- Contract of the program's selection of a method. -/
namespace Go.Proofs.YtinanjjhkddikaaGreat
namespace Pg
open Go.ChangeShapes Go.WideShapes Go.ChangeAt Go.RowKit Go.Shelf St
attribute [local go_sem] Oper.semAt_some

set_option maxRecDepth 100000 in
set_option maxHeartbeats 2000000 in
theorem selectedFrom (B : Nat) (p : Prg) (a : Option Addr) (cap : Nat) (u0 b : Int) (hu0 : -1 ≤ u0) (hu1 : u0 < (p.length : Int)) (hsp : SmallP p) (h6 : p.length ≤ 6) (hsup : SupOk p p.length) (w : World) (hp : SK front B w (.slice a p.length cap) p) :
    Calls Tryz.prog 104 #[.agg #[.slice a p.length cap], .int .i64 u0, .int .i64 b] w fun e w' => e = .returned (.int .i64 (selF p u0 b)) ∧ Below w.heap.size w w' := by
  have HP : Hid (SK front B w (.slice a p.length cap) p) := hp
  have HSUP : Hid (SupOk p p.length) := hsup
  have HSP : Hid (SmallP p) := hsp
  clear hp hsup hsp
  refine (callsIn_wide (n := 4)).1 ?_
  refine callsIn_of_wp_marks Tryz.func104 rfl trivial ?_ rfl
  simp only [Tryz.ntmps104, List.size_toArray, List.length_cons, List.length_nil, Nat.reduceAdd, Nat.reduceSub, Array.replicate_succ, Array.replicate_zero, List.push_toArray, List.append_toArray, List.nil_append, List.cons_append]
  gi_wp2_with (refine ⟨trivial, ?_⟩; gi_at_call 91; refine (upFrom_in _ a p.length cap u0 _).mono ?_; rintro e w' ⟨rfl, rfl⟩)
  have b0 := Boxed.new w 30 (.slice a p.length cap)
  have b1 := Boxed.new (w.alloc (.cells #[.slice a p.length cap] 30)) 2 (.int .i64 b)
  have b2 := Boxed.new ((w.alloc (.cells #[.slice a p.length cap] 30)).alloc (.cells #[.int .i64 b] 2)) 2 (.int .i64 0)
  have b3 := Boxed.new (((w.alloc (.cells #[.slice a p.length cap] 30)).alloc (.cells #[.int .i64 b] 2)).alloc (.cells #[.int .i64 0] 2)) 30 (.slice a p.length cap)
  have b4 := Boxed.new ((((w.alloc (.cells #[.slice a p.length cap] 30)).alloc (.cells #[.int .i64 b] 2)).alloc (.cells #[.int .i64 0] 2)).alloc (.cells #[.slice a p.length cap] 30)) 2 (.int .i64 u0)
  simp only [World.size_alloc] at b1 b2 b3 b4
  have hB0 : Below w.heap.size w (((((w.alloc (.cells #[.slice a p.length cap] 30)).alloc (.cells #[.int .i64 b] 2)).alloc (.cells #[.int .i64 0] 2)).alloc (.cells #[.slice a p.length cap] 30)).alloc (.cells #[.int .i64 u0] 2)) := (((((Below.refl _ w).alloc (Nat.le_refl _) _).alloc (by simp) _).alloc (by simp; omega) _).alloc (by simp; omega) _).alloc (by simp; omega) _
  refine wpIn_rangeFunc_ownF rfl (show 1 ≤ 4 by omega) (gf := 103) (lb := #[.pointer (some ⟨w.heap.size + 1 + 1 + 1 + 1, 0, none⟩), .pointer (some ⟨w.heap.size + 1 + 1 + 1, 0, none⟩)]) rfl trivial (enters_of Tryz.func103 (by kernel_rfl) rfl)
    (up_stopsC _ (by omega) (w.heap.size + 1 + 1 + 1 + 1) (w.heap.size + 1 + 1 + 1) B p a cap u0 hu0 hu1 h6 HSUP.out w _ HP.out hB0 b4.cell (b3.alloc _)) kp_t (kp_b (by simp; omega) (by simp)) (Below.refl _ _) (fun _ => rfl)
    (fun pre W => (Hid (∀ y ∈ vals pre, hasM p b y = false) ∧ W.cell? ⟨w.heap.size, 0, none⟩ = some (.slice a p.length cap) ∧ W.cell? ⟨w.heap.size + 1, 0, none⟩ = some (.int .i64 b) ∧ W.cell? ⟨w.heap.size + 1 + 1, 0, none⟩ = some (.int .i64 0) ∧ W.frozen? ⟨w.heap.size + 1 + 1, 0, none⟩ = false) ∧ Below w.heap.size w W)
    (fun c pre W => (c = .ret ∧ ∃ x, Hid (Hit (hasM p b) (vals pre) x) ∧ W.cell? ⟨w.heap.size + 1 + 1, 0, none⟩ = some (.int .i64 x)) ∧ Below w.heap.size w W)
    (OwnFrom.and (Own.from (fun s A B row hs hg hr => ⟨hs.1, cell_kept hs.2.1 hg hr, cell_kept hs.2.2.1 hg hr, cell_kept hs.2.2.2.1 hg hr, (frozen_kept hs.2.2.2.1 hg hr).trans hs.2.2.2.2⟩) _) (ownFrom_below (Nat.le_refl _) (by simp; omega)))
    (fun c => OwnFrom.and (Own.from (fun s A B row hs hg hr => ⟨hs.1, hs.2.elim fun x hx => ⟨x, hx.1, cell_kept hx.2 hg hr⟩⟩) _) (ownFrom_below (Nat.le_refl _) (by simp; omega)))
    ⟨⟨fun _ h => absurd h (by simp [vals]), ((((b0.alloc _).alloc _).alloc _).alloc _).cell, (((b1.alloc _).alloc _).alloc _).cell, ((b2.alloc _).alloc _).cell, ((b2.alloc _).alloc _).frozen⟩, hB0⟩
    (fun x => { tmps := #[.agg #[.slice a p.length cap], .int .i64 u0, .int .i64 b, .pointer (some ⟨w.heap.size, 0, none⟩), undef, .pointer (some ⟨w.heap.size + 1, 0, none⟩), .pointer (some ⟨w.heap.size + 1 + 1, 0, none⟩), .int .i64 x.1, undef, undef, .agg #[.slice a p.length cap], .int .i64 u0, .func (.func 103) #[] #[.pointer (some ⟨w.heap.size + 1 + 1 + 1 + 1, 0, none⟩), .pointer (some ⟨w.heap.size + 1 + 1 + 1, 0, none⟩)], .int .i64 x.1, undef, undef, undef, undef, undef, undef, undef, undef, undef, undef, undef, undef], defers := [] }) ?assign ?body ?done ?stop
  case assign =>
    intro l x W K hK
    gi_wp2
    exact hK
  case body =>
    rintro l pre x W ⟨⟨hne, c0, c1, c2, f2'⟩, hB⟩ _
    have HV : Hid (vals (pre ++ [x]) = vals pre ++ [x.1]) := vals_snoc pre x
    obtain ⟨xv, hx0, hx1⟩ := x
    obtain ⟨j, rfl⟩ := Int.eq_ofNat_of_zero_le hx0
    clear b0 b1 b2 b3 b4 hB0
    have hjp : j < p.length := by omega
    obtain ⟨b', o, rfl, _, vf, vm, d0, d1, d2, hcv⟩ := HP.out.get hjp
    obtain ⟨z1, t1, rfl⟩ := hcv.1.form
    obtain ⟨z2, t2, rfl⟩ := hcv.2.form
    have l0 : b' < w.heap.size := cell_lt d0
    have k0 := (hB.cell l0).trans d0
    have k1 := (hB.cell l0).trans d1
    have k2 := (hB.cell l0).trans d2
    have HSM : Hid (SM front B w (.slice z2 p[j].meths.length t2) p[j].meths) := hcv.2
    have hsm := HSP.out.2 _ (List.getElem_mem hjp)
    have hsl := hsm.2.1
    have HHM : Hid (hasM p b (j : Int) = (ownF p[j] b).isSome) := by
      show _ = _
      unfold hasM
      rw [Int.toNat_natCast, List.getElem?_eq_getElem hjp]
    generalize p[j] = c at *
    clear hcv hsm d0 d1 d2
    dsimp only at HV ⊢
    have lb : b' < W.heap.size := Nat.lt_of_lt_of_le l0 hB.size
    have HS : Hid (∀ w', Below W.heap.size W w' → Below W.heap.size W w' ∧ w'.cell? ⟨w.heap.size, 0, none⟩ = some (.slice (some ⟨b', o, none⟩) p.length cap) ∧ w'.cell? ⟨w.heap.size + 1, 0, none⟩ = some (.int .i64 b) ∧ w'.cell? ⟨b', o + j * 3, none⟩ = some (.int .i64 c.super) ∧ w'.cell? ⟨b', o + j * 3 + 1, none⟩ = some (.slice z1 c.fields.length t1) ∧ w'.cell? ⟨b', o + j * 3 + 2, none⟩ = some (.slice z2 c.meths.length t2)) := fun w' h =>
      ⟨h, (h.cell (cell_lt c0)).trans c0, (h.cell (cell_lt c1)).trans c1, (h.cell lb).trans k0, (h.cell lb).trans k1, (h.cell lb).trans k2⟩
    gi_wp2_with fail
    refine round_held (S := fun w' => Below W.heap.size W w' ∧ w'.cell? ⟨w.heap.size, 0, none⟩ = some (.slice (some ⟨b', o, none⟩) p.length cap) ∧ w'.cell? ⟨w.heap.size + 1, 0, none⟩ = some (.int .i64 b) ∧ w'.cell? ⟨b', o + j * 3, none⟩ = some (.int .i64 c.super) ∧ w'.cell? ⟨b', o + j * 3 + 1, none⟩ = some (.slice z1 c.fields.length t1) ∧ w'.cell? ⟨b', o + j * 3 + 2, none⟩ = some (.slice z2 c.meths.length t2)) (by kernel_rfl) (by simp) (fun ⟨_, _, h⟩ => h) (HS.out _ (Below.refl _ _).drew) (fun hHeld => ?_)
    refine wpAnyH_take (i := 0) (v := ?_) rfl (by kernel_rfl) (by kernel_rfl) (by kernel_rfl) (fun _ _ _ h => h) (Or.inl ⟨by rfl, ?_⟩) hHeld ?_
    rotate_left 1
    · intro w' hSw
      obtain ⟨_, s0, s1, s2, s3, s4⟩ := hSw
      go_simp
      try with_reducible rfl
    simp only [Act.put]
    refine wpAnyH_take (i := 1) (v := ?_) rfl (by kernel_rfl) (by kernel_rfl) (by kernel_rfl) (fun _ _ _ h => h) (Or.inl ⟨by rfl, ?_⟩) hHeld ?_
    rotate_left 1
    · intro w' hSw
      obtain ⟨_, s0, s1, s2, s3, s4⟩ := hSw
      go_simp
      try with_reducible rfl
    simp only [Act.put]
    refine wpAnyH_take (i := 2) (v := ?_) rfl (by kernel_rfl) (by kernel_rfl) (by kernel_rfl) (fun _ _ _ h => h) (Or.inl ⟨by rfl, ?_⟩) hHeld ?_
    rotate_left 1
    · intro w' hSw
      obtain ⟨_, s0, s1, s2, s3, s4⟩ := hSw
      go_simp
      try with_reducible rfl
    simp only [Act.put]
    refine wpAnyH_take (i := 3) (v := ?_) rfl (by kernel_rfl) (by kernel_rfl) (by kernel_rfl) (fun _ _ _ h => h) (Or.inl ⟨by rfl, ?_⟩) hHeld ?_
    rotate_left 1
    · intro w' hSw
      obtain ⟨_, s0, s1, s2, s3, s4⟩ := hSw
      go_simp
      try with_reducible rfl
    simp only [Act.put]
    refine wpAnyH_take (i := 4) (v := ?_) rfl (by kernel_rfl) (by kernel_rfl) (by kernel_rfl) (fun _ _ _ h => h) (Or.inl ⟨by rfl, ?_⟩) hHeld ?_
    rotate_left 1
    · intro w' hSw
      obtain ⟨_, s0, s1, s2, s3, s4⟩ := hSw
      go_simp
      try with_reducible rfl
    simp only [Act.put]
    refine wpAnyH_take (i := 5) (v := ?_) rfl (by kernel_rfl) (by kernel_rfl) (by kernel_rfl) (fun _ _ _ h => h) (Or.inl ⟨by rfl, ?_⟩) hHeld ?_
    rotate_left 1
    · intro w' hSw
      obtain ⟨_, s0, s1, s2, s3, s4⟩ := hSw
      go_simp
      try with_reducible rfl
    simp only [Act.put]
    refine wpAnyH_ready (rs := [6, 10]) (by kernel_rfl) (by simp) ?_
    refine AllReadyH.cons rfl (fun K hK => ?_) (AllReadyH.cons rfl (fun K hK => ?_) AllReadyH.nil)
    · go_simp
      refine (ownMethodR B c z1 z2 t2 c.fields.length t1 b hsl w _ (below_over hB hHeld.1) HSM.out).mono ?_
      rintro e w1 ⟨n, f1, l1, g1, gv, f2, l2, g2, q, rfl, hor, hb1⟩
      have hW1 : Below W.heap.size W w1 := below_over hHeld.1 hb1
      dsimp only
      refine hK.out _ _ (HS.out _ hW1) (fun hHeld => ?_)
      clear hK K
      refine wpAnyH_take (i := 7) (v := ?_) rfl (by kernel_rfl) (by kernel_rfl) (by kernel_rfl) (fun _ _ _ h => h) (Or.inl ⟨by rfl, ?_⟩) hHeld ?_
      rotate_left 1
      · intro w' hSw
        go_simp
        try with_reducible rfl
      simp only [Act.put]
      refine wpAnyH_take (i := 8) (v := ?_) rfl (by kernel_rfl) (by kernel_rfl) (by kernel_rfl) (fun _ _ _ h => h) (Or.inl ⟨by rfl, ?_⟩) hHeld ?_
      rotate_left 1
      · intro w' hSw
        go_simp
        try with_reducible rfl
      simp only [Act.put]
      refine wpAnyH_take (i := 9) (v := ?_) rfl (by kernel_rfl) (by kernel_rfl) (by kernel_rfl) (fun _ _ _ h => h) (Or.inl ⟨by rfl, ?_⟩) hHeld ?_
      rotate_left 1
      · intro w' hSw
        go_simp
        try with_reducible rfl
      simp only [Act.put]
      refine wpAnyH_ready (rs := [10]) (by kernel_rfl) (by simp) ?_
      refine AllReadyH.cons rfl (fun K hK => ?_) AllReadyH.nil
      go_simp
      refine hK.out _ _ (HS.out _ (hW1.alloc hW1.size _)) (fun hHeld => ?_)
      clear hK K
      refine wpAnyH_ready (rs := [11]) (by kernel_rfl) (by simp) ?_
      refine AllReadyH.cons rfl (fun K hK => ?_) AllReadyH.nil
      have CX := Cells.new w1 w1.heap.size rfl [.int .i64 0, .slice none 0 0, .int .i64 0, .slice none 0 0] 55
      obtain ⟨x0, y0⟩ := CX.g0
      obtain ⟨x1, y1⟩ := CX.g1
      obtain ⟨x2, y2⟩ := CX.g2
      obtain ⟨x3, y3⟩ := CX.g3
      go_simp
      have hWF : Below W.heap.size W (w1.alloc (.cells #[.int .i64 n, .slice f1 l1 g1, .int .i64 gv, .slice f2 l2 g2] 55)) := hW1.alloc hW1.size _
      refine hK.out _ _ (HS.out _ hWF) (fun hHeld => ?_)
      clear hK K x0 x1 x2 x3 y0 y1 y2 y3 CX
      generalize w1.alloc (.cells #[.int .i64 n, .slice f1 l1 g1, .int .i64 gv, .slice f2 l2 g2] 55) = wF at *
      refine wpAnyH_take (i := 12) (v := ?_) rfl (by kernel_rfl) (by kernel_rfl) (by kernel_rfl) (fun _ _ _ h => h) (Or.inl ⟨by rfl, ?_⟩) hHeld ?_
      rotate_left 1
      · intro w' hSw
        go_simp
        try with_reducible rfl
      simp only [Act.put]
      refine wpAnyH_done (by kernel_rfl) ?_ _
      have hB1 : Below w.heap.size w wF := below_over hB hWF
      have e0 := (hWF.cell (cell_lt c0)).trans c0
      have e1 := (hWF.cell (cell_lt c1)).trans c1
      have e2 := (hWF.cell (cell_lt c2)).trans c2
      have q2 := (hWF.frozen (p := ⟨w.heap.size + 1 + 1, 0, none⟩) (cell_lt c2)).trans f2'
      have HK : Hid (KeepsOthers W wF) := keeps_of hWF
      have HKP : Hid (Kp w.heap.size [w.heap.size + 1 + 1 + 1] W wF) := Kp.on hWF hB.size
      clear hHeld hW1 hb1 hWF c0 c1 c2 k0 k1 k2
      rcases hor.out with ⟨rfl, x, hox, _⟩ | ⟨rfl, hox⟩
      · have HH : Hid (Hit (hasM p b) (vals pre ++ [(j : Int)]) (j : Int)) := ⟨vals pre, rfl, hne.out, by rw [HHM.out, hox]; rfl⟩
        clear hor hox
        gi_wp2
        exact ⟨HK.out.trans (KeepsOthers.setCell _ _ _), ⟨rfl, (j : Int), by rw [HV.out]; exact HH, World.cell?_setCell_same' _ _ _ (by rw [e2]; rfl)⟩, hB1.setCell (p := ⟨w.heap.size + 1 + 1, 0, none⟩) (by simp; omega) _⟩
      · have HNE : Hid (∀ y ∈ vals pre ++ [(j : Int)], hasM p b y = false) := fun y hy => (List.mem_append.1 hy).elim (hne.out y) (fun e => by simp at e; subst e; rw [HHM.out, hox]; rfl)
        clear hor hox
        gi_wp2
        exact ⟨HK.out, HKP.out, ⟨by rw [HV.out]; exact HNE, e0, e1, e2, q2⟩, hB1⟩
    · go_simp
      refine hK.out _ _ (HS.out _ (hHeld.1.alloc hHeld.1.size _)) (fun hHeld => ?_)
      clear hK K
      refine wpAnyH_ready (rs := [6]) (by kernel_rfl) (by simp) ?_
      refine AllReadyH.cons rfl (fun K hK => ?_) AllReadyH.nil
      go_simp
      refine (ownMethodR B c z1 z2 t2 c.fields.length t1 b hsl w _ (below_over hB hHeld.1) HSM.out).mono ?_
      rintro e w1 ⟨n, f1, l1, g1, gv, f2, l2, g2, q, rfl, hor, hb1⟩
      have hW1 : Below W.heap.size W w1 := below_over hHeld.1 hb1
      have CX := Cells.on (Cells.new W.drew W.heap.size rfl [.int .i64 0, .slice none 0 0, .int .i64 0, .slice none 0 0] 55) hb1
      dsimp only
      refine hK.out _ _ (HS.out _ hW1) (fun hHeld => ?_)
      clear hK K
      refine wpAnyH_take (i := 7) (v := ?_) rfl (by kernel_rfl) (by kernel_rfl) (by kernel_rfl) (fun _ _ _ h => h) (Or.inl ⟨by rfl, ?_⟩) hHeld ?_
      rotate_left 1
      · intro w' hSw
        go_simp
        try with_reducible rfl
      simp only [Act.put]
      refine wpAnyH_take (i := 8) (v := ?_) rfl (by kernel_rfl) (by kernel_rfl) (by kernel_rfl) (fun _ _ _ h => h) (Or.inl ⟨by rfl, ?_⟩) hHeld ?_
      rotate_left 1
      · intro w' hSw
        go_simp
        try with_reducible rfl
      simp only [Act.put]
      refine wpAnyH_take (i := 9) (v := ?_) rfl (by kernel_rfl) (by kernel_rfl) (by kernel_rfl) (fun _ _ _ h => h) (Or.inl ⟨by rfl, ?_⟩) hHeld ?_
      rotate_left 1
      · intro w' hSw
        go_simp
        try with_reducible rfl
      simp only [Act.put]
      refine wpAnyH_ready (rs := [11]) (by kernel_rfl) (by simp) ?_
      refine AllReadyH.cons rfl (fun K hK => ?_) AllReadyH.nil
      obtain ⟨x0, y0⟩ := CX.g0
      obtain ⟨x1, y1⟩ := CX.g1
      obtain ⟨x2, y2⟩ := CX.g2
      obtain ⟨x3, y3⟩ := CX.g3
      go_simp
      have hWF : Below W.heap.size W ((((w1.setCell ⟨W.heap.size, 0, none⟩ (.int .i64 n)).setCell ⟨W.heap.size, 1, none⟩ (.slice f1 l1 g1)).setCell ⟨W.heap.size, 2, none⟩ (.int .i64 gv)).setCell ⟨W.heap.size, 3, none⟩ (.slice f2 l2 g2)) := (((hW1.setCell (p := ⟨W.heap.size, 0, none⟩) (Nat.le_refl _) _).setCell (p := ⟨W.heap.size, 1, none⟩) (Nat.le_refl _) _).setCell (p := ⟨W.heap.size, 2, none⟩) (Nat.le_refl _) _).setCell (p := ⟨W.heap.size, 3, none⟩) (Nat.le_refl _) _
      refine hK.out _ _ (HS.out _ hWF) (fun hHeld => ?_)
      clear hK K x0 x1 x2 x3 y0 y1 y2 y3 CX
      generalize (((w1.setCell ⟨W.heap.size, 0, none⟩ (.int .i64 n)).setCell ⟨W.heap.size, 1, none⟩ (.slice f1 l1 g1)).setCell ⟨W.heap.size, 2, none⟩ (.int .i64 gv)).setCell ⟨W.heap.size, 3, none⟩ (.slice f2 l2 g2) = wF at *
      refine wpAnyH_take (i := 12) (v := ?_) rfl (by kernel_rfl) (by kernel_rfl) (by kernel_rfl) (fun _ _ _ h => h) (Or.inl ⟨by rfl, ?_⟩) hHeld ?_
      rotate_left 1
      · intro w' hSw
        go_simp
        try with_reducible rfl
      simp only [Act.put]
      refine wpAnyH_done (by kernel_rfl) ?_ _
      have hB1 : Below w.heap.size w wF := below_over hB hWF
      have e0 := (hWF.cell (cell_lt c0)).trans c0
      have e1 := (hWF.cell (cell_lt c1)).trans c1
      have e2 := (hWF.cell (cell_lt c2)).trans c2
      have q2 := (hWF.frozen (p := ⟨w.heap.size + 1 + 1, 0, none⟩) (cell_lt c2)).trans f2'
      have HK : Hid (KeepsOthers W wF) := keeps_of hWF
      have HKP : Hid (Kp w.heap.size [w.heap.size + 1 + 1 + 1] W wF) := Kp.on hWF hB.size
      clear hHeld hW1 hb1 hWF c0 c1 c2 k0 k1 k2
      rcases hor.out with ⟨rfl, x, hox, _⟩ | ⟨rfl, hox⟩
      · have HH : Hid (Hit (hasM p b) (vals pre ++ [(j : Int)]) (j : Int)) := ⟨vals pre, rfl, hne.out, by rw [HHM.out, hox]; rfl⟩
        clear hor hox
        gi_wp2
        exact ⟨HK.out.trans (KeepsOthers.setCell _ _ _), ⟨rfl, (j : Int), by rw [HV.out]; exact HH, World.cell?_setCell_same' _ _ _ (by rw [e2]; rfl)⟩, hB1.setCell (p := ⟨w.heap.size + 1 + 1, 0, none⟩) (by simp; omega) _⟩
      · have HNE : Hid (∀ y ∈ vals pre ++ [(j : Int)], hasM p b y = false) := fun y hy => (List.mem_append.1 hy).elim (hne.out y) (fun e => by simp at e; subst e; rw [HHM.out, hox]; rfl)
        clear hor hox
        gi_wp2
        exact ⟨HK.out, HKP.out, ⟨by rw [HV.out]; exact HNE, e0, e1, e2, q2⟩, hB1⟩
  case done =>
    rintro D ys W hD hys ⟨⟨hne, _, _, hcr, hfr⟩, hB⟩ hK
    gi_wp2
    have hK' := (KeepsOthers.setCell W ⟨w.heap.size + 1 + 1, 0, none⟩ (.int .i64 (-1))).same D _ hK rfl
    refine ⟨by simp, .inl ⟨_, _, rfl, run_takeDeferred hK', ?_⟩⟩
    have hc5 := cell_kept (World.cell?_setCell_same' W ⟨w.heap.size + 1 + 1, 0, none⟩ (.int .i64 (-1)) (by rw [hcr]; rfl)) (grownBy_putObj' _ D (.deferred none)) (fun r e => by cases e; exact ⟨_, hK', rfl⟩)
    refine ⟨.int .i64 (-1), ?_, by rw [show selF p u0 b = -1 from by unfold selF; rw [← hys, find_none' hne.out]; rfl], (hB.setCell (p := ⟨w.heap.size + 1 + 1, 0, none⟩) (by simp; omega) _).trans (belowK_b (w := w) (Nat.le_refl _) _ D _ _ (by simp at hD; omega) hK' rfl rfl)⟩
    simp [results, Tryz.f104, go_sem, hc5]
  case stop =>
    rintro D c pre W hD hpre ⟨⟨rfl, x, hin, hcr⟩, hB⟩ hK
    gi_wp2
    refine ⟨by simp, .inl ⟨_, _, rfl, run_takeDeferred hK, ?_⟩⟩
    have hc5 := cell_kept hcr (grownBy_putObj' _ D (.deferred none)) (fun r e => by cases e; exact ⟨_, hK, rfl⟩)
    refine ⟨.int .i64 x, ?_, by rw [show selF p u0 b = x from by unfold selF; rw [hin.out.find hpre]; rfl], hB.trans (belowK_b (w := w) (Nat.le_refl _) W D _ _ (by simp at hD; omega) hK rfl rfl)⟩
    simp [results, Tryz.f104, go_sem, hc5]
end Pg
end Go.Proofs.YtinanjjhkddikaaGreat

/- The search goes on: what a step and a selection bring. -/
namespace Go.Proofs.YtinanjjhkddikaaGreat
namespace Pg
open Go.ChangeShapes Go.WideShapes Go.ChangeAt Go.RowKit St Wd
/-- What one step must have brought. -/
structure InsQ (p : Prg) (F : List Fd) (i : Tx.Ins) : Prop where
  new : i.1 = 14 → 0 ≤ i.2.1 → i.2.1 < (p.length : Int) → ((0, i.2.1, 0) : Fd) ∈ F
  fld : i.1 = 15 ∨ i.1 = 16 → 0 ≤ i.2.1 → i.2.1 < (p.length : Int) → ((3, i.2.1, 0) : Fd) ∈ F
  call : i.1 = 17 → 0 ≤ i.2.1 → i.2.1 < (p.length : Int) → ((2, i.2.1, i.2.2) : Fd) ∈ F
theorem InsQ.up {p : Prg} {F F' : List Fd} {i : Tx.Ins} (h : InsQ p F i) (hF : ∀ f ∈ F, f ∈ F') : InsQ p F' i :=
  ⟨fun e a b => hF _ (h.new e a b), fun e a b => hF _ (h.fld e a b), fun e a b => hF _ (h.call e a b)⟩
/-- What one step may bring. -/
structure InsP (p : Prg) (i : Tx.Ins) : Prop where
  new : i.1 = 14 → 0 ≤ i.2.1 → i.2.1 < (p.length : Int) → SndF p (0, i.2.1, 0)
  fld : i.1 = 15 ∨ i.1 = 16 → 0 ≤ i.2.1 → i.2.1 < (p.length : Int) → SndF p (3, i.2.1, 0)
  call : i.1 = 17 → 0 ≤ i.2.1 → i.2.1 < (p.length : Int) → SndF p (2, i.2.1, i.2.2)
theorem irow_one (w : World) (x : Int) (t : TypeId) : IRow (w.alloc (.cells #[.int .i64 x] t)) w.heap.size 0 [x] := fun j y hj => by
  match j, hj with
  | 0, hj =>
    simp at hj
    subst hj
    have h : Cells (w.alloc (.cells #[.int .i64 x] t)) w.heap.size [.int .i64 x] := Cells.new w _ rfl _ _
    exact h.g0.1
  | j + 1, hj => simp at hj
/-- One class is needed, out of a slice made for the call. -/
theorem need_one (p : Prg) (hok : okP p = true) (B0 sb mb cap : Nat) (a : Option Addr) (v : Value) (F T : List Fd) (t : Int) (w : World) (hB0 : B0 ≤ w.heap.size) (hS : Srch B0 sb mb (.slice a p.length cap) w v F T) (hP : 0 ≤ t → t < (p.length : Int) → SndF p (3, t, 0)) (ty : TypeId) :
    Calls Tryz.prog 78 #[.pointer (some ⟨sb, 0, none⟩), .slice (some ⟨w.heap.size, 0, none⟩) 1 1] (w.alloc (.cells #[.int .i64 t] ty)) fun e w' => e = .returned (.tuple #[]) ∧ ∃ v' F' T', Adds B0 sb mb (.slice a p.length cap) w v F T (SndF p) w' v' F' T' ∧ (0 ≤ t → t < (p.length : Int) → ((3, t, 0) : Fd) ∈ F') := by
  have hb : Below w.heap.size w (w.alloc (.cells #[.int .i64 t] ty)) := (Below.refl _ _).alloc (Nat.le_refl _) _
  refine (need_at p hok B0 sb mb cap a v F T [t] (some ⟨w.heap.size, 0, none⟩) 1 (by simp) _ (Nat.le_trans hB0 hb.size) (hS.on hb) (fun _ => ⟨_, 0, rfl, irow_one w t ty, hS.far (Nat.le_refl _) (by simp)⟩) (fun s hs h0 h1 => by rw [List.mem_singleton.1 hs] at *; exact hP h0 h1)).mono ?_
  rintro e w' ⟨rfl, v', F', T', h, hm⟩
  exact ⟨rfl, v', F', T', (Adds.start hS hb).trans h, fun h0 h1 => hm t (by simp) h0 h1⟩
set_option maxRecDepth 100000 in
set_option maxHeartbeats 600000 in
theorem selectsE_at (Bp : Nat) (p : Prg) (hok : okP p = true) (hsp : SmallP p) (B0 sb mb cap : Nat) (a : Option Addr) (v : Value) (F T : List Fd) (c : Nat) (hc : c < p.length) (n : Int) (w : World) (hB0 : B0 ≤ w.heap.size) (hS : Srch B0 sb mb (.slice a p.length cap) w v F T) (hsk : SK front Bp w (.slice a p.length cap) p) (hn : 0 ≤ n ∧ n < 20) :
    Calls Tryz.prog 92 #[.pointer (some ⟨sb, 0, none⟩), .int .i64 (c : Int), .int .i64 n] w fun e w' => e = .returned (.tuple #[]) ∧ ∃ v' F' T', Adds B0 sb mb (.slice a p.length cap) w v F T (fun g => ∃ s : Nat, selF p (c : Int) n = (s : Int) ∧ g = (1, (s : Int), n)) w' v' F' T' ∧ ∀ s : Nat, selF p (c : Int) n = (s : Int) → ((1, (s : Int), n) : Fd) ∈ F' := by
  have h6 := (okP_len hok).2
  have HSU : Hid (SupOk p p.length) := okP_sup hok
  have HS : Hid (Srch B0 sb mb (.slice a p.length cap) w v F T) := hS
  have HF : Hid (∀ s : Nat, selF p (c : Int) n = (s : Int) → s < p.length) := fun s hs => by obtain ⟨_, _, h, _⟩ := sel_there hs; exact (List.getElem?_eq_some_iff.1 h).1
  have hs0 := hS.cells.g0.1
  have hcall := selectedFrom Bp p a cap (c : Int) n (by omega) (by omega) hsp h6 HSU.out w hsk
  clear hS hsk
  go_enter Tryz.func92, Tryz.ntmps92
  go_wp2_with fail
  refine hcall.mono ?_
  rintro e w1 ⟨rfl, hb1⟩
  have HA1 : Hid (Adds B0 sb mb (.slice a p.length cap) w v F T (fun g => ∃ s : Nat, selF p (c : Int) n = (s : Int) ∧ g = (1, (s : Int), n)) w1 v F T) := Adds.start HS.out hb1
  have hB1 : B0 ≤ w1.heap.size := Nat.le_trans hB0 hb1.size
  clear hb1 hcall hs0
  obtain ⟨q, hq⟩ : ∃ q, q = selF p (c : Int) n := ⟨_, rfl⟩
  rw [← hq] at HF ⊢
  have HQE : Hid (q = selF p (c : Int) n) := hq
  clear hq
  have hadd := add_at B0 sb mb p.length cap a v F T (1, q, n) (fun h0 h1 => ⟨by dsimp only; omega, by dsimp only; omega, h0, by dsimp only at h1 ⊢; omega, hn.1, hn.2⟩) w1 hB1 HA1.out.st
  go_wp2_with fail
  refine hadd.mono ?_
  rintro e w2 ⟨rfl, v2, F2, T2, hA2, hm2⟩
  have HA2 : Hid (Adds B0 sb mb (.slice a p.length cap) w v F T (fun g => ∃ s : Nat, selF p (c : Int) n = (s : Int) ∧ g = (1, (s : Int), n)) w2 v2 F2 T2) := HA1.out.trans (hA2.imp fun g hg => by obtain ⟨rfl, h0, _⟩ := hg; obtain ⟨s, hs⟩ := Int.eq_ofNat_of_zero_le (show 0 ≤ q from h0); exact ⟨s, HQE.out.symm.trans hs, by rw [hs]⟩)
  have HM2 : Hid (∀ s : Nat, q = (s : Int) → ((1, (s : Int), n) : Fd) ∈ F2) := fun s hs => by
    subst hs
    exact hm2 (show (0 : Int) ≤ (s : Int) by omega) (show (s : Int) < (p.length : Int) by have := HF.out s rfl; omega)
  have HM3 : Hid (∀ s : Nat, selF p (c : Int) n = (s : Int) → ((1, (s : Int), n) : Fd) ∈ F2) := fun s hs => HM2.out s (HQE.out.trans hs)
  clear hA2 hm2 hadd HA1 HM2
  go_wp2
  go_end0
  first | exact ⟨rfl, v2, F2, T2, HA2.out, HM3.out⟩ | exact ⟨rfl, v2, F2, ⟨T2, HA2.out⟩, HM3.out⟩
theorem selects_at (Bp : Nat) (p : Prg) (hok : okP p = true) (hsp : SmallP p) (B0 sb mb cap : Nat) (a : Option Addr) (v : Value) (F T : List Fd) (c : Nat) (hc : c < p.length) (n : Int) (w : World) (hB0 : B0 ≤ w.heap.size) (hS : Srch B0 sb mb (.slice a p.length cap) w v F T) (hsk : SK front Bp w (.slice a p.length cap) p) (hn : 0 ≤ n ∧ n < 20)
    (hP : ∀ s : Nat, selF p (c : Int) n = (s : Int) → SndF p (1, (s : Int), n)) :
    Calls Tryz.prog 92 #[.pointer (some ⟨sb, 0, none⟩), .int .i64 (c : Int), .int .i64 n] w fun e w' => e = .returned (.tuple #[]) ∧ ∃ v' F' T', Adds B0 sb mb (.slice a p.length cap) w v F T (SndF p) w' v' F' T' ∧ ∀ s : Nat, selF p (c : Int) n = (s : Int) → ((1, (s : Int), n) : Fd) ∈ F' := by
  refine (selectsE_at Bp p hok hsp B0 sb mb cap a v F T c hc n w hB0 hS hsk hn).mono ?_
  rintro e w' ⟨rfl, v', F', T', h, hm⟩
  exact ⟨rfl, v', F', T', h.imp (fun g hg => by obtain ⟨s, hs, rfl⟩ := hg; exact hP s hs), hm⟩
set_option maxRecDepth 100000 in
set_option maxHeartbeats 600000 in
theorem followInsn_at (p : Prg) (hok : okP p = true) (B0 sb mb cap : Nat) (a : Option Addr) (v : Value) (F T : List Fd) (i : Tx.Ins) (w : World) (hB0 : B0 ≤ w.heap.size) (hS : Srch B0 sb mb (.slice a p.length cap) w v F T) (hP : InsP p i) :
    Calls Tryz.prog 95 #[.pointer (some ⟨sb, 0, none⟩), .agg #[.int .i64 i.1, .int .i64 i.2.1, .int .i64 i.2.2]] w fun e w' => e = .returned (.tuple #[]) ∧ ∃ v' F' T', Adds B0 sb mb (.slice a p.length cap) w v F T (SndF p) w' v' F' T' ∧ InsQ p F' i := by
  obtain ⟨op, A, B⟩ := i
  dsimp only
  obtain ⟨V, hV⟩ : ∃ V, V = w.alloc (.cells #[.int .i64 op, .int .i64 A, .int .i64 B] 73) := ⟨_, rfl⟩
  have hwV : Below w.heap.size w V := by rw [hV]; exact (Below.refl _ _).alloc (Nat.le_refl _) _
  have IC : Hid (Cells V w.heap.size [.int .i64 op, .int .i64 A, .int .i64 B]) := by rw [hV]; exact Cells.new w _ rfl _ _
  have HA : Hid (Adds B0 sb mb (.slice a p.length cap) w v F T (SndF p) V v F T) := Adds.start hS hwV
  have HP : Hid (InsP p (op, A, B)) := hP
  have hBV : B0 ≤ V.heap.size := Nat.le_trans hB0 hwV.size
  clear hS hP
  have i0 : (w.alloc (.cells #[.int .i64 op, .int .i64 A, .int .i64 B] 73)).cell? ⟨w.heap.size, 0, none⟩ = some (.int .i64 op) := by rw [← hV]; exact IC.out.g0.1
  have i1 : (w.alloc (.cells #[.int .i64 op, .int .i64 A, .int .i64 B] 73)).cell? ⟨w.heap.size, 1, none⟩ = some (.int .i64 A) := by rw [← hV]; exact IC.out.g1.1
  have i2 : (w.alloc (.cells #[.int .i64 op, .int .i64 A, .int .i64 B] 73)).cell? ⟨w.heap.size, 2, none⟩ = some (.int .i64 B) := by rw [← hV]; exact IC.out.g2.1
  clear IC
  go_enter Tryz.func95, Tryz.ntmps95
  by_cases h14 : op = 14
  · subst h14
    have hadd := add_s p hok B0 sb mb cap a v F T (0, A, 0) (fun h0 h1 => HP.out.new rfl h0 h1) V hBV HA.out.st
    go_wp2_with fail
    rw [← hV]
    clear i0 i1 i2
    refine hadd.mono ?_
    rintro e w2 ⟨rfl, v2, F2, T2, hA2, hm2⟩
    have HA2 : Hid (Adds B0 sb mb (.slice a p.length cap) w v F T (SndF p) w2 v2 F2 T2) := HA.out.trans hA2
    have HM2 : Hid (InsQ p F2 (14, A, B)) := ⟨fun _ h0 h1 => hm2 h0 h1, fun e => by simp at e, fun e => by simp at e⟩
    clear hA2 hm2 hadd HA hV
    go_wp2
    go_end0
    first | exact ⟨rfl, v2, F2, T2, HA2.out, HM2.out⟩ | exact ⟨rfl, v2, F2, ⟨T2, HA2.out⟩, HM2.out⟩
  · by_cases h15 : op = 15 ∨ op = 16
    · have hnd := need_one p hok B0 sb mb cap a v F T A V hBV HA.out.st (fun h0 h1 => HP.out.fld h15 h0 h1) 2
      rw [show V.heap.size = w.heap.size + 1 by rw [hV]; simp] at hnd
      have HQ : Hid (∀ F2, (0 ≤ A → A < (p.length : Int) → ((3, A, 0) : Fd) ∈ F2) → InsQ p F2 (op, A, B)) := fun F2 h => ⟨fun e => absurd e h14, fun _ h0 h1 => h h0 h1, fun e => by dsimp only at e; omega⟩
      rcases h15 with rfl | rfl
      all_goals
        go_wp2_with fail
        rw [← hV]
        clear i0 i1 i2
        refine hnd.mono ?_
        rintro e w2 ⟨rfl, v2, F2, T2, hA2, hm2⟩
        have HA2 : Hid (Adds B0 sb mb (.slice a p.length cap) w v F T (SndF p) w2 v2 F2 T2) := HA.out.trans hA2
        have HM2 := hidS (HQ.out F2 hm2)
        clear hA2 hm2 hnd HA hV HQ
        go_wp2
        go_end0
        first | exact ⟨rfl, v2, F2, T2, HA2.out, HM2.out⟩ | exact ⟨rfl, v2, F2, ⟨T2, HA2.out⟩, HM2.out⟩
    · have h15' : ¬ op = 15 := fun e => h15 (.inl e)
      have h16 : ¬ op = 16 := fun e => h15 (.inr e)
      by_cases h17 : op = 17
      · subst h17
        have hadd := add_s p hok B0 sb mb cap a v F T (2, A, B) (fun h0 h1 => HP.out.call rfl h0 h1) V hBV HA.out.st
        go_wp2_with fail
        rw [← hV]
        clear i0 i1 i2
        refine hadd.mono ?_
        rintro e w2 ⟨rfl, v2, F2, T2, hA2, hm2⟩
        have HA2 : Hid (Adds B0 sb mb (.slice a p.length cap) w v F T (SndF p) w2 v2 F2 T2) := HA.out.trans hA2
        have HM2 : Hid (InsQ p F2 (17, A, B)) := ⟨fun e => by simp at e, fun e => by simp at e, fun _ h0 h1 => hm2 h0 h1⟩
        clear hA2 hm2 hadd HA hV
        go_wp2
        go_end0
        first | exact ⟨rfl, v2, F2, T2, HA2.out, HM2.out⟩ | exact ⟨rfl, v2, F2, ⟨T2, HA2.out⟩, HM2.out⟩
      · have HM2 : Hid (InsQ p F (op, A, B)) := ⟨fun e => absurd e h14, fun e => absurd e h15, fun e => absurd e h17⟩
        go_wp2
        rw [← hV]
        go_end0
        first | exact ⟨rfl, v, F, T, HA.out, HM2.out⟩ | exact ⟨rfl, v, F, ⟨T, HA.out⟩, HM2.out⟩
end Pg
end Go.Proofs.YtinanjjhkddikaaGreat
