/- Contracts of the program's questions that go up: the lowest that is above two, and what is selected. -/
import Derived.Test.YtinanjjhkddikaaGreatJJSg0
import Derived.Test.YtinanjjhkddikaaGreatJJHi1
import Derived.Deep.RegionHeld3
import Derived.OrdersIn
import Derived.Test.YtinanjjhkddikaaGreatJJLo0
import Derived.BigQuiet
namespace Go.Proofs.YtinanjjhkddikaaGreat
namespace Pg
open Go.ChangeShapes Go.WideShapes Go.ChangeAt Go.RowKit Go.Shelf St
attribute [local go_sem] Oper.semAt_some

theorem find_none' {α : Type} {f : α → Bool} {l : List α} (h : ∀ y ∈ l, f y = false) : l.find? f = none := by
  rw [List.find?_eq_none]; intro x hx; rw [h x hx]; simp
theorem find_pre {α : Type} {f : α → Bool} {l pre : List α} {x : α} (hp : pre ++ [x] <+: l) (h : ∀ y ∈ pre, f y = false) (hx : f x = true) : l.find? f = some x := by
  obtain ⟨r, rfl⟩ := hp
  rw [List.find?_append, List.find?_append, find_none' h]
  simp [hx]
/-- The round that leaves: none before was one, this one is. -/
def Hit (f : Int → Bool) (pre : List Int) (x : Int) : Prop := ∃ q, pre = q ++ [x] ∧ (∀ y ∈ q, f y = false) ∧ f x = true
theorem Hit.find {f : Int → Bool} {pre l : List Int} {x : Int} (h : Hit f pre x) (hp : pre <+: l) : l.find? f = some x := by
  obtain ⟨q, rfl, h1, h2⟩ := h
  exact find_pre hp h1 h2

end Pg
end Go.Proofs.YtinanjjhkddikaaGreat

/- A region that draws its order, in a round of a loop over a function: as in a plain body. -/
namespace Go.Proofs.YtinanjjhkddikaaGreat
namespace Pg
open Go.ChangeShapes Go.WideShapes Go.ChangeAt Go.RowKit Go.Shelf St

end Pg
end Go.Proofs.YtinanjjhkddikaaGreat

/- Contract of the program's selection of a method. -/
namespace Go.Proofs.YtinanjjhkddikaaGreat
namespace Pg
open Go.ChangeShapes Go.WideShapes Go.ChangeAt Go.RowKit Go.Shelf St
attribute [local go_sem] Oper.semAt_some

set_option maxRecDepth 100000 in
set_option maxHeartbeats 2000000 in
theorem selectedFrom (B : Nat) (p : Prg) (a : Option Addr) (cap : Nat) (u0 b : Int) (hu0 : -1 ≤ u0) (hu1 : u0 < (p.length : Int)) (hsp : SmallP p) (h6 : p.length ≤ 6) (hsup : SupOk p p.length) (w : World) (hp : SK front B w (.slice a p.length cap) p) :
    Calls Tryz.prog 104 #[.agg #[.slice a p.length cap], .int .i64 u0, .int .i64 b] w fun e w' => e = .returned (.int .i64 (selF p u0 b)) ∧ Below w.heap.size w w' := by
  have HP : Hid (SK front B w (.slice a p.length cap) p) := hp
  have HSUP : Hid (SupOk p p.length) := hsup
  have HSP : Hid (SmallP p) := hsp
  clear hp hsup hsp
  refine (callsIn_wide (n := 4)).1 ?_
  refine callsIn_of_wp_marks Tryz.func104 rfl trivial ?_ rfl
  simp only [Tryz.ntmps104, List.size_toArray, List.length_cons, List.length_nil, Nat.reduceAdd, Nat.reduceSub, Array.replicate_succ, Array.replicate_zero, List.push_toArray, List.append_toArray, List.nil_append, List.cons_append]
  gi_wp2_with (refine ⟨trivial, ?_⟩; gi_at_call 91; refine (upFrom_in _ a p.length cap u0 _).mono ?_; rintro e w' ⟨rfl, rfl⟩)
  have b0 := Boxed.new w 30 (.slice a p.length cap)
  have b1 := Boxed.new (w.alloc (.cells #[.slice a p.length cap] 30)) 2 (.int .i64 b)
  have b2 := Boxed.new ((w.alloc (.cells #[.slice a p.length cap] 30)).alloc (.cells #[.int .i64 b] 2)) 2 (.int .i64 0)
  have b3 := Boxed.new (((w.alloc (.cells #[.slice a p.length cap] 30)).alloc (.cells #[.int .i64 b] 2)).alloc (.cells #[.int .i64 0] 2)) 30 (.slice a p.length cap)
  have b4 := Boxed.new ((((w.alloc (.cells #[.slice a p.length cap] 30)).alloc (.cells #[.int .i64 b] 2)).alloc (.cells #[.int .i64 0] 2)).alloc (.cells #[.slice a p.length cap] 30)) 2 (.int .i64 u0)
  simp only [World.size_alloc] at b1 b2 b3 b4
  have hB0 : Below w.heap.size w (((((w.alloc (.cells #[.slice a p.length cap] 30)).alloc (.cells #[.int .i64 b] 2)).alloc (.cells #[.int .i64 0] 2)).alloc (.cells #[.slice a p.length cap] 30)).alloc (.cells #[.int .i64 u0] 2)) := (((((Below.refl _ w).alloc (Nat.le_refl _) _).alloc (by simp) _).alloc (by simp; omega) _).alloc (by simp; omega) _).alloc (by simp; omega) _
  refine wpIn_rangeFunc_ownF rfl (show 1 ≤ 4 by omega) (gf := 103) (lb := #[.pointer (some ⟨w.heap.size + 1 + 1 + 1 + 1, 0, none⟩), .pointer (some ⟨w.heap.size + 1 + 1 + 1, 0, none⟩)]) rfl trivial (enters_of Tryz.func103 (by kernel_rfl) rfl)
    (up_stopsC _ (by omega) (w.heap.size + 1 + 1 + 1 + 1) (w.heap.size + 1 + 1 + 1) B p a cap u0 hu0 hu1 h6 HSUP.out w _ HP.out hB0 b4.cell (b3.alloc _)) kp_t (kp_b (by simp; omega) (by simp)) (Below.refl _ _) (fun _ => rfl)
    (fun pre W => (Hid (∀ y ∈ vals pre, hasM p b y = false) ∧ W.cell? ⟨w.heap.size, 0, none⟩ = some (.slice a p.length cap) ∧ W.cell? ⟨w.heap.size + 1, 0, none⟩ = some (.int .i64 b) ∧ W.cell? ⟨w.heap.size + 1 + 1, 0, none⟩ = some (.int .i64 0) ∧ W.frozen? ⟨w.heap.size + 1 + 1, 0, none⟩ = false) ∧ Below w.heap.size w W)
    (fun c pre W => (c = .ret ∧ ∃ x, Hid (Hit (hasM p b) (vals pre) x) ∧ W.cell? ⟨w.heap.size + 1 + 1, 0, none⟩ = some (.int .i64 x)) ∧ Below w.heap.size w W)
    (OwnFrom.and (Own.from (fun s A B row hs hg hr => ⟨hs.1, cell_kept hs.2.1 hg hr, cell_kept hs.2.2.1 hg hr, cell_kept hs.2.2.2.1 hg hr, (frozen_kept hs.2.2.2.1 hg hr).trans hs.2.2.2.2⟩) _) (ownFrom_below (Nat.le_refl _) (by simp; omega)))
    (fun c => OwnFrom.and (Own.from (fun s A B row hs hg hr => ⟨hs.1, hs.2.elim fun x hx => ⟨x, hx.1, cell_kept hx.2 hg hr⟩⟩) _) (ownFrom_below (Nat.le_refl _) (by simp; omega)))
    ⟨⟨fun _ h => absurd h (by simp [vals]), ((((b0.alloc _).alloc _).alloc _).alloc _).cell, (((b1.alloc _).alloc _).alloc _).cell, ((b2.alloc _).alloc _).cell, ((b2.alloc _).alloc _).frozen⟩, hB0⟩
    (fun x => { tmps := #[.agg #[.slice a p.length cap], .int .i64 u0, .int .i64 b, .pointer (some ⟨w.heap.size, 0, none⟩), undef, .pointer (some ⟨w.heap.size + 1, 0, none⟩), .pointer (some ⟨w.heap.size + 1 + 1, 0, none⟩), .int .i64 x.1, undef, undef, .agg #[.slice a p.length cap], .int .i64 u0, .func (.func 103) #[] #[.pointer (some ⟨w.heap.size + 1 + 1 + 1 + 1, 0, none⟩), .pointer (some ⟨w.heap.size + 1 + 1 + 1, 0, none⟩)], .int .i64 x.1, undef, undef, undef, undef, undef, undef, undef, undef, undef, undef, undef, undef], defers := [] }) ?assign ?body ?done ?stop
  case assign =>
    intro l x W K hK
    gi_wp2
    exact hK
  case body =>
    rintro l pre x W ⟨⟨hne, c0, c1, c2, f2'⟩, hB⟩ _
    have HV : Hid (vals (pre ++ [x]) = vals pre ++ [x.1]) := vals_snoc pre x
    obtain ⟨xv, hx0, hx1⟩ := x
    obtain ⟨j, rfl⟩ := Int.eq_ofNat_of_zero_le hx0
    clear b0 b1 b2 b3 b4 hB0
    have hjp : j < p.length := by omega
    obtain ⟨b', o, rfl, _, vf, vm, d0, d1, d2, hcv⟩ := HP.out.get hjp
    obtain ⟨z1, t1, rfl⟩ := hcv.1.form
    obtain ⟨z2, t2, rfl⟩ := hcv.2.form
    have l0 : b' < w.heap.size := cell_lt d0
    have k0 := (hB.cell l0).trans d0
    have k1 := (hB.cell l0).trans d1
    have k2 := (hB.cell l0).trans d2
    have HSM : Hid (SM front B w (.slice z2 p[j].meths.length t2) p[j].meths) := hcv.2
    have hsm := HSP.out.2 _ (List.getElem_mem hjp)
    have hsl := hsm.2.1
    have HHM : Hid (hasM p b (j : Int) = (ownF p[j] b).isSome) := by
      show _ = _
      unfold hasM
      rw [Int.toNat_natCast, List.getElem?_eq_getElem hjp]
    generalize p[j] = c at *
    clear hcv hsm d0 d1 d2
    dsimp only at HV ⊢
    have lb : b' < W.heap.size := Nat.lt_of_lt_of_le l0 hB.size
    have HS : Hid (∀ w', Below W.heap.size W w' → Below W.heap.size W w' ∧ w'.cell? ⟨w.heap.size, 0, none⟩ = some (.slice (some ⟨b', o, none⟩) p.length cap) ∧ w'.cell? ⟨w.heap.size + 1, 0, none⟩ = some (.int .i64 b) ∧ w'.cell? ⟨b', o + j * 3, none⟩ = some (.int .i64 c.super) ∧ w'.cell? ⟨b', o + j * 3 + 1, none⟩ = some (.slice z1 c.fields.length t1) ∧ w'.cell? ⟨b', o + j * 3 + 2, none⟩ = some (.slice z2 c.meths.length t2)) := fun w' h =>
      ⟨h, (h.cell (cell_lt c0)).trans c0, (h.cell (cell_lt c1)).trans c1, (h.cell lb).trans k0, (h.cell lb).trans k1, (h.cell lb).trans k2⟩
    gi_wp2_with fail
    refine round_held (S := fun w' => Below W.heap.size W w' ∧ w'.cell? ⟨w.heap.size, 0, none⟩ = some (.slice (some ⟨b', o, none⟩) p.length cap) ∧ w'.cell? ⟨w.heap.size + 1, 0, none⟩ = some (.int .i64 b) ∧ w'.cell? ⟨b', o + j * 3, none⟩ = some (.int .i64 c.super) ∧ w'.cell? ⟨b', o + j * 3 + 1, none⟩ = some (.slice z1 c.fields.length t1) ∧ w'.cell? ⟨b', o + j * 3 + 2, none⟩ = some (.slice z2 c.meths.length t2)) (by kernel_rfl) (by simp) (fun ⟨_, _, h⟩ => h) (HS.out _ (Below.refl _ _).drew) (fun hHeld => ?_)
    refine wpAnyH_take (i := 0) (v := ?_) rfl (by kernel_rfl) (by kernel_rfl) (by kernel_rfl) (fun _ _ _ h => h) (Or.inl ⟨by rfl, ?_⟩) hHeld ?_
    rotate_left 1
    · intro w' hSw
      obtain ⟨_, s0, s1, s2, s3, s4⟩ := hSw
      go_simp
      try with_reducible rfl
    simp only [Act.put]
    refine wpAnyH_take (i := 1) (v := ?_) rfl (by kernel_rfl) (by kernel_rfl) (by kernel_rfl) (fun _ _ _ h => h) (Or.inl ⟨by rfl, ?_⟩) hHeld ?_
    rotate_left 1
    · intro w' hSw
      obtain ⟨_, s0, s1, s2, s3, s4⟩ := hSw
      go_simp
      try with_reducible rfl
    simp only [Act.put]
    refine wpAnyH_take (i := 2) (v := ?_) rfl (by kernel_rfl) (by kernel_rfl) (by kernel_rfl) (fun _ _ _ h => h) (Or.inl ⟨by rfl, ?_⟩) hHeld ?_
    rotate_left 1
    · intro w' hSw
      obtain ⟨_, s0, s1, s2, s3, s4⟩ := hSw
      go_simp
      try with_reducible rfl
    simp only [Act.put]
    refine wpAnyH_take (i := 3) (v := ?_) rfl (by kernel_rfl) (by kernel_rfl) (by kernel_rfl) (fun _ _ _ h => h) (Or.inl ⟨by rfl, ?_⟩) hHeld ?_
    rotate_left 1
    · intro w' hSw
      obtain ⟨_, s0, s1, s2, s3, s4⟩ := hSw
      go_simp
      try with_reducible rfl
    simp only [Act.put]
    refine wpAnyH_take (i := 4) (v := ?_) rfl (by kernel_rfl) (by kernel_rfl) (by kernel_rfl) (fun _ _ _ h => h) (Or.inl ⟨by rfl, ?_⟩) hHeld ?_
    rotate_left 1
    · intro w' hSw
      obtain ⟨_, s0, s1, s2, s3, s4⟩ := hSw
      go_simp
      try with_reducible rfl
    simp only [Act.put]
    refine wpAnyH_take (i := 5) (v := ?_) rfl (by kernel_rfl) (by kernel_rfl) (by kernel_rfl) (fun _ _ _ h => h) (Or.inl ⟨by rfl, ?_⟩) hHeld ?_
    rotate_left 1
    · intro w' hSw
      obtain ⟨_, s0, s1, s2, s3, s4⟩ := hSw
      go_simp
      try with_reducible rfl
    simp only [Act.put]
    refine wpAnyH_ready (rs := [6, 10]) (by kernel_rfl) (by simp) ?_
    refine AllReadyH.cons rfl (fun K hK => ?_) (AllReadyH.cons rfl (fun K hK => ?_) AllReadyH.nil)
    · go_simp
      refine (ownMethodR B c z1 z2 t2 c.fields.length t1 b hsl w _ (below_over hB hHeld.1) HSM.out).mono ?_
      rintro e w1 ⟨n, f1, l1, g1, gv, f2, l2, g2, q, rfl, hor, hb1⟩
      have hW1 : Below W.heap.size W w1 := below_over hHeld.1 hb1
      dsimp only
      refine hK.out _ _ (HS.out _ hW1) (fun hHeld => ?_)
      clear hK K
      refine wpAnyH_take (i := 7) (v := ?_) rfl (by kernel_rfl) (by kernel_rfl) (by kernel_rfl) (fun _ _ _ h => h) (Or.inl ⟨by rfl, ?_⟩) hHeld ?_
      rotate_left 1
      · intro w' hSw
        go_simp
        try with_reducible rfl
      simp only [Act.put]
      refine wpAnyH_take (i := 8) (v := ?_) rfl (by kernel_rfl) (by kernel_rfl) (by kernel_rfl) (fun _ _ _ h => h) (Or.inl ⟨by rfl, ?_⟩) hHeld ?_
      rotate_left 1
      · intro w' hSw
        go_simp
        try with_reducible rfl
      simp only [Act.put]
      refine wpAnyH_take (i := 9) (v := ?_) rfl (by kernel_rfl) (by kernel_rfl) (by kernel_rfl) (fun _ _ _ h => h) (Or.inl ⟨by rfl, ?_⟩) hHeld ?_
      rotate_left 1
      · intro w' hSw
        go_simp
        try with_reducible rfl
      simp only [Act.put]
      refine wpAnyH_ready (rs := [10]) (by kernel_rfl) (by simp) ?_
      refine AllReadyH.cons rfl (fun K hK => ?_) AllReadyH.nil
      go_simp
      refine hK.out _ _ (HS.out _ (hW1.alloc hW1.size _)) (fun hHeld => ?_)
      clear hK K
      refine wpAnyH_ready (rs := [11]) (by kernel_rfl) (by simp) ?_
      refine AllReadyH.cons rfl (fun K hK => ?_) AllReadyH.nil
      have CX := Cells.new w1 w1.heap.size rfl [.int .i64 0, .slice none 0 0, .int .i64 0, .slice none 0 0] 55
      obtain ⟨x0, y0⟩ := CX.g0
      obtain ⟨x1, y1⟩ := CX.g1
      obtain ⟨x2, y2⟩ := CX.g2
      obtain ⟨x3, y3⟩ := CX.g3
      go_simp
      have hWF : Below W.heap.size W (w1.alloc (.cells #[.int .i64 n, .slice f1 l1 g1, .int .i64 gv, .slice f2 l2 g2] 55)) := hW1.alloc hW1.size _
      refine hK.out _ _ (HS.out _ hWF) (fun hHeld => ?_)
      clear hK K x0 x1 x2 x3 y0 y1 y2 y3 CX
      generalize w1.alloc (.cells #[.int .i64 n, .slice f1 l1 g1, .int .i64 gv, .slice f2 l2 g2] 55) = wF at *
      refine wpAnyH_take (i := 12) (v := ?_) rfl (by kernel_rfl) (by kernel_rfl) (by kernel_rfl) (fun _ _ _ h => h) (Or.inl ⟨by rfl, ?_⟩) hHeld ?_
      rotate_left 1
      · intro w' hSw
        go_simp
        try with_reducible rfl
      simp only [Act.put]
      refine wpAnyH_done (by kernel_rfl) ?_ _
      have hB1 : Below w.heap.size w wF := below_over hB hWF
      have e0 := (hWF.cell (cell_lt c0)).trans c0
      have e1 := (hWF.cell (cell_lt c1)).trans c1
      have e2 := (hWF.cell (cell_lt c2)).trans c2
      have q2 := (hWF.frozen (p := ⟨w.heap.size + 1 + 1, 0, none⟩) (cell_lt c2)).trans f2'
      have HK : Hid (KeepsOthers W wF) := keeps_of hWF
      have HKP : Hid (Kp w.heap.size [w.heap.size + 1 + 1 + 1] W wF) := Kp.on hWF hB.size
      clear hHeld hW1 hb1 hWF c0 c1 c2 k0 k1 k2
      rcases hor.out with ⟨rfl, x, hox, _⟩ | ⟨rfl, hox⟩
      · have HH : Hid (Hit (hasM p b) (vals pre ++ [(j : Int)]) (j : Int)) := ⟨vals pre, rfl, hne.out, by rw [HHM.out, hox]; rfl⟩
        clear hor hox
        gi_wp2
        exact ⟨HK.out.trans (KeepsOthers.setCell _ _ _), ⟨rfl, (j : Int), by rw [HV.out]; exact HH, World.cell?_setCell_same' _ _ _ (by rw [e2]; rfl)⟩, hB1.setCell (p := ⟨w.heap.size + 1 + 1, 0, none⟩) (by simp; omega) _⟩
      · have HNE : Hid (∀ y ∈ vals pre ++ [(j : Int)], hasM p b y = false) := fun y hy => (List.mem_append.1 hy).elim (hne.out y) (fun e => by simp at e; subst e; rw [HHM.out, hox]; rfl)
        clear hor hox
        gi_wp2
        exact ⟨HK.out, HKP.out, ⟨by rw [HV.out]; exact HNE, e0, e1, e2, q2⟩, hB1⟩
    · go_simp
      refine hK.out _ _ (HS.out _ (hHeld.1.alloc hHeld.1.size _)) (fun hHeld => ?_)
      clear hK K
      refine wpAnyH_ready (rs := [6]) (by kernel_rfl) (by simp) ?_
      refine AllReadyH.cons rfl (fun K hK => ?_) AllReadyH.nil
      go_simp
      refine (ownMethodR B c z1 z2 t2 c.fields.length t1 b hsl w _ (below_over hB hHeld.1) HSM.out).mono ?_
      rintro e w1 ⟨n, f1, l1, g1, gv, f2, l2, g2, q, rfl, hor, hb1⟩
      have hW1 : Below W.heap.size W w1 := below_over hHeld.1 hb1
      have CX := Cells.on (Cells.new W.drew W.heap.size rfl [.int .i64 0, .slice none 0 0, .int .i64 0, .slice none 0 0] 55) hb1
      dsimp only
      refine hK.out _ _ (HS.out _ hW1) (fun hHeld => ?_)
      clear hK K
      refine wpAnyH_take (i := 7) (v := ?_) rfl (by kernel_rfl) (by kernel_rfl) (by kernel_rfl) (fun _ _ _ h => h) (Or.inl ⟨by rfl, ?_⟩) hHeld ?_
      rotate_left 1
      · intro w' hSw
        go_simp
        try with_reducible rfl
      simp only [Act.put]
      refine wpAnyH_take (i := 8) (v := ?_) rfl (by kernel_rfl) (by kernel_rfl) (by kernel_rfl) (fun _ _ _ h => h) (Or.inl ⟨by rfl, ?_⟩) hHeld ?_
      rotate_left 1
      · intro w' hSw
        go_simp
        try with_reducible rfl
      simp only [Act.put]
      refine wpAnyH_take (i := 9) (v := ?_) rfl (by kernel_rfl) (by kernel_rfl) (by kernel_rfl) (fun _ _ _ h => h) (Or.inl ⟨by rfl, ?_⟩) hHeld ?_
      rotate_left 1
      · intro w' hSw
        go_simp
        try with_reducible rfl
      simp only [Act.put]
      refine wpAnyH_ready (rs := [11]) (by kernel_rfl) (by simp) ?_
      refine AllReadyH.cons rfl (fun K hK => ?_) AllReadyH.nil
      obtain ⟨x0, y0⟩ := CX.g0
      obtain ⟨x1, y1⟩ := CX.g1
      obtain ⟨x2, y2⟩ := CX.g2
      obtain ⟨x3, y3⟩ := CX.g3
      go_simp
      have hWF : Below W.heap.size W ((((w1.setCell ⟨W.heap.size, 0, none⟩ (.int .i64 n)).setCell ⟨W.heap.size, 1, none⟩ (.slice f1 l1 g1)).setCell ⟨W.heap.size, 2, none⟩ (.int .i64 gv)).setCell ⟨W.heap.size, 3, none⟩ (.slice f2 l2 g2)) := (((hW1.setCell (p := ⟨W.heap.size, 0, none⟩) (Nat.le_refl _) _).setCell (p := ⟨W.heap.size, 1, none⟩) (Nat.le_refl _) _).setCell (p := ⟨W.heap.size, 2, none⟩) (Nat.le_refl _) _).setCell (p := ⟨W.heap.size, 3, none⟩) (Nat.le_refl _) _
      refine hK.out _ _ (HS.out _ hWF) (fun hHeld => ?_)
      clear hK K x0 x1 x2 x3 y0 y1 y2 y3 CX
      generalize (((w1.setCell ⟨W.heap.size, 0, none⟩ (.int .i64 n)).setCell ⟨W.heap.size, 1, none⟩ (.slice f1 l1 g1)).setCell ⟨W.heap.size, 2, none⟩ (.int .i64 gv)).setCell ⟨W.heap.size, 3, none⟩ (.slice f2 l2 g2) = wF at *
      refine wpAnyH_take (i := 12) (v := ?_) rfl (by kernel_rfl) (by kernel_rfl) (by kernel_rfl) (fun _ _ _ h => h) (Or.inl ⟨by rfl, ?_⟩) hHeld ?_
      rotate_left 1
      · intro w' hSw
        go_simp
        try with_reducible rfl
      simp only [Act.put]
      refine wpAnyH_done (by kernel_rfl) ?_ _
      have hB1 : Below w.heap.size w wF := below_over hB hWF
      have e0 := (hWF.cell (cell_lt c0)).trans c0
      have e1 := (hWF.cell (cell_lt c1)).trans c1
      have e2 := (hWF.cell (cell_lt c2)).trans c2
      have q2 := (hWF.frozen (p := ⟨w.heap.size + 1 + 1, 0, none⟩) (cell_lt c2)).trans f2'
      have HK : Hid (KeepsOthers W wF) := keeps_of hWF
      have HKP : Hid (Kp w.heap.size [w.heap.size + 1 + 1 + 1] W wF) := Kp.on hWF hB.size
      clear hHeld hW1 hb1 hWF c0 c1 c2 k0 k1 k2
      rcases hor.out with ⟨rfl, x, hox, _⟩ | ⟨rfl, hox⟩
      · have HH : Hid (Hit (hasM p b) (vals pre ++ [(j : Int)]) (j : Int)) := ⟨vals pre, rfl, hne.out, by rw [HHM.out, hox]; rfl⟩
        clear hor hox
        gi_wp2
        exact ⟨HK.out.trans (KeepsOthers.setCell _ _ _), ⟨rfl, (j : Int), by rw [HV.out]; exact HH, World.cell?_setCell_same' _ _ _ (by rw [e2]; rfl)⟩, hB1.setCell (p := ⟨w.heap.size + 1 + 1, 0, none⟩) (by simp; omega) _⟩
      · have HNE : Hid (∀ y ∈ vals pre ++ [(j : Int)], hasM p b y = false) := fun y hy => (List.mem_append.1 hy).elim (hne.out y) (fun e => by simp at e; subst e; rw [HHM.out, hox]; rfl)
        clear hor hox
        gi_wp2
        exact ⟨HK.out, HKP.out, ⟨by rw [HV.out]; exact HNE, e0, e1, e2, q2⟩, hB1⟩
  case done =>
    rintro D ys W hD hys ⟨⟨hne, _, _, hcr, hfr⟩, hB⟩ hK
    gi_wp2
    have hK' := (KeepsOthers.setCell W ⟨w.heap.size + 1 + 1, 0, none⟩ (.int .i64 (-1))).same D _ hK rfl
    refine ⟨by simp, .inl ⟨_, _, rfl, run_takeDeferred hK', ?_⟩⟩
    have hc5 := cell_kept (World.cell?_setCell_same' W ⟨w.heap.size + 1 + 1, 0, none⟩ (.int .i64 (-1)) (by rw [hcr]; rfl)) (grownBy_putObj' _ D (.deferred none)) (fun r e => by cases e; exact ⟨_, hK', rfl⟩)
    refine ⟨.int .i64 (-1), ?_, by rw [show selF p u0 b = -1 from by unfold selF; rw [← hys, find_none' hne.out]; rfl], (hB.setCell (p := ⟨w.heap.size + 1 + 1, 0, none⟩) (by simp; omega) _).trans (belowK_b (w := w) (Nat.le_refl _) _ D _ _ (by simp at hD; omega) hK' rfl rfl)⟩
    simp [results, Tryz.f104, go_sem, hc5]
  case stop =>
    rintro D c pre W hD hpre ⟨⟨rfl, x, hin, hcr⟩, hB⟩ hK
    gi_wp2
    refine ⟨by simp, .inl ⟨_, _, rfl, run_takeDeferred hK, ?_⟩⟩
    have hc5 := cell_kept hcr (grownBy_putObj' _ D (.deferred none)) (fun r e => by cases e; exact ⟨_, hK, rfl⟩)
    refine ⟨.int .i64 x, ?_, by rw [show selF p u0 b = x from by unfold selF; rw [hin.out.find hpre]; rfl], hB.trans (belowK_b (w := w) (Nat.le_refl _) W D _ _ (by simp at hD; omega) hK rfl rfl)⟩
    simp [results, Tryz.f104, go_sem, hc5]
end Pg
end Go.Proofs.YtinanjjhkddikaaGreat

/- The search goes on: what a step and a selection bring. -/
namespace Go.Proofs.YtinanjjhkddikaaGreat
namespace Pg
open Go.ChangeShapes Go.WideShapes Go.ChangeAt Go.RowKit St Wd
/-- What one step must have brought. -/
structure InsQ (p : Prg) (F : List Fd) (i : Tx.Ins) : Prop where
  new : i.1 = 14 → 0 ≤ i.2.1 → i.2.1 < (p.length : Int) → ((0, i.2.1, 0) : Fd) ∈ F
  fld : i.1 = 15 ∨ i.1 = 16 → 0 ≤ i.2.1 → i.2.1 < (p.length : Int) → ((3, i.2.1, 0) : Fd) ∈ F
  call : i.1 = 17 → 0 ≤ i.2.1 → i.2.1 < (p.length : Int) → ((2, i.2.1, i.2.2) : Fd) ∈ F
theorem InsQ.up {p : Prg} {F F' : List Fd} {i : Tx.Ins} (h : InsQ p F i) (hF : ∀ f ∈ F, f ∈ F') : InsQ p F' i :=
  ⟨fun e a b => hF _ (h.new e a b), fun e a b => hF _ (h.fld e a b), fun e a b => hF _ (h.call e a b)⟩
/-- What one step may bring. -/
structure InsP (p : Prg) (i : Tx.Ins) : Prop where
  new : i.1 = 14 → 0 ≤ i.2.1 → i.2.1 < (p.length : Int) → SndF p (0, i.2.1, 0)
  fld : i.1 = 15 ∨ i.1 = 16 → 0 ≤ i.2.1 → i.2.1 < (p.length : Int) → SndF p (3, i.2.1, 0)
  call : i.1 = 17 → 0 ≤ i.2.1 → i.2.1 < (p.length : Int) → SndF p (2, i.2.1, i.2.2)
theorem irow_one (w : World) (x : Int) (t : TypeId) : IRow (w.alloc (.cells #[.int .i64 x] t)) w.heap.size 0 [x] := fun j y hj => by
  match j, hj with
  | 0, hj =>
    simp at hj
    subst hj
    have h : Cells (w.alloc (.cells #[.int .i64 x] t)) w.heap.size [.int .i64 x] := Cells.new w _ rfl _ _
    exact h.g0.1
  | j + 1, hj => simp at hj
/-- One class is needed, out of a slice made for the call. -/
theorem need_one (p : Prg) (hok : okP p = true) (B0 sb mb cap : Nat) (a : Option Addr) (v : Value) (F T : List Fd) (t : Int) (w : World) (hB0 : B0 ≤ w.heap.size) (hS : Srch B0 sb mb (.slice a p.length cap) w v F T) (hP : 0 ≤ t → t < (p.length : Int) → SndF p (3, t, 0)) (ty : TypeId) :
    Calls Tryz.prog 78 #[.pointer (some ⟨sb, 0, none⟩), .slice (some ⟨w.heap.size, 0, none⟩) 1 1] (w.alloc (.cells #[.int .i64 t] ty)) fun e w' => e = .returned (.tuple #[]) ∧ ∃ v' F' T', Adds B0 sb mb (.slice a p.length cap) w v F T (SndF p) w' v' F' T' ∧ (0 ≤ t → t < (p.length : Int) → ((3, t, 0) : Fd) ∈ F') := by
  have hb : Below w.heap.size w (w.alloc (.cells #[.int .i64 t] ty)) := (Below.refl _ _).alloc (Nat.le_refl _) _
  refine (need_at p hok B0 sb mb cap a v F T [t] (some ⟨w.heap.size, 0, none⟩) 1 (by simp) _ (Nat.le_trans hB0 hb.size) (hS.on hb) (fun _ => ⟨_, 0, rfl, irow_one w t ty, hS.far (Nat.le_refl _) (by simp)⟩) (fun s hs h0 h1 => by rw [List.mem_singleton.1 hs] at *; exact hP h0 h1)).mono ?_
  rintro e w' ⟨rfl, v', F', T', h, hm⟩
  exact ⟨rfl, v', F', T', (Adds.start hS hb).trans h, fun h0 h1 => hm t (by simp) h0 h1⟩
set_option maxRecDepth 100000 in
set_option maxHeartbeats 600000 in
theorem selectsE_at (Bp : Nat) (p : Prg) (hok : okP p = true) (hsp : SmallP p) (B0 sb mb cap : Nat) (a : Option Addr) (v : Value) (F T : List Fd) (c : Nat) (hc : c < p.length) (n : Int) (w : World) (hB0 : B0 ≤ w.heap.size) (hS : Srch B0 sb mb (.slice a p.length cap) w v F T) (hsk : SK front Bp w (.slice a p.length cap) p) (hn : 0 ≤ n ∧ n < 20) :
    Calls Tryz.prog 92 #[.pointer (some ⟨sb, 0, none⟩), .int .i64 (c : Int), .int .i64 n] w fun e w' => e = .returned (.tuple #[]) ∧ ∃ v' F' T', Adds B0 sb mb (.slice a p.length cap) w v F T (fun g => ∃ s : Nat, selF p (c : Int) n = (s : Int) ∧ g = (1, (s : Int), n)) w' v' F' T' ∧ ∀ s : Nat, selF p (c : Int) n = (s : Int) → ((1, (s : Int), n) : Fd) ∈ F' := by
  have h6 := (okP_len hok).2
  have HSU : Hid (SupOk p p.length) := okP_sup hok
  have HS : Hid (Srch B0 sb mb (.slice a p.length cap) w v F T) := hS
  have HF : Hid (∀ s : Nat, selF p (c : Int) n = (s : Int) → s < p.length) := fun s hs => by obtain ⟨_, _, h, _⟩ := sel_there hs; exact (List.getElem?_eq_some_iff.1 h).1
  have hs0 := hS.cells.g0.1
  have hcall := selectedFrom Bp p a cap (c : Int) n (by omega) (by omega) hsp h6 HSU.out w hsk
  clear hS hsk
  go_enter Tryz.func92, Tryz.ntmps92
  go_wp2_with fail
  refine hcall.mono ?_
  rintro e w1 ⟨rfl, hb1⟩
  have HA1 : Hid (Adds B0 sb mb (.slice a p.length cap) w v F T (fun g => ∃ s : Nat, selF p (c : Int) n = (s : Int) ∧ g = (1, (s : Int), n)) w1 v F T) := Adds.start HS.out hb1
  have hB1 : B0 ≤ w1.heap.size := Nat.le_trans hB0 hb1.size
  clear hb1 hcall hs0
  obtain ⟨q, hq⟩ : ∃ q, q = selF p (c : Int) n := ⟨_, rfl⟩
  rw [← hq] at HF ⊢
  have HQE : Hid (q = selF p (c : Int) n) := hq
  clear hq
  have hadd := add_at B0 sb mb p.length cap a v F T (1, q, n) (fun h0 h1 => ⟨by dsimp only; omega, by dsimp only; omega, h0, by dsimp only at h1 ⊢; omega, hn.1, hn.2⟩) w1 hB1 HA1.out.st
  go_wp2_with fail
  refine hadd.mono ?_
  rintro e w2 ⟨rfl, v2, F2, T2, hA2, hm2⟩
  have HA2 : Hid (Adds B0 sb mb (.slice a p.length cap) w v F T (fun g => ∃ s : Nat, selF p (c : Int) n = (s : Int) ∧ g = (1, (s : Int), n)) w2 v2 F2 T2) := HA1.out.trans (hA2.imp fun g hg => by obtain ⟨rfl, h0, _⟩ := hg; obtain ⟨s, hs⟩ := Int.eq_ofNat_of_zero_le (show 0 ≤ q from h0); exact ⟨s, HQE.out.symm.trans hs, by rw [hs]⟩)
  have HM2 : Hid (∀ s : Nat, q = (s : Int) → ((1, (s : Int), n) : Fd) ∈ F2) := fun s hs => by
    subst hs
    exact hm2 (show (0 : Int) ≤ (s : Int) by omega) (show (s : Int) < (p.length : Int) by have := HF.out s rfl; omega)
  have HM3 : Hid (∀ s : Nat, selF p (c : Int) n = (s : Int) → ((1, (s : Int), n) : Fd) ∈ F2) := fun s hs => HM2.out s (HQE.out.trans hs)
  clear hA2 hm2 hadd HA1 HM2
  go_wp2
  go_end0
  first | exact ⟨rfl, v2, F2, T2, HA2.out, HM3.out⟩ | exact ⟨rfl, v2, F2, ⟨T2, HA2.out⟩, HM3.out⟩
theorem selects_at (Bp : Nat) (p : Prg) (hok : okP p = true) (hsp : SmallP p) (B0 sb mb cap : Nat) (a : Option Addr) (v : Value) (F T : List Fd) (c : Nat) (hc : c < p.length) (n : Int) (w : World) (hB0 : B0 ≤ w.heap.size) (hS : Srch B0 sb mb (.slice a p.length cap) w v F T) (hsk : SK front Bp w (.slice a p.length cap) p) (hn : 0 ≤ n ∧ n < 20)
    (hP : ∀ s : Nat, selF p (c : Int) n = (s : Int) → SndF p (1, (s : Int), n)) :
    Calls Tryz.prog 92 #[.pointer (some ⟨sb, 0, none⟩), .int .i64 (c : Int), .int .i64 n] w fun e w' => e = .returned (.tuple #[]) ∧ ∃ v' F' T', Adds B0 sb mb (.slice a p.length cap) w v F T (SndF p) w' v' F' T' ∧ ∀ s : Nat, selF p (c : Int) n = (s : Int) → ((1, (s : Int), n) : Fd) ∈ F' := by
  refine (selectsE_at Bp p hok hsp B0 sb mb cap a v F T c hc n w hB0 hS hsk hn).mono ?_
  rintro e w' ⟨rfl, v', F', T', h, hm⟩
  exact ⟨rfl, v', F', T', h.imp (fun g hg => by obtain ⟨s, hs, rfl⟩ := hg; exact hP s hs), hm⟩
set_option maxRecDepth 100000 in
set_option maxHeartbeats 600000 in
theorem followInsn_at (p : Prg) (hok : okP p = true) (B0 sb mb cap : Nat) (a : Option Addr) (v : Value) (F T : List Fd) (i : Tx.Ins) (w : World) (hB0 : B0 ≤ w.heap.size) (hS : Srch B0 sb mb (.slice a p.length cap) w v F T) (hP : InsP p i) :
    Calls Tryz.prog 95 #[.pointer (some ⟨sb, 0, none⟩), .agg #[.int .i64 i.1, .int .i64 i.2.1, .int .i64 i.2.2]] w fun e w' => e = .returned (.tuple #[]) ∧ ∃ v' F' T', Adds B0 sb mb (.slice a p.length cap) w v F T (SndF p) w' v' F' T' ∧ InsQ p F' i := by
  obtain ⟨op, A, B⟩ := i
  dsimp only
  obtain ⟨V, hV⟩ : ∃ V, V = w.alloc (.cells #[.int .i64 op, .int .i64 A, .int .i64 B] 73) := ⟨_, rfl⟩
  have hwV : Below w.heap.size w V := by rw [hV]; exact (Below.refl _ _).alloc (Nat.le_refl _) _
  have IC : Hid (Cells V w.heap.size [.int .i64 op, .int .i64 A, .int .i64 B]) := by rw [hV]; exact Cells.new w _ rfl _ _
  have HA : Hid (Adds B0 sb mb (.slice a p.length cap) w v F T (SndF p) V v F T) := Adds.start hS hwV
  have HP : Hid (InsP p (op, A, B)) := hP
  have hBV : B0 ≤ V.heap.size := Nat.le_trans hB0 hwV.size
  clear hS hP
  have i0 : (w.alloc (.cells #[.int .i64 op, .int .i64 A, .int .i64 B] 73)).cell? ⟨w.heap.size, 0, none⟩ = some (.int .i64 op) := by rw [← hV]; exact IC.out.g0.1
  have i1 : (w.alloc (.cells #[.int .i64 op, .int .i64 A, .int .i64 B] 73)).cell? ⟨w.heap.size, 1, none⟩ = some (.int .i64 A) := by rw [← hV]; exact IC.out.g1.1
  have i2 : (w.alloc (.cells #[.int .i64 op, .int .i64 A, .int .i64 B] 73)).cell? ⟨w.heap.size, 2, none⟩ = some (.int .i64 B) := by rw [← hV]; exact IC.out.g2.1
  clear IC
  go_enter Tryz.func95, Tryz.ntmps95
  by_cases h14 : op = 14
  · subst h14
    have hadd := add_s p hok B0 sb mb cap a v F T (0, A, 0) (fun h0 h1 => HP.out.new rfl h0 h1) V hBV HA.out.st
    go_wp2_with fail
    rw [← hV]
    clear i0 i1 i2
    refine hadd.mono ?_
    rintro e w2 ⟨rfl, v2, F2, T2, hA2, hm2⟩
    have HA2 : Hid (Adds B0 sb mb (.slice a p.length cap) w v F T (SndF p) w2 v2 F2 T2) := HA.out.trans hA2
    have HM2 : Hid (InsQ p F2 (14, A, B)) := ⟨fun _ h0 h1 => hm2 h0 h1, fun e => by simp at e, fun e => by simp at e⟩
    clear hA2 hm2 hadd HA hV
    go_wp2
    go_end0
    first | exact ⟨rfl, v2, F2, T2, HA2.out, HM2.out⟩ | exact ⟨rfl, v2, F2, ⟨T2, HA2.out⟩, HM2.out⟩
  · by_cases h15 : op = 15 ∨ op = 16
    · have hnd := need_one p hok B0 sb mb cap a v F T A V hBV HA.out.st (fun h0 h1 => HP.out.fld h15 h0 h1) 2
      rw [show V.heap.size = w.heap.size + 1 by rw [hV]; simp] at hnd
      have HQ : Hid (∀ F2, (0 ≤ A → A < (p.length : Int) → ((3, A, 0) : Fd) ∈ F2) → InsQ p F2 (op, A, B)) := fun F2 h => ⟨fun e => absurd e h14, fun _ h0 h1 => h h0 h1, fun e => by dsimp only at e; omega⟩
      rcases h15 with rfl | rfl
      all_goals
        go_wp2_with fail
        rw [← hV]
        clear i0 i1 i2
        refine hnd.mono ?_
        rintro e w2 ⟨rfl, v2, F2, T2, hA2, hm2⟩
        have HA2 : Hid (Adds B0 sb mb (.slice a p.length cap) w v F T (SndF p) w2 v2 F2 T2) := HA.out.trans hA2
        have HM2 := hidS (HQ.out F2 hm2)
        clear hA2 hm2 hnd HA hV HQ
        go_wp2
        go_end0
        first | exact ⟨rfl, v2, F2, T2, HA2.out, HM2.out⟩ | exact ⟨rfl, v2, F2, ⟨T2, HA2.out⟩, HM2.out⟩
    · have h15' : ¬ op = 15 := fun e => h15 (.inl e)
      have h16 : ¬ op = 16 := fun e => h15 (.inr e)
      by_cases h17 : op = 17
      · subst h17
        have hadd := add_s p hok B0 sb mb cap a v F T (2, A, B) (fun h0 h1 => HP.out.call rfl h0 h1) V hBV HA.out.st
        go_wp2_with fail
        rw [← hV]
        clear i0 i1 i2
        refine hadd.mono ?_
        rintro e w2 ⟨rfl, v2, F2, T2, hA2, hm2⟩
        have HA2 : Hid (Adds B0 sb mb (.slice a p.length cap) w v F T (SndF p) w2 v2 F2 T2) := HA.out.trans hA2
        have HM2 : Hid (InsQ p F2 (17, A, B)) := ⟨fun e => by simp at e, fun e => by simp at e, fun _ h0 h1 => hm2 h0 h1⟩
        clear hA2 hm2 hadd HA hV
        go_wp2
        go_end0
        first | exact ⟨rfl, v2, F2, T2, HA2.out, HM2.out⟩ | exact ⟨rfl, v2, F2, ⟨T2, HA2.out⟩, HM2.out⟩
      · have HM2 : Hid (InsQ p F (op, A, B)) := ⟨fun e => absurd e h14, fun e => absurd e h15, fun e => absurd e h17⟩
        go_wp2
        rw [← hV]
        go_end0
        first | exact ⟨rfl, v, F, T, HA.out, HM2.out⟩ | exact ⟨rfl, v, F, ⟨T, HA.out⟩, HM2.out⟩
end Pg
end Go.Proofs.YtinanjjhkddikaaGreat

/- Contracts of the program's own account of which classes and which programs are right. -/
namespace Go.Proofs.YtinanjjhkddikaaGreat
namespace Pg
open Go.ChangeShapes Go.WideShapes Go.ChangeAt Go.RowKit St

theorem okC_split (p : Prg) (i : Nat) (c : Cls) : okCB p i c = (decide (-1 ≤ c.super) && decide (c.super < (i : Int)) && decide (c.fields.length ≤ 4) && c.fields.all (tyB p.length) && decide (c.meths.length ≤ 4) && (List.range c.meths.length).all (okK p c)) := rfl
theorem okK_zero {p : Prg} {c : Cls} {m : Meth} (h : c.meths[0]? = some m) : okK p c 0 = (okMB p.length m && agreeF p m 6 c.super) := by simp [okK, h]
theorem okK_succ {p : Prg} {c : Cls} {j : Nat} {m q : Meth} (h : c.meths[j + 1]? = some m) (hq : c.meths[j]? = some q) : okK p c (j + 1) = (okMB p.length m && decide (q.name < m.name) && agreeF p m 6 c.super) := by simp [okK, h, hq]
theorem okC_done {p : Prg} {i : Nat} {c : Cls} (h1 : -1 ≤ c.super) (h2 : c.super < (i : Int)) (h3 : c.fields.length ≤ 4) (h4 : c.fields.all (tyB p.length) = true) (h5 : c.meths.length ≤ 4) (h : ∀ j, j < c.meths.length → okK p c j = true) : okCB p i c = true := by
  have : (List.range c.meths.length).all (okK p c) = true := List.all_eq_true.2 fun j hj => h j (List.mem_range.1 hj)
  rw [okC_split, this, h4]
  simp [h1, h2, h3, h5]

set_option maxRecDepth 100000 in
set_option maxHeartbeats 4000000 in
theorem isClassOf (B : Nat) (p : Prg) (i : Nat) (a : Option Addr) (cap : Nat) (hi : i < p.length) (h6 : p.length ≤ 6) (hsup : SupOk p i) (hsp : SmallP p) (w : World) (hp : SK front B w (.slice a p.length cap) p) :
    Calls Tryz.prog 51 #[.agg #[.slice a p.length cap], .int .i64 i] w fun e w' => e = .returned (.bool (okAt p i)) ∧ Below w.heap.size w w' := by
  obtain ⟨b, o, rfl, _, vf, vm, c0, c1, c2, hcv⟩ := hp.get hi
  obtain ⟨z1, t1, rfl⟩ := hcv.1.form
  obtain ⟨z2, t2, rfl⟩ := hcv.2.form
  have HP : Hid (SK front B w (.slice (some ⟨b, o, none⟩) p.length cap) p) := hp
  have HF : Hid (SI true B w (.slice z1 p[i].fields.length t1) p[i].fields) := hcv.1
  have HM : Hid (SM front B w (.slice z2 p[i].meths.length t2) p[i].meths) := hcv.2
  have HSUP : Hid (SupOk p i) := hsup
  have HSP : Hid (SmallP p) := hsp
  have hsc := hsp.2 _ (List.getElem_mem hi)
  have HSMM : Hid (∀ m ∈ p[i].meths, SmallM m) := hsc.2.2
  have hsf := hsc.1
  have hsm := hsc.2.1
  have HAT : Hid (okAt p i = okCB p i p[i]) := okAt_of (List.getElem?_eq_getElem hi)
  generalize p[i] = c at *
  clear hp hcv hsup hsp hsc
  have hii : (i : Int) < (p.length : Int) := by omega
  have hi0 : (0 : Int) ≤ (i : Int) := by omega
  obtain ⟨W, hW⟩ : ∃ W, W = (w.alloc (.cells #[.slice (some ⟨b, o, none⟩) p.length cap] 30)).alloc (.cells #[.int .i64 c.super, .slice z1 c.fields.length t1, .slice z2 c.meths.length t2] 52) := ⟨_, rfl⟩
  have hwW : Below w.heap.size w W := by rw [hW]; exact ((Below.refl _ _).alloc (Nat.le_refl _) _).alloc (by simp) _
  have P0 : Hid (Cells W w.heap.size [.slice (some ⟨b, o, none⟩) p.length cap]) := by rw [hW]; exact (Cells.new w _ rfl _ _).alloc _
  have C0 : Hid (Cells W (w.heap.size + 1) [.int .i64 c.super, .slice z1 c.fields.length t1, .slice z2 c.meths.length t2]) := by rw [hW]; exact Cells.new (w.alloc _) _ (by simp) _ _
  have lc : b < w.heap.size := cell_lt c0
  have hbP : Below w.heap.size w (w.alloc (.cells #[.slice (some ⟨b, o, none⟩) p.length cap] 30)) := (Below.refl _ _).alloc (Nat.le_refl _) _
  have c0 := (hbP.cell lc).trans c0
  have c1 := (hbP.cell lc).trans c1
  have c2 := (hbP.cell lc).trans c2
  clear hbP
  by_cases hs : -1 ≤ c.super ∧ c.super < (i : Int)
  · obtain ⟨hs1, hs2⟩ := hs
    have hs1' : ¬ c.super < -1 := by omega
    by_cases h4 : c.fields.length ≤ 4
    · have h4i : ¬ (4 : Int) < (c.fields.length : Int) := by omega
      go_enter Tryz.func51, Tryz.ntmps51
      go_wp2_with fail
      rw [← hW]
      clear hW
      refine (areTypesOf B (some ⟨b, o, none⟩) z1 p.length cap t1 c.fields hsf _ (SI.on HF.out (Keep.of hwW))).mono ?_
      rintro e w1 ⟨rfl, hb1⟩
      have hw1 : Below w.heap.size w w1 := below_over hwW hb1
      obtain ⟨q2, _⟩ := (C0.out.on hb1).g2
      have hW1 : Below W.heap.size W w1 := hb1
      clear hb1
      cases hty : c.fields.all (tyB p.length)
      · have HN : Hid (okAt p i = false) := by show _ = _; rw [HAT.out, okC_split, hty]; simp
        go_wp2
        go_ret
        exact ⟨retB HN.out.symm, hw1⟩
      · by_cases h4m : c.meths.length ≤ 4
        · have h4j : ¬ (4 : Int) < (c.meths.length : Int) := by omega
          have HTY : Hid (c.fields.all (tyB p.length) = true) := hty
          clear hty
          go_wp2
          go_loopw [42] (fun v wr => ∃ k : Nat, k ≤ c.meths.length ∧ v = .int .i64 k ∧ Hid (∀ j, j < k → okK p c j = true) ∧ Below W.heap.size W wr) (fun v _ => c.meths.length - (intOf v).toNat)
          case atStart => exact ⟨0, Nat.zero_le _, rfl, fun j h => absurd h (Nat.not_lt_zero _), hW1⟩
          case round =>
            clear q2 hW1 hw1
            obtain ⟨k, hk, rfl, hall, hb⟩ := hrel
            have hwr : Below w.heap.size w wr := below_over hwW hb
            by_cases hlt : k < c.meths.length
            · have hki : (k : Int) < (c.meths.length : Int) := by omega
              have hki0 : (0 : Int) ≤ (k : Int) := by omega
              obtain ⟨bm, om, rfl, _, va, vc, d0, d1, d2, d3, hmv⟩ := HM.out.get hlt
              obtain ⟨x1, y1, rfl⟩ := hmv.1.form
              obtain ⟨x2, y2, rfl⟩ := front.form hmv.2
              have l0 : bm < w.heap.size := cell_lt d0
              have m0 := (hwr.cell l0).trans d0
              have m1 := (hwr.cell l0).trans d1
              have m2 := (hwr.cell l0).trans d2
              have m3 := (hwr.cell l0).trans d3
              have HMV : Hid (MV front B w (.slice x1 c.meths[k].args.length y1) (.slice x2 c.meths[k].code.length y2) c.meths[k]) := hmv
              have HSM : Hid (SmallM c.meths[k]) := HSMM.out _ (List.getElem_mem hlt)
              have HNO : Hid (okK p c k = false → okAt p i = false) := fun h => by rw [HAT.out]; exact okC_no hlt h
              have HYES : Hid (okK p c k = true → ∀ j, j < k + 1 → okK p c j = true) := fun h j hj => by
                by_cases e : j = k
                · rw [e]; exact h
                · exact hall.out j (by omega)
              clear hmv d0 d1 d2 d3 hall
              obtain ⟨WM, hWM⟩ : ∃ WM, WM = wr.alloc (.cells #[.int .i64 c.meths[k].name, .slice x1 c.meths[k].args.length y1, .int .i64 c.meths[k].gives, .slice x2 c.meths[k].code.length y2] 55) := ⟨_, rfl⟩
              have hbM : Below wr.heap.size wr WM := by rw [hWM]; exact (Below.refl _ _).alloc (Nat.le_refl _) _
              have MB : Hid (Cells WM wr.heap.size [.int .i64 c.meths[k].name, .slice x1 c.meths[k].args.length y1, .int .i64 c.meths[k].gives, .slice x2 c.meths[k].code.length y2]) := by rw [hWM]; exact Cells.new wr _ rfl _ _
              have CB := (C0.out.on hb).on hbM
              have PB : Hid (Cells WM w.heap.size [.slice (some ⟨b, o, none⟩) p.length cap]) := (P0.out.on hb).on hbM
              have mb0 := MB.out.g0.1
              have cb2 := CB.g2.1
              have CBH : Hid (Cells WM (w.heap.size + 1) [.int .i64 c.super, .slice z1 c.fields.length t1, .slice (some ⟨bm, om, none⟩) c.meths.length t2]) := CB
              have hWM' : Below W.heap.size W WM := below_over hb hbM
              clear CB
              cases k with
              | zero =>
                have HK : Hid (okK p c 0 = (okMB p.length c.meths[0] && agreeF p c.meths[0] 6 c.super)) := okK_zero (List.getElem?_eq_getElem hlt)
                generalize c.meths[0] = m at *
                simp only [Nat.zero_mul, Nat.add_zero] at m0 m1 m2 m3
                go_wp2_with fail
                rw [← hWM]
                clear hWM m0 m1 m2 m3
                have r0 := cell_regrown mb0
                have r2 := cell_regrown cb2
                refine wp_region_quiet_below (by kernel_rfl) (by kernel_rfl) ?_
                repeat (go_big_quiet_step (fail))
                refine wpQuiet_nil ?_
                intro _ hw'
                obtain ⟨⟨dq, osq⟩, hw''⟩ := hw'
                subst hw''
                have hbV := below_regrown WM dq osq
                clear r0 r2 mb0 cb2
                generalize Sort.grow (redrawn WM dq) osq = V at *
                have hwV : Below w.heap.size w V := below_over (below_over hwr hbM) hbV
                have hWV : Below W.heap.size W V := below_over hWM' hbV
                have MV' : Hid (Cells V wr.heap.size [.int .i64 m.name, .slice x1 m.args.length y1, .int .i64 m.gives, .slice x2 m.code.length y2]) := MB.out.on hbV
                have PV' : Hid (Cells V w.heap.size [.slice (some ⟨b, o, none⟩) p.length cap]) := PB.out.on hbV
                have CV' : Hid (Cells V (w.heap.size + 1) [.int .i64 c.super, .slice z1 c.fields.length t1, .slice (some ⟨bm, om, none⟩) c.meths.length t2]) := CBH.out.on hbV
                obtain ⟨p0, _⟩ := PV'.out.g0
                obtain ⟨n0, _⟩ := MV'.out.g0
                obtain ⟨n1, _⟩ := MV'.out.g1
                obtain ⟨n2, _⟩ := MV'.out.g2
                obtain ⟨n3, _⟩ := MV'.out.g3
                clear hbV hbM hb hwr MB PB CBH hWM'
                go_wp2_with fail
                refine (isMethodOf B m (some ⟨b, o, none⟩) p.length cap _ _ HSM.out _ (HMV.out.on (Keep.of hwV))).mono ?_
                rintro e w2 ⟨rfl, hb2⟩
                have hw2 : Below w.heap.size w w2 := below_over hwV hb2
                have hW2 : Below W.heap.size W w2 := below_over hWV hb2
                have M2 := MV'.out.on hb2
                obtain ⟨p2, _⟩ := (PV'.out.on hb2).g0
                obtain ⟨c20, _⟩ := (CV'.out.on hb2).g0
                obtain ⟨k0, _⟩ := M2.g0
                obtain ⟨k1, _⟩ := M2.g1
                obtain ⟨k2, _⟩ := M2.g2
                obtain ⟨k3, _⟩ := M2.g3
                clear hb2 p0 n0 n1 n2 n3 M2 MV' PV' CV'
                cases hmo : okMB p.length m
                · have HN : Hid (okAt p i = false) := HNO.out (by rw [HK.out, hmo]; simp)
                  go_wp2
                  go_ret
                  exact ⟨retB HN.out.symm, hw2⟩
                · go_wp2_with fail
                  refine (agreesAbove B B p m i (some ⟨b, o, none⟩) cap _ _ c.super h6 (by omega) HSUP.out hs1 hs2 HSP.out HSM.out _ (SK.on HP.out (Keep.of hw2)) (HMV.out.on (Keep.of hw2))).mono ?_
                  rintro e w3 ⟨rfl, hb3⟩
                  have hw3 : Below w.heap.size w w3 := below_over hw2 hb3
                  have hW3 : Below W.heap.size W w3 := below_over hW2 hb3
                  clear hb3 p2 c20 k0 k1 k2 k3
                  cases hga : agreeF p m 6 c.super
                  · have HN : Hid (okAt p i = false) := HNO.out (by rw [HK.out, hga]; simp)
                    go_wp2
                    go_ret
                    exact ⟨retB HN.out.symm, hw3⟩
                  · have HY : Hid (∀ j, j < 0 + 1 → okK p c j = true) := HYES.out (by rw [HK.out, hmo, hga]; rfl)
                    clear HNO HYES HK
                    go_wp2
                    go_roundw
                    case rel => exact ⟨0 + 1, by omega, by go_num, HY.out, hW3⟩
                    case measure => simp [intOf]; omega
              | succ j =>
                have hj : j < c.meths.length := by omega
                have HK : Hid (okK p c (j + 1) = (okMB p.length c.meths[j + 1] && decide (c.meths[j].name < c.meths[j + 1].name) && agreeF p c.meths[j + 1] 6 c.super)) := okK_succ (List.getElem?_eq_getElem hlt) (List.getElem?_eq_getElem hj)
                obtain ⟨b', o', hb', _, va', vc', g0, _⟩ := HM.out.get hj
                simp at hb'
                obtain ⟨rfl, rfl⟩ := hb'
                have v0 := (below_over hwr hbM).cell (p := ⟨bm, om + j * 4, none⟩) l0 |>.trans g0
                clear g0
                generalize c.meths[j + 1] = m at *
                generalize c.meths[j] = pv at *
                have hwj : IntKind.i64.wrap (j : Int) = (j : Int) := by simp [IntKind.wrap, IntKind.signed, IntKind.bits]; omega
                have hji : (j : Int) < (c.meths.length : Int) := by omega
                have hj1 : (0 : Int) < (j : Int) + 1 := by omega
                have hcast : ((j + 1 : Nat) : Int) = (j : Int) + 1 := by omega
                go_wp2_with fail
                rw [← hWM]
                clear hWM m0 m1 m2 m3
                have r0 := cell_regrown mb0
                have r2 := cell_regrown cb2
                have r3 := cell_regrown v0
                by_cases hle : m.name ≤ pv.name
                · have HN : Hid (okAt p i = false) := HNO.out (by rw [HK.out]; simp; intro _ h; omega)
                  refine wp_region_quiet_below (by kernel_rfl) (by kernel_rfl) ?_
                  repeat (go_big_quiet_step (fail))
                  refine wpQuiet_nil ?_
                  intro _ hw'
                  obtain ⟨⟨dq, osq⟩, hw''⟩ := hw'
                  subst hw''
                  have hbV := below_regrown WM dq osq
                  clear r0 r2 mb0 cb2 v0 r3
                  generalize Sort.grow (redrawn WM dq) osq = V at *
                  have hwV : Below w.heap.size w V := below_over (below_over hwr hbM) hbV
                  go_wp2
                  go_ret
                  exact ⟨retB HN.out.symm, hwV⟩
                · refine wp_region_quiet_below (by kernel_rfl) (by kernel_rfl) ?_
                  repeat (go_big_quiet_step (fail))
                  refine wpQuiet_nil ?_
                  intro _ hw'
                  obtain ⟨⟨dq, osq⟩, hw''⟩ := hw'
                  subst hw''
                  have hbV := below_regrown WM dq osq
                  have HK : Hid (okK p c (j + 1) = (okMB p.length m && agreeF p m 6 c.super)) := by
                    show _ = _
                    rw [HK.out]
                    have : decide (pv.name < m.name) = true := by simp; omega
                    rw [this, Bool.and_true]
                  clear r0 r2 mb0 cb2 v0 r3 hle hwj
                  generalize Sort.grow (redrawn WM dq) osq = V at *
                  have hwV : Below w.heap.size w V := below_over (below_over hwr hbM) hbV
                  have hWV : Below W.heap.size W V := below_over hWM' hbV
                  have MV' : Hid (Cells V wr.heap.size [.int .i64 m.name, .slice x1 m.args.length y1, .int .i64 m.gives, .slice x2 m.code.length y2]) := MB.out.on hbV
                  have PV' : Hid (Cells V w.heap.size [.slice (some ⟨b, o, none⟩) p.length cap]) := PB.out.on hbV
                  have CV' : Hid (Cells V (w.heap.size + 1) [.int .i64 c.super, .slice z1 c.fields.length t1, .slice (some ⟨bm, om, none⟩) c.meths.length t2]) := CBH.out.on hbV
                  obtain ⟨p0, _⟩ := PV'.out.g0
                  obtain ⟨n0, _⟩ := MV'.out.g0
                  obtain ⟨n1, _⟩ := MV'.out.g1
                  obtain ⟨n2, _⟩ := MV'.out.g2
                  obtain ⟨n3, _⟩ := MV'.out.g3
                  clear hbV hbM hb hwr MB PB CBH hWM'
                  go_wp2_with fail
                  refine (isMethodOf B m (some ⟨b, o, none⟩) p.length cap _ _ HSM.out _ (HMV.out.on (Keep.of hwV))).mono ?_
                  rintro e w2 ⟨rfl, hb2⟩
                  have hw2 : Below w.heap.size w w2 := below_over hwV hb2
                  have hW2 : Below W.heap.size W w2 := below_over hWV hb2
                  have M2 := MV'.out.on hb2
                  obtain ⟨p2, _⟩ := (PV'.out.on hb2).g0
                  obtain ⟨c20, _⟩ := (CV'.out.on hb2).g0
                  obtain ⟨k0, _⟩ := M2.g0
                  obtain ⟨k1, _⟩ := M2.g1
                  obtain ⟨k2, _⟩ := M2.g2
                  obtain ⟨k3, _⟩ := M2.g3
                  clear hb2 p0 n0 n1 n2 n3 M2 MV' PV' CV'
                  cases hmo : okMB p.length m
                  · have HN : Hid (okAt p i = false) := HNO.out (by rw [HK.out, hmo]; simp)
                    go_wp2
                    go_ret
                    exact ⟨retB HN.out.symm, hw2⟩
                  · go_wp2_with fail
                    refine (agreesAbove B B p m i (some ⟨b, o, none⟩) cap _ _ c.super h6 (by omega) HSUP.out hs1 hs2 HSP.out HSM.out _ (SK.on HP.out (Keep.of hw2)) (HMV.out.on (Keep.of hw2))).mono ?_
                    rintro e w3 ⟨rfl, hb3⟩
                    have hw3 : Below w.heap.size w w3 := below_over hw2 hb3
                    have hW3 : Below W.heap.size W w3 := below_over hW2 hb3
                    clear hb3 p2 c20 k0 k1 k2 k3
                    cases hga : agreeF p m 6 c.super
                    · have HN : Hid (okAt p i = false) := HNO.out (by rw [HK.out, hga]; simp)
                      go_wp2
                      go_ret
                      exact ⟨retB HN.out.symm, hw3⟩
                    · have HY : Hid (∀ jj, jj < (j + 1) + 1 → okK p c jj = true) := HYES.out (by rw [HK.out, hmo, hga]; rfl)
                      clear HNO HYES HK
                      go_wp2
                      go_roundw
                      case rel => exact ⟨(j + 1) + 1, by omega, by go_num, HY.out, hW3⟩
                      case measure => simp [intOf]; omega
            · have HN : Hid (okAt p i = true) := by
                show _ = _
                rw [HAT.out]
                exact okC_done hs1 hs2 h4 HTY.out h4m (fun j hj => hall.out j (by omega))
              go_wp2
              go_ret
              exact ⟨retB HN.out.symm, hwr⟩
        · have h4j : (4 : Int) < (c.meths.length : Int) := by omega
          have HN : Hid (okAt p i = false) := by show _ = _; rw [HAT.out, okC_split]; simp [h4m]
          go_wp2
          go_ret
          exact ⟨retB HN.out.symm, hw1⟩
    · have h4i : (4 : Int) < (c.fields.length : Int) := by omega
      have HN : Hid (okAt p i = false) := by show _ = _; rw [HAT.out, okC_split]; simp [h4]
      go_enter Tryz.func51, Tryz.ntmps51
      go_wp2
      go_ret
      rw [← hW]
      exact ⟨retB HN.out.symm, hwW⟩
  · have HN : Hid (okAt p i = false) := by show _ = _; rw [HAT.out, okC_split]; simp; intro h1 h2; exact absurd ⟨h1, h2⟩ hs
    by_cases hs1 : c.super < -1
    · go_enter Tryz.func51, Tryz.ntmps51
      go_wp2
      go_ret
      rw [← hW]
      exact ⟨retB HN.out.symm, hwW⟩
    · have hs2 : (i : Int) ≤ c.super := by omega
      go_enter Tryz.func51, Tryz.ntmps51
      go_wp2
      go_ret
      rw [← hW]
      exact ⟨retB HN.out.symm, hwW⟩
end Pg
end Go.Proofs.YtinanjjhkddikaaGreat

/- The contract of the program's own account of which programs are right. -/
namespace Go.Proofs.YtinanjjhkddikaaGreat
namespace Pg
open Go.ChangeShapes Go.WideShapes Go.ChangeAt Go.RowKit St

theorem mainOk_of {p : Prg} {c : Cls} (h : p[0]? = some c) : (ownF c 0 = none → mainOk p = false) ∧ ∀ m, ownF c 0 = some m → mainOk p = (decide (m.args.length = 0) && decide (m.gives = -1)) := by
  unfold mainOk
  rw [h]
  refine ⟨fun h => ?_, fun m h => ?_⟩
  · simp [h]
  · simp [h]
set_option maxRecDepth 100000 in
set_option maxHeartbeats 2000000 in
theorem implProgramOk (B : Nat) (p : Prg) (a : Option Addr) (cap : Nat) (hsp : SmallP p) (w : World) (hp : SK front B w (.slice a p.length cap) p) :
    Calls Tryz.prog 30 #[.agg #[.slice a p.length cap]] w fun e w' => e = .returned (.bool (okP p)) ∧ Below w.heap.size w w' := by
  have hpl := hsp.1
  have HP : Hid (SK front B w (.slice a p.length cap) p) := hp
  have HSP : Hid (SmallP p) := hsp
  clear hp hsp
  by_cases h1 : 1 ≤ p.length
  · have h1b : ((p.length : Int) == 0) = false := by
      have : ¬ (p.length : Int) = 0 := by omega
      simpa using this
    by_cases h6 : p.length ≤ 6
    · have h6i : ¬ (6 : Int) < (p.length : Int) := by omega
      obtain ⟨b, o, rfl, _, _⟩ := HP.out.get (k := 0) (by omega)
      obtain ⟨W, hW⟩ : ∃ W, W = w.alloc (.cells #[.slice (some ⟨b, o, none⟩) p.length cap] 30) := ⟨_, rfl⟩
      have hwW : Below w.heap.size w W := by rw [hW]; exact (Below.refl _ _).alloc (Nat.le_refl _) _
      have P0 : Hid (Cells W w.heap.size [.slice (some ⟨b, o, none⟩) p.length cap]) := by rw [hW]; exact Cells.new w _ rfl _ _
      go_enter Tryz.func30, Tryz.ntmps30
      go_wp2
      rw [← hW]
      clear hW
      go_loopw [19] (fun v wr => ∃ i : Nat, i ≤ p.length ∧ v = .int .i64 i ∧ Hid (∀ j, j < i → okAt p j = true) ∧ Below W.heap.size W wr) (fun v _ => p.length - (intOf v).toNat)
      case atStart => exact ⟨0, Nat.zero_le _, rfl, fun j h => absurd h (Nat.not_lt_zero _), Below.refl _ _⟩
      case round =>
        obtain ⟨i, hi, rfl, hall, hb⟩ := hrel
        have hwr : Below w.heap.size w wr := below_over hwW hb
        obtain ⟨pp0, _⟩ := (P0.out.on hb).g0
        by_cases hlt : i < p.length
        · have hii : (i : Int) < (p.length : Int) := by omega
          have HNO : Hid (okAt p i = false → okP p = false) := fun h => okP_no hlt h
          have HYES : Hid (okAt p i = true → ∀ j, j < i + 1 → okAt p j = true) := fun h j hj => by
            by_cases e : j = i
            · rw [e]; exact h
            · exact hall.out j (by omega)
          have HSUP : Hid (SupOk p i) := SupOk.of hall.out
          clear hall
          go_wp2_with fail
          refine (isClassOf B p i (some ⟨b, o, none⟩) cap hlt h6 HSUP.out HSP.out _ (SK.on HP.out (Keep.of hwr))).mono ?_
          rintro e w1 ⟨rfl, hb1⟩
          have hw1 : Below w.heap.size w w1 := below_over hwr hb1
          have hW1 : Below W.heap.size W w1 := below_over hb hb1
          clear hb1 pp0
          cases hq : okAt p i
          · have HX : Hid (okP p = false) := HNO.out hq
            go_wp2
            go_ret
            exact ⟨retB HX.out.symm, hw1⟩
          · have HX : Hid (∀ j, j < i + 1 → okAt p j = true) := HYES.out hq
            clear HNO HYES
            go_wp2
            go_roundw
            case rel => exact ⟨i + 1, by omega, by go_num, HX.out, hW1⟩
            case measure => simp [intOf]; omega
        · have HMN : Hid (okP p = mainOk p) := okP_main h1 h6 (fun j hj => hall.out j (by omega))
          have h0 : 0 < p.length := by omega
          have h0i : (0 : Int) < (p.length : Int) := by omega
          obtain ⟨b', o', hbo, _, vf, vm, d0, d1, d2, hcv⟩ := HP.out.get h0
          simp at hbo
          obtain ⟨rfl, rfl⟩ := hbo
          obtain ⟨z1, t1, rfl⟩ := hcv.1.form
          obtain ⟨z2, t2, rfl⟩ := hcv.2.form
          have l0 : b < w.heap.size := cell_lt d0
          have c0 := (hwr.cell l0).trans d0
          have c1 := (hwr.cell l0).trans d1
          have c2 := (hwr.cell l0).trans d2
          simp only [Nat.zero_mul, Nat.add_zero] at c0 c1 c2
          have HM : Hid (SM front B w (.slice z2 p[0].meths.length t2) p[0].meths) := hcv.2
          have hsm := (HSP.out.2 _ (List.getElem_mem h0)).2.1
          have HMO : Hid ((ownF p[0] 0 = none → mainOk p = false) ∧ ∀ m, ownF p[0] 0 = some m → mainOk p = (decide (m.args.length = 0) && decide (m.gives = -1))) := mainOk_of (List.getElem?_eq_getElem h0)
          generalize p[0] = c at *
          clear hcv d0 d1 d2 hall
          go_wp2_with fail
          refine (ownMethodR B c z1 z2 t2 c.fields.length t1 0 hsm w _ hwr HM.out).mono ?_
          rintro e w1 ⟨n, f1, l1, g1, gv, f2, l2, g2, q, rfl, hor, hb1⟩
          have hw1 : Below w.heap.size w w1 := below_over hwr hb1
          clear hb1 c0 c1 c2 pp0
          rcases hor.out with ⟨rfl, x, hox, rfl, rfl, rfl, rfl, hxv⟩ | ⟨rfl, hox⟩
          · have HX : Hid (okP p = (decide (x.args.length = 0) && decide (x.gives = -1))) := by show _ = _; rw [HMN.out]; exact HMO.out.2 x hox
            clear hor hox hxv HMN HMO
            by_cases ha : x.args.length = 0
            · have hai : ((x.args.length : Int) == 0) = true := by simp [ha]
              by_cases hg : x.gives = -1
              · have hgb : (x.gives == -1) = true := by simpa using hg
                have HX2 : Hid (okP p = true) := by show _ = _; rw [HX.out]; simp [ha, hg]
                clear HX ha hg
                go_wp2
                go_ret
                exact ⟨retB HX2.out.symm, hw1.alloc hw1.size _⟩
              · have hgb : (x.gives == -1) = false := by simpa using hg
                have HX2 : Hid (okP p = false) := by show _ = _; rw [HX.out]; simp [hg]
                clear HX ha hg
                go_wp2
                go_ret
                exact ⟨retB HX2.out.symm, hw1.alloc hw1.size _⟩
            · have hai : ((x.args.length : Int) == 0) = false := by
                have : ¬ (x.args.length : Int) = 0 := by omega
                simpa using this
              have HX2 : Hid (okP p = false) := by show _ = _; rw [HX.out]; simp [ha]
              clear HX ha
              go_wp2
              go_ret
              exact ⟨retB HX2.out.symm, hw1.alloc hw1.size _⟩
          · have HX : Hid (okP p = false) := by show _ = _; rw [HMN.out]; exact HMO.out.1 hox
            clear hor hox HMN HMO
            go_wp2
            go_ret
            exact ⟨retB HX.out.symm, hw1.alloc hw1.size _⟩
    · have HX : Hid (okP p = false) := okP_many (by omega)
      have h7 : (6 : Int) < (p.length : Int) := by omega
      go_enter Tryz.func30, Tryz.ntmps30
      go_wp2
      go_ret
      exact ⟨retB HX.out.symm, (Below.refl _ _).alloc (Nat.le_refl _) _⟩
  · have HX : Hid (okP p = false) := okP_few (by omega)
    have h1b : ((p.length : Int) == 0) = true := by
      have : (p.length : Int) = 0 := by omega
      simpa using this
    go_enter Tryz.func30, Tryz.ntmps30
    go_wp2
    go_ret
    exact ⟨retB HX.out.symm, (Below.refl _ _).alloc (Nat.le_refl _) _⟩
end Pg
end Go.Proofs.YtinanjjhkddikaaGreat

/- Contracts of the other side's small functions on programs. -/
namespace Go.Proofs.YtinanjjhkddikaaGreat
namespace Pg
open Go.ChangeShapes Go.WideShapes Go.ChangeAt Go.RowKit St

set_option maxHeartbeats 400000 in
theorem l4Type (t n : Int) (w : World) :
    Calls Tryz.prog 40 #[.int .i64 t, .int .i64 n] w fun e w' => e = .returned (.bool (tyB n t)) ∧ w = w' := by
  by_cases h1 : t = -1
  · have HN : Hid (tyB n t = true) := by show _ = _; simp [tyB, h1]
    have hb : (t == -1) = true := by simpa using h1
    go_enter Tryz.func40, Tryz.ntmps40
    go_wp2
    go_ret
    exact ⟨retB HN.out.symm, rfl⟩
  · have hb : (t == -1) = false := by simpa using h1
    by_cases h2 : 0 ≤ t
    · by_cases h3 : t < n
      · have HN : Hid (tyB n t = true) := by show _ = _; simp [tyB, h2, h3]
        go_enter Tryz.func40, Tryz.ntmps40
        go_wp2
        go_ret
        exact ⟨retB HN.out.symm, rfl⟩
      · have HN : Hid (tyB n t = false) := by show _ = _; simp [tyB, h1, h3]
        go_enter Tryz.func40, Tryz.ntmps40
        go_wp2
        go_ret
        exact ⟨retB HN.out.symm, rfl⟩
    · have HN : Hid (tyB n t = false) := by show _ = _; simp [tyB, h1, h2]
      go_enter Tryz.func40, Tryz.ntmps40
      go_wp2
      go_ret
      exact ⟨retB HN.out.symm, rfl⟩

/-- The place of the class's own method of this name, or -1. -/
def ownI (c : Cls) (name : Int) : Int := match c.meths.findIdx? (fun m => decide (m.name = name)) with | none => -1 | some k => k
theorem ownI_none {c : Cls} {name : Int} (h : ∀ j, j < c.meths.length → ∀ m, c.meths[j]? = some m → m.name ≠ name) : ownI c name = -1 ∧ ownF c name = none := by
  refine ⟨?_, find_none h⟩
  have : c.meths.findIdx? (fun m => decide (m.name = name)) = none := by
    rw [List.findIdx?_eq_none_iff]
    intro m hm
    obtain ⟨j, hj, rfl⟩ := List.getElem_of_mem hm
    simpa using h j hj _ (List.getElem?_eq_getElem hj)
  simp [ownI, this]
theorem ownI_some {c : Cls} {name : Int} {k : Nat} {m : Meth} (h : ∀ j, j < k → ∀ m, c.meths[j]? = some m → m.name ≠ name) (hk : c.meths[k]? = some m) (hn : m.name = name) : ownI c name = (k : Int) ∧ ownF c name = some m := by
  refine ⟨?_, find_at h hk hn⟩
  obtain ⟨hlt, hm⟩ := List.getElem?_eq_some_iff.1 hk
  have : c.meths.findIdx? (fun m => decide (m.name = name)) = some k := by
    rw [List.findIdx?_eq_some_iff_getElem]
    refine ⟨hlt, by rw [hm]; simpa using hn, fun j hj => ?_⟩
    simpa using h j hj _ (List.getElem?_eq_getElem (by omega))
  simp [ownI, this]
theorem ownI_cases (c : Cls) (name : Int) : (ownI c name = -1 ∧ ownF c name = none) ∨ ∃ k m, k < c.meths.length ∧ c.meths[k]? = some m ∧ ownI c name = (k : Int) ∧ ownF c name = some m := by
  cases h : c.meths.findIdx? (fun m => decide (m.name = name)) with
  | none =>
    left
    rw [List.findIdx?_eq_none_iff] at h
    exact ownI_none fun j hj m hm => by
      have := h m (List.mem_of_getElem? hm)
      simpa using this
  | some k =>
    right
    rw [List.findIdx?_eq_some_iff_getElem] at h
    obtain ⟨hlt, h1, h2⟩ := h
    obtain ⟨e1, e2⟩ := ownI_some (c := c) (name := name) (k := k) (m := c.meths[k]) (fun j hj m hm => by
      have := h2 j hj
      rw [List.getElem?_eq_getElem (by omega)] at hm
      simp at hm
      subst hm
      simpa using this) (List.getElem?_eq_getElem hlt) (by simpa using h1)
    exact ⟨k, _, hlt, List.getElem?_eq_getElem hlt, e1, e2⟩

set_option maxHeartbeats 800000 in
theorem l4Own (B : Nat) (c : Cls) (q a : Option Addr) (cap af cf : Nat) (name : Int) (hn : c.meths.length ≤ 1048576) (w : World) (hm : SM front B w (.slice a c.meths.length cap) c.meths) :
    Calls Tryz.prog 42 #[.agg #[.int .i64 c.super, .slice q af cf, .slice a c.meths.length cap], .int .i64 name] w fun e w' => e = .returned (.int .i64 (ownI c name)) ∧ Below w.heap.size w w' := by
  obtain ⟨W, hW⟩ : ∃ W, W = w.alloc (.cells #[.int .i64 c.super, .slice q af cf, .slice a c.meths.length cap] 52) := ⟨_, rfl⟩
  have hwW : Below w.heap.size w W := by rw [hW]; exact (Below.refl _ _).alloc (Nat.le_refl _) _
  have HM : Hid (SM front B W (.slice a c.meths.length cap) c.meths) := SM.on hm (Keep.of hwW)
  have C0 : Hid (Cells W w.heap.size [.int .i64 c.super, .slice q af cf, .slice a c.meths.length cap]) := by rw [hW]; exact Cells.new w _ rfl _ _
  clear hm
  go_enter Tryz.func42, Tryz.ntmps42
  go_wp2
  rw [← hW]
  clear hW
  go_loopw [5] (fun i wr => ∃ k : Nat, k ≤ c.meths.length ∧ i = .int .i64 k ∧ Hid (∀ j, j < k → ∀ m, c.meths[j]? = some m → m.name ≠ name) ∧ Below W.heap.size W wr) (fun i _ => c.meths.length - (intOf i).toNat)
  case atStart => exact ⟨0, Nat.zero_le _, rfl, fun j h => absurd h (Nat.not_lt_zero _), Below.refl _ _⟩
  case round =>
    obtain ⟨k, hk, rfl, hno, hb⟩ := hrel
    have hwr : Below w.heap.size w wr := below_over hwW hb
    obtain ⟨q2, _⟩ := (C0.out.on hb).g2
    by_cases hlt : k < c.meths.length
    · obtain ⟨b, o, rfl, _, va, vc, c0, _⟩ := (SM.on HM.out (Keep.of hb)).get hlt
      have HK : Hid (c.meths[k].name = name → ownI c name = (k : Int)) := fun h => (ownI_some hno.out (List.getElem?_eq_getElem hlt) h).1
      have HKN : Hid (c.meths[k].name ≠ name → ∀ j, j < k + 1 → ∀ m, c.meths[j]? = some m → m.name ≠ name) := fun h j hj m hm => by
        by_cases e : j = k
        · subst e
          rw [List.getElem?_eq_getElem hlt] at hm
          simp at hm
          subst hm
          exact h
        · exact hno.out j (by omega) m hm
      clear hno
      generalize c.meths[k] = m at *
      have hki : (k : Int) < (c.meths.length : Int) := by omega
      by_cases hnm : m.name = name
      · have HO : Hid (ownI c name = (k : Int)) := HK.out hnm
        have hnb : (m.name == name) = true := by simpa using hnm
        clear HK HKN hnm
        go_wp2
        go_ret
        exact ⟨retI HO.out.symm, hwr⟩
      · have HN : Hid (∀ j, j < k + 1 → ∀ m, c.meths[j]? = some m → m.name ≠ name) := HKN.out hnm
        have hnb : (m.name == name) = false := by simpa using hnm
        clear HK HKN hnm
        go_wp2
        go_roundw
        case rel => exact ⟨k + 1, by omega, by go_num, HN.out, hb⟩
        case measure => simp [intOf]; omega
    · have HN : Hid (ownI c name = -1) := (ownI_none (fun j hj m hm => hno.out j (by omega) m hm)).1
      go_wp2
      go_ret
      exact ⟨retI HN.out.symm, hwr⟩

theorem diffNo {l r : List Int} {k : Nat} (h1 : k < l.length) (h2 : k < r.length) (h : l[k] ≠ r[k]) : decide (l = r) = false := by
  simp only [decide_eq_false_iff_not]
  intro e
  subst e
  exact h rfl
theorem sameTake {l r : List Int} {k : Nat} (h1 : k < l.length) (h2 : k < r.length) (h : l.take k = r.take k) (he : l[k] = r[k]) : l.take (k + 1) = r.take (k + 1) := by
  rw [List.take_succ_eq_append_getElem h1, List.take_succ_eq_append_getElem h2, h, he]
set_option maxHeartbeats 1000000 in
theorem l4Like {f f' : Bool} (B B' : Nat) (a a' : Option Addr) (cap cap' : Nat) (l r : List Int) (hl : l.length ≤ 1048576) (w : World) (h1 : SI f B w (.slice a l.length cap) l) (h2 : SI f' B' w (.slice a' r.length cap') r) :
    Calls Tryz.prog 43 #[.slice a l.length cap, .slice a' r.length cap'] w fun e w' => e = .returned (.bool (decide (l = r))) ∧ Below w.heap.size w w' := by
  have H1 : Hid (SI f B w (.slice a l.length cap) l) := h1
  have H2 : Hid (SI f' B' w (.slice a' r.length cap') r) := h2
  clear h1 h2
  by_cases hlen : l.length = r.length
  · have HLEN : Hid (l.length = r.length) := hlen
    rw [← hlen]
    clear hlen
    go_enter Tryz.func43, Tryz.ntmps43
    go_wp2
    go_loopw [5] (fun i wr => ∃ k : Nat, k ≤ l.length ∧ i = .int .i64 k ∧ Hid (l.take k = r.take k) ∧ Below w.heap.size w wr) (fun i _ => l.length - (intOf i).toNat)
    case atStart => exact ⟨0, Nat.zero_le _, rfl, rfl, Below.refl _ _⟩
    case round =>
      obtain ⟨k, hk, rfl, hsame, hb⟩ := hrel
      by_cases hlt : k < l.length
      · have hlr : k < r.length := by rw [← HLEN.out]; exact hlt
        obtain ⟨b, o, rfl, _, a0⟩ := (SI.on H1.out (Keep.of hb)).get hlt
        obtain ⟨b', o', rfl, _, b0⟩ := (SI.on H2.out (Keep.of hb)).get hlr
        unfold IntAt at a0 b0
        rw [Nat.mul_one] at a0 b0
        have HT : Hid (l[k] = r[k] → l.take (k + 1) = r.take (k + 1)) := fun h => sameTake hlt hlr hsame.out h
        have HF : Hid (l[k] ≠ r[k] → decide (l = r) = false) := fun h => diffNo hlt hlr h
        generalize l[k] = x at *
        generalize r[k] = y at *
        clear hlr hsame
        have hki : (k : Int) < (l.length : Int) := by omega
        have hki0 : (0 : Int) ≤ (k : Int) := by omega
        have r0 := cell_regrown a0
        have s0 := cell_regrown b0
        by_cases hxy : x = y
        · subst hxy
          have HS : Hid (l.take (k + 1) = r.take (k + 1)) := HT.out rfl
          clear HT HF
          go_wp2_with fail
          refine wp_region_quiet_below (by kernel_rfl) (by kernel_rfl) ?_
          repeat (quiet_step (fail))
          refine wpQuiet_nil ?_
          intro _ hw'
          obtain ⟨⟨dq, osq⟩, hw''⟩ := hw'
          subst hw''
          have hw1 : Below w.heap.size w (Sort.grow (redrawn wr dq) osq) := below_over hb (below_regrown wr dq osq)
          clear a0 b0 r0 s0 hb
          generalize Sort.grow (redrawn wr dq) osq = w1 at *
          go_wp2
          go_roundw
          case rel => exact ⟨k + 1, by omega, by go_num, HS.out, hw1⟩
          case measure => simp [intOf]; omega
        · have HS : Hid (decide (l = r) = false) := HF.out hxy
          have hxb : (x != y) = true := by simpa using hxy
          clear HT HF
          go_wp2_with fail
          refine wp_region_quiet_below (by kernel_rfl) (by kernel_rfl) ?_
          repeat (quiet_step (fail))
          refine wpQuiet_nil ?_
          intro _ hw'
          obtain ⟨⟨dq, osq⟩, hw''⟩ := hw'
          subst hw''
          have hw1 : Below w.heap.size w (Sort.grow (redrawn wr dq) osq) := below_over hb (below_regrown wr dq osq)
          clear a0 b0 r0 s0 hb
          generalize Sort.grow (redrawn wr dq) osq = w1 at *
          go_wp2
          go_ret
          exact ⟨retB HS.out.symm, hw1⟩
      · have HN : Hid (decide (l = r) = true) := by
          show _ = _
          have h := hsame.out
          rw [List.take_of_length_le (by omega), List.take_of_length_le (by have := HLEN.out; omega)] at h
          simpa using h
        go_wp2
        go_ret
        exact ⟨retB HN.out.symm, hb⟩
  · have HN : Hid (decide (l = r) = false) := by
      show _ = _
      simp only [decide_eq_false_iff_not]
      intro e; exact hlen (by rw [e])
    have hnb : ((l.length : Int) != (r.length : Int)) = true := by
      have : ¬ (l.length : Int) = (r.length : Int) := by omega
      simpa using this
    go_enter Tryz.func43, Tryz.ntmps43
    go_wp2
    go_ret
    exact ⟨retB HN.out.symm, Below.refl _ _⟩

set_option maxHeartbeats 1000000 in
theorem l4Method (B : Nat) (m : Meth) (n : Int) (va vc : Value) (hs : SmallM m) (w : World) (hv : MV front B w va vc m) :
    Calls Tryz.prog 41 #[.agg #[.int .i64 m.name, va, .int .i64 m.gives, vc], .int .i64 n] w fun e w' => e = .returned (.bool (okMB n m)) ∧ Below w.heap.size w w' := by
  obtain ⟨x1, y1, rfl⟩ := hv.1.form
  obtain ⟨gc, y2, rfl, _, _, hrow, _⟩ := hv.2
  have HI : Hid (SI true B w (.slice x1 m.args.length y1) m.args) := hv.1
  have HR : Hid (Row w gc 0 m.code) := hrow
  have hs1 := hs.1
  have hs2 := hs.2
  clear hv hrow hs
  obtain ⟨W, hW⟩ : ∃ W, W = w.alloc (.cells #[.int .i64 m.name, .slice x1 m.args.length y1, .int .i64 m.gives, .slice (some ⟨gc, 0, none⟩) m.code.length y2] 55) := ⟨_, rfl⟩
  have hwW : Below w.heap.size w W := by rw [hW]; exact (Below.refl _ _).alloc (Nat.le_refl _) _
  have M0 : Hid (Cells W w.heap.size [.int .i64 m.name, .slice x1 m.args.length y1, .int .i64 m.gives, .slice (some ⟨gc, 0, none⟩) m.code.length y2]) := by rw [hW]; exact Cells.new w _ rfl _ _
  obtain ⟨nm, hnm⟩ : ∃ nm, nm = (decide (0 ≤ m.name) && decide (m.name ≤ 19)) := ⟨_, rfl⟩
  obtain ⟨m0, _⟩ := M0.out.g0
  obtain ⟨m1, _⟩ := M0.out.g1
  obtain ⟨m2, _⟩ := M0.out.g2
  obtain ⟨m3, _⟩ := M0.out.g3
  have HOK : Hid (okMB n m = (nm && decide (m.args.length ≤ 3) && m.args.all (tyB n) && tyB n m.gives && Lay.codeOk m.code)) := by
    show _ = _
    unfold okMB
    rw [hnm]
  go_enter Tryz.func41, Tryz.ntmps41
  go_wp2_with fail
  rw [← hW]
  clear hW
  refine (l1In m.name 0 19 _).mono ?_
  rw [← hnm]
  rintro e w1 ⟨rfl, rfl⟩
  clear hnm
  cases nm
  · have HF : Hid (okMB n m = false) := by show _ = _; rw [HOK.out]; simp
    go_wp2
    go_ret
    exact ⟨retB HF.out.symm, hwW⟩
  · by_cases h3 : m.args.length ≤ 3
    · have h3i : ¬ (3 : Int) < (m.args.length : Int) := by omega
      go_wp2_with fail
      refine (l4Type m.gives n _).mono ?_
      rintro e w1 ⟨rfl, rfl⟩
      cases hg : tyB n m.gives
      · have HF : Hid (okMB n m = false) := by show _ = _; rw [HOK.out, hg]; simp
        go_wp2
        go_ret
        exact ⟨retB HF.out.symm, hwW⟩
      · go_wp2_with fail
        refine (specCodeOk gc y2 m.code hs2 _ (HR.out.on hwW)).mono ?_
        rintro e w2 ⟨rfl, hb2⟩
        have hw2 : Below w.heap.size w w2 := below_over hwW hb2
        cases hc : Lay.codeOk m.code
        · have HF : Hid (okMB n m = false) := by show _ = _; rw [HOK.out, hc]; simp
          clear hb2
          go_wp2
          go_ret
          exact ⟨retB HF.out.symm, hw2⟩
        · have HF : Hid (okMB n m = m.args.all (tyB n)) := by show _ = _; rw [HOK.out, hc, hg]; simp [h3]
          clear HOK m0 m1 m2 m3
          go_wp2
          go_loopw [5] (fun i wr => ∃ k : Nat, k ≤ m.args.length ∧ i = .int .i64 k ∧ Hid ((m.args.take k).all (tyB n) = true) ∧ Below W.heap.size W wr) (fun i _ => m.args.length - (intOf i).toNat)
          case atStart => exact ⟨0, Nat.zero_le _, rfl, rfl, hb2⟩
          case round =>
            clear hb2 hw2
            obtain ⟨k, hk, rfl, hall, hb⟩ := hrel
            have hwr : Below w.heap.size w wr := below_over hwW hb
            obtain ⟨q1, _⟩ := (M0.out.on hb).g1
            by_cases hlt : k < m.args.length
            · obtain ⟨b, o, rfl, _, c1⟩ := (SI.on HI.out (Keep.of hwr)).get hlt
              unfold IntAt at c1
              rw [Nat.mul_one] at c1
              have HT : Hid (tyB n m.args[k] = true → (m.args.take (k + 1)).all (tyB n) = true) := fun h => take_all hlt hall.out h
              have HNO : Hid (tyB n m.args[k] = false → m.args.all (tyB n) = false) := fun h => all_no hlt h
              generalize m.args[k] = t at *
              have hki : (k : Int) < (m.args.length : Int) := by omega
              clear hall
              go_wp2_with fail
              refine (l4Type t n _).mono ?_
              rintro e w1 ⟨rfl, rfl⟩
              clear q1 c1
              cases ht : tyB n t
              · have HX : Hid (okMB n m = false) := by show _ = _; rw [HF.out]; exact HNO.out ht
                go_wp2
                go_ret
                exact ⟨retB HX.out.symm, hwr⟩
              · have HX : Hid ((m.args.take (k + 1)).all (tyB n) = true) := HT.out ht
                clear HT HNO
                go_wp2
                go_roundw
                case rel => exact ⟨k + 1, by omega, by go_num, HX.out, hb⟩
                case measure => simp [intOf]; omega
            · have HX : Hid (okMB n m = true) := by
                show _ = _
                rw [HF.out]
                have h := hall.out
                rw [List.take_of_length_le (by omega)] at h
                exact h
              go_wp2
              go_ret
              exact ⟨retB HX.out.symm, hwr⟩
    · have HF : Hid (okMB n m = false) := by show _ = _; rw [HOK.out]; simp [h3]
      have h3i : (3 : Int) < (m.args.length : Int) := by omega
      go_wp2
      go_ret
      exact ⟨retB HF.out.symm, hwW⟩
end Pg
end Go.Proofs.YtinanjjhkddikaaGreat

/- The contract of the other side's account of which programs are right. -/
namespace Go.Proofs.YtinanjjhkddikaaGreat
namespace Pg
open Go.ChangeShapes Go.WideShapes Go.ChangeAt Go.RowKit St

theorem okC_split' (p : Prg) (i : Nat) (c : Cls) : okCB p i c = (decide (-1 ≤ c.super) && decide (c.super < (i : Int)) && decide (c.fields.length ≤ 4) && c.fields.all (tyB p.length) && decide (c.meths.length ≤ 4) && (List.range c.meths.length).all (okK p c)) := rfl
theorem okK_zero' {p : Prg} {c : Cls} {m : Meth} (h : c.meths[0]? = some m) : okK p c 0 = (okMB p.length m && agreeF p m 6 c.super) := by simp [okK, h]
theorem okK_succ' {p : Prg} {c : Cls} {j : Nat} {m q : Meth} (h : c.meths[j + 1]? = some m) (hq : c.meths[j]? = some q) : okK p c (j + 1) = (okMB p.length m && decide (q.name < m.name) && agreeF p m 6 c.super) := by simp [okK, h, hq]
theorem okC_done' {p : Prg} {i : Nat} {c : Cls} (h1 : -1 ≤ c.super) (h2 : c.super < (i : Int)) (h3 : c.fields.length ≤ 4) (h4 : c.fields.all (tyB p.length) = true) (h5 : c.meths.length ≤ 4) (h : ∀ j, j < c.meths.length → okK p c j = true) : okCB p i c = true := by
  have : (List.range c.meths.length).all (okK p c) = true := List.all_eq_true.2 fun j hj => h j (List.mem_range.1 hj)
  rw [okC_split', this, h4]
  simp [h1, h2, h3, h5]
theorem mainOk_of' {p : Prg} {c : Cls} (h : p[0]? = some c) : (ownF c 0 = none → mainOk p = false) ∧ ∀ m, ownF c 0 = some m → mainOk p = (decide (m.args.length = 0) && decide (m.gives = -1)) := by
  unfold mainOk
  rw [h]
  refine ⟨fun h => ?_, fun m h => ?_⟩
  · simp [h]
  · simp [h]
/-- What stands in a round over the methods: the boxes of the program, of the class and of the method. -/
structure Boxes (s gc gm : Nat) (p : Prg) (c : Cls) (m : Meth) (b o cap : Nat) (z1 z2 x1 x2 : Option Addr) (t1 t2 y1 y2 : Nat) (w : World) : Prop where
  pb : Cells w s [.slice (some ⟨b, o, none⟩) p.length cap]
  cb : Cells w gc [.int .i64 c.super, .slice z1 c.fields.length t1, .slice z2 c.meths.length t2]
  mb : Cells w gm [.int .i64 m.name, .slice x1 m.args.length y1, .int .i64 m.gives, .slice x2 m.code.length y2]
theorem Boxes.on {s gc gm : Nat} {p : Prg} {c : Cls} {m : Meth} {b o cap : Nat} {z1 z2 x1 x2 : Option Addr} {t1 t2 y1 y2 : Nat} {u w : World} (h : Boxes s gc gm p c m b o cap z1 z2 x1 x2 t1 t2 y1 y2 u) (hb : Below u.heap.size u w) : Boxes s gc gm p c m b o cap z1 z2 x1 x2 t1 t2 y1 y2 w := ⟨h.pb.on hb, h.cb.on hb, h.mb.on hb⟩

set_option maxRecDepth 100000 in
set_option maxHeartbeats 8000000 in
theorem specProgramOk (B : Nat) (p : Prg) (a : Option Addr) (cap : Nat) (hsp : SmallP p) (w : World) (hp : SK front B w (.slice a p.length cap) p) :
    Calls Tryz.prog 24 #[.agg #[.slice a p.length cap]] w fun e w' => e = .returned (.bool (okP p)) ∧ Below w.heap.size w w' := by
  have hpl := hsp.1
  have HP : Hid (SK front B w (.slice a p.length cap) p) := hp
  have HSP : Hid (SmallP p) := hsp
  clear hp hsp
  by_cases hlen : 1 ≤ p.length ∧ p.length ≤ 6
  · obtain ⟨h1, h6⟩ := hlen
    have h1i : ¬ (p.length : Int) < 1 := by omega
    have h6i : ¬ (6 : Int) < (p.length : Int) := by omega
    obtain ⟨b, o, rfl, _, _⟩ := HP.out.get (k := 0) (by omega)
    obtain ⟨W, hW⟩ : ∃ W, W = w.alloc (.cells #[.slice (some ⟨b, o, none⟩) p.length cap] 30) := ⟨_, rfl⟩
    have hwW : Below w.heap.size w W := by rw [hW]; exact (Below.refl _ _).alloc (Nat.le_refl _) _
    have P0 : Hid (Cells W w.heap.size [.slice (some ⟨b, o, none⟩) p.length cap]) := by rw [hW]; exact Cells.new w _ rfl _ _
    go_enter Tryz.func24, Tryz.ntmps24
    go_wp2
    rw [← hW]
    clear hW
    go_loopw [4] (fun v wr => ∃ i : Nat, i ≤ p.length ∧ v = .int .i64 i ∧ Hid (∀ j, j < i → okAt p j = true) ∧ Below W.heap.size W wr) (fun v _ => p.length - (intOf v).toNat)
    case atStart => exact ⟨0, Nat.zero_le _, rfl, fun j h => absurd h (Nat.not_lt_zero _), Below.refl _ _⟩
    case round =>
      obtain ⟨i, hi, rfl, hall, hb⟩ := hrel
      have hwr : Below w.heap.size w wr := below_over hwW hb
      obtain ⟨pp0, _⟩ := (P0.out.on hb).g0
      by_cases hlt : i < p.length
      · have hii : (i : Int) < (p.length : Int) := by omega
        have hi0 : (0 : Int) ≤ (i : Int) := by omega
        obtain ⟨b', o', hbo, _, vf, vm, d0, d1, d2, hcv⟩ := HP.out.get hlt
        simp at hbo
        obtain ⟨rfl, rfl⟩ := hbo
        obtain ⟨z1, t1, rfl⟩ := hcv.1.form
        obtain ⟨z2, t2, rfl⟩ := hcv.2.form
        have l0 : b < w.heap.size := cell_lt d0
        have c0 := (hwr.cell l0).trans d0
        have c1 := (hwr.cell l0).trans d1
        have c2 := (hwr.cell l0).trans d2
        have HSUP : Hid (SupOk p i) := SupOk.of hall.out
        have HFL : Hid (SI true B w (.slice z1 p[i].fields.length t1) p[i].fields) := hcv.1
        have HM : Hid (SM front B w (.slice z2 p[i].meths.length t2) p[i].meths) := hcv.2
        have hsc := HSP.out.2 _ (List.getElem_mem hlt)
        have HSMM : Hid (∀ m ∈ p[i].meths, SmallM m) := hsc.2.2
        have hsf := hsc.1
        have hsm := hsc.2.1
        have HNO : Hid (okCB p i p[i] = false → okP p = false) := fun h => okP_no hlt (by rw [okAt_of (List.getElem?_eq_getElem hlt)]; exact h)
        have HYES : Hid (okCB p i p[i] = true → ∀ j, j < i + 1 → okAt p j = true) := fun h j hj => by
          by_cases e : j = i
          · rw [e, okAt_of (List.getElem?_eq_getElem hlt)]; exact h
          · exact hall.out j (by omega)
        generalize p[i] = c at *
        clear hcv hsc d0 d1 d2 hall
        obtain ⟨WC, hWC⟩ : ∃ WC, WC = wr.alloc (.cells #[.int .i64 c.super, .slice z1 c.fields.length t1, .slice z2 c.meths.length t2] 52) := ⟨_, rfl⟩
        have hbC : Below wr.heap.size wr WC := by rw [hWC]; exact (Below.refl _ _).alloc (Nat.le_refl _) _
        have CB : Hid (Cells WC wr.heap.size [.int .i64 c.super, .slice z1 c.fields.length t1, .slice z2 c.meths.length t2]) := by rw [hWC]; exact Cells.new wr _ rfl _ _
        have PB : Hid (Cells WC w.heap.size [.slice (some ⟨b, o, none⟩) p.length cap]) := (P0.out.on hb).on hbC
        have hwC : Below w.heap.size w WC := below_over hwr hbC
        have hWC' : Below W.heap.size W WC := below_over hb hbC
        by_cases hs1 : -1 ≤ c.super
        · have hs1' : ¬ c.super < -1 := by omega
          by_cases hs2 : c.super < (i : Int)
          · have hs2' : ¬ (i : Int) ≤ c.super := by omega
            by_cases h4 : c.fields.length ≤ 4
            · have h4i : ¬ (4 : Int) < (c.fields.length : Int) := by omega
              by_cases h4m : c.meths.length ≤ 4
              · have h4j : ¬ (4 : Int) < (c.meths.length : Int) := by omega
                go_wp2
                rw [← hWC]
                generalize hgc : wr.heap.size = gc at *
                clear hWC hbC hgc pp0 c0 c1 c2 hb
                go_loopw [6] (fun v wf => ∃ f : Nat, f ≤ c.fields.length ∧ v = .int .i64 f ∧ Hid ((c.fields.take f).all (tyB p.length) = true) ∧ Below WC.heap.size WC wf) (fun v _ => c.fields.length - (intOf v).toNat)
                case atStart => exact ⟨0, Nat.zero_le _, rfl, rfl, Below.refl _ _⟩
                case round =>
                  obtain ⟨f, hf, rfl, hfa, hbf⟩ := hrel
                  have hwf := below_over hwC hbf
                  obtain ⟨q1, _⟩ := (CB.out.on hbf).g1
                  by_cases hfl : f < c.fields.length
                  · obtain ⟨bf, of, rfl, _, e1⟩ := (SI.on HFL.out (Keep.of hwf)).get hfl
                    unfold IntAt at e1
                    rw [Nat.mul_one] at e1
                    have HT : Hid (tyB p.length c.fields[f] = true → (c.fields.take (f + 1)).all (tyB p.length) = true) := fun h => take_all hfl hfa.out h
                    have HFN : Hid (tyB p.length c.fields[f] = false → c.fields.all (tyB p.length) = false) := fun h => all_no hfl h
                    generalize c.fields[f] = t at *
                    have hfi : (f : Int) < (c.fields.length : Int) := by omega
                    clear hfa
                    go_wp2_with fail
                    refine (l4Type t p.length _).mono ?_
                    rintro e wz ⟨rfl, rfl⟩
                    clear q1 e1
                    cases ht : tyB p.length t
                    · have HX : Hid (okP p = false) := HNO.out (by rw [okC_split', HFN.out ht]; simp)
                      go_wp2
                      go_ret
                      exact ⟨retB HX.out.symm, hwf⟩
                    · have HX : Hid ((c.fields.take (f + 1)).all (tyB p.length) = true) := HT.out ht
                      clear HT HFN
                      go_wp2
                      go_roundw
                      case rel => exact ⟨f + 1, by omega, by go_num, HX.out, hbf⟩
                      case measure => simp [intOf]; omega
                  · have HTY : Hid (c.fields.all (tyB p.length) = true) := by
                      show _ = _
                      have h := hfa.out
                      rw [List.take_of_length_le (by omega)] at h
                      exact h
                    clear hfa
                    go_wp2
                    clear q1
                    go_loopw [7] (fun v wm => ∃ k : Nat, k ≤ c.meths.length ∧ v = .int .i64 k ∧ Hid (∀ j, j < k → okK p c j = true) ∧ Below WC.heap.size WC wm) (fun v _ => c.meths.length - (intOf v).toNat)
                    case atStart => exact ⟨0, Nat.zero_le _, rfl, fun j h => absurd h (Nat.not_lt_zero _), hbf⟩
                    case round =>
                      clear hbf hwf hf hfl
                      obtain ⟨k, hk, rfl, hmall, hbm⟩ := hrel
                      have hwm : Below w.heap.size w wr := below_over hwC hbm
                      by_cases hlt2 : k < c.meths.length
                      · have hki : (k : Int) < (c.meths.length : Int) := by omega
                        have hki0 : (0 : Int) ≤ (k : Int) := by omega
                        obtain ⟨bm, om, rfl, _, va, vc, d0, d1, d2, d3, hmv⟩ := HM.out.get hlt2
                        obtain ⟨x1, y1, rfl⟩ := hmv.1.form
                        obtain ⟨x2, y2, rfl⟩ := front.form hmv.2
                        have lm : bm < w.heap.size := cell_lt d0
                        have m0 := (hwm.cell lm).trans d0
                        have m1 := (hwm.cell lm).trans d1
                        have m2 := (hwm.cell lm).trans d2
                        have m3 := (hwm.cell lm).trans d3
                        have HMV : Hid (MV front B w (.slice x1 c.meths[k].args.length y1) (.slice x2 c.meths[k].code.length y2) c.meths[k]) := hmv
                        have HSM : Hid (SmallM c.meths[k]) := HSMM.out _ (List.getElem_mem hlt2)
                        clear hmv d0 d1 d2 d3
                        obtain ⟨cq2, _⟩ := (CB.out.on hbm).g2
                        obtain ⟨WM, hWM⟩ : ∃ WM, WM = wr.alloc (.cells #[.int .i64 c.meths[k].name, .slice x1 c.meths[k].args.length y1, .int .i64 c.meths[k].gives, .slice x2 c.meths[k].code.length y2] 55) := ⟨_, rfl⟩
                        have hbM : Below wr.heap.size wr WM := by rw [hWM]; exact (Below.refl _ _).alloc (Nat.le_refl _) _
                        have BXM : Hid (Boxes w.heap.size gc wr.heap.size p c c.meths[k] b o cap z1 (some ⟨bm, om, none⟩) x1 x2 t1 t2 y1 y2 WM) := ⟨(PB.out.on hbm).on hbM, (CB.out.on hbm).on hbM, by rw [hWM]; exact Cells.new wr _ rfl _ _⟩
                        have hwM : Below w.heap.size w WM := below_over hwm hbM
                        have hCM : Below WC.heap.size WC WM := below_over hbm hbM
                        have mb0 := BXM.out.mb.g0.1
                        have mb1 := BXM.out.mb.g1.1
                        have mb2 := BXM.out.mb.g2.1
                        have mb3 := BXM.out.mb.g3.1
                        have cb2 := BXM.out.cb.g2.1
                        have r0 := cell_regrown mb0
                        have r1 := cell_regrown mb1
                        have r2 := cell_regrown mb2
                        have r3 := cell_regrown mb3
                        have r4 := cell_regrown cb2
                        obtain ⟨mo, hmo⟩ : ∃ mo, mo = okMB p.length c.meths[k] := ⟨_, rfl⟩
                        have cM : ∀ d os, Calls Tryz.prog 41 #[.agg #[.int .i64 c.meths[k].name, .slice x1 c.meths[k].args.length y1, .int .i64 c.meths[k].gives, .slice x2 c.meths[k].code.length y2], .int .i64 p.length] (Sort.grow (redrawn WM d) os) fun e w'' => e = .returned (.bool mo) ∧ ∃ p : Regrown, w'' = Sort.grow (redrawn WM p.d) p.os := by
                          intro d os
                          rw [hmo]
                          exact Calls.regrown_of (l4Method B c.meths[k] p.length _ _ HSM.out _ (HMV.out.on (Keep.of (below_over hwM (below_regrown WM d os)))))
                        have HMO : Hid (mo = okMB p.length c.meths[k]) := hmo
                        clear hmo
                        cases k with
                        | zero =>
                          have HK : Hid (okK p c 0 = (okMB p.length c.meths[0] && agreeF p c.meths[0] 6 c.super)) := okK_zero' (List.getElem?_eq_getElem hlt2)
                          generalize c.meths[0] = m at *
                          simp only [Nat.zero_mul, Nat.add_zero] at m0 m1 m2 m3
                          go_wp2_with fail
                          rw [← hWM]
                          clear hWM m0 m1 m2 m3 cq2
                          generalize hgm : wr.heap.size = gm at *
                          clear hbM hbm hgm hwm
                          cases mo
                          · have HX : Hid (okP p = false) := HNO.out (okC_no (k := 0) hlt2 (by rw [HK.out, ← HMO.out]; rfl))
                            refine wp_region_quiet_below (by kernel_rfl) (by kernel_rfl) ?_
                            repeat (go_big_quiet_step ((go_at_call 41; exact cM _ _)))
                            refine wpQuiet_nil ?_
                            intro _ hw'
                            obtain ⟨⟨dq, osq⟩, hw''⟩ := hw'
                            subst hw''
                            have hbV := below_regrown WM dq osq
                            have hwV : Below w.heap.size w (Sort.grow (redrawn WM dq) osq) := below_over hwM hbV
                            have hCV : Below WC.heap.size WC (Sort.grow (redrawn WM dq) osq) := below_over hCM hbV
                            have BXV : Hid (Boxes w.heap.size gc gm p c m b o cap z1 (some ⟨bm, om, none⟩) x1 x2 t1 t2 y1 y2 (Sort.grow (redrawn WM dq) osq)) := BXM.out.on hbV
                            clear hbV r0 r1 r2 r3 r4 cM mb0 mb1 mb2 mb3 cb2
                            generalize Sort.grow (redrawn WM dq) osq = V at *
                            go_wp2
                            go_ret
                            exact ⟨retB HX.out.symm, hwV⟩
                          · have HKK : Hid (okK p c 0 = agreeF p m 6 c.super) := by show _ = _; rw [HK.out, ← HMO.out, Bool.true_and]
                            refine wp_region_quiet_below (by kernel_rfl) (by kernel_rfl) ?_
                            repeat (go_big_quiet_step ((go_at_call 41; exact cM _ _)))
                            refine wpQuiet_nil ?_
                            intro _ hw'
                            obtain ⟨⟨dq, osq⟩, hw''⟩ := hw'
                            subst hw''
                            have hbV := below_regrown WM dq osq
                            have hwV : Below w.heap.size w (Sort.grow (redrawn WM dq) osq) := below_over hwM hbV
                            have hCV : Below WC.heap.size WC (Sort.grow (redrawn WM dq) osq) := below_over hCM hbV
                            have BXV : Hid (Boxes w.heap.size gc gm p c m b o cap z1 (some ⟨bm, om, none⟩) x1 x2 t1 t2 y1 y2 (Sort.grow (redrawn WM dq) osq)) := BXM.out.on hbV
                            clear hbV r0 r1 r2 r3 r4 cM mb0 mb1 mb2 mb3 cb2 HK HMO
                            generalize Sort.grow (redrawn WM dq) osq = V at *
                            obtain ⟨cc0, _⟩ := BXV.out.cb.g0
                            go_wp2
                            clear cc0
                            go_loopw [9] (fun v wr => ∃ u : Int, v = .int .i64 u ∧ -1 ≤ u ∧ u < (i : Int) ∧ Hid (agreeF p m 6 c.super = agreeF p m 6 u) ∧ Below V.heap.size V wr) (fun v _ => (intOf v + 1).toNat)
                            case atStart => exact ⟨c.super, rfl, hs1, hs2, rfl, Below.refl _ _⟩
                            case round =>
                              obtain ⟨u, rfl, hu0, hu1, hag, hbu⟩ := hrel
                              have hwu : Below w.heap.size w wr := below_over hwV hbu
                              have hCu : Below WC.heap.size WC wr := below_over hCV hbu
                              have BXU : Hid (Boxes w.heap.size gc gm p c m b o cap z1 (some ⟨bm, om, none⟩) x1 x2 t1 t2 y1 y2 wr) := BXV.out.on hbu
                              by_cases hneg : u < 0
                              · have HY : Hid (∀ j, j < 0 + 1 → okK p c j = true) := fun j hj => by
                                  by_cases e : j = 0
                                  · rw [e, HKK.out, hag.out]; exact agreeF_neg p m 6 hneg
                                  · exact hmall.out j (by omega)
                                have hng : ¬ (0 : Int) ≤ u := by omega
                                clear hag
                                go_wp2
                                go_roundw
                                case rel => exact ⟨0 + 1, by omega, by go_num, HY.out, hCu⟩
                                case measure => simp [intOf]; omega
                              · obtain ⟨j2, rfl⟩ := Int.eq_ofNat_of_zero_le (show 0 ≤ u by omega)
                                have hjp : j2 < p.length := by omega
                                have hj2i : (j2 : Int) < (p.length : Int) := by omega
                                have hj20 : (0 : Int) ≤ (j2 : Int) := by omega
                                obtain ⟨b2, o2, hbo2, _, uf, um, e0, e1, e2, hcu⟩ := HP.out.get hjp
                                simp at hbo2
                                obtain ⟨rfl, rfl⟩ := hbo2
                                obtain ⟨z3, t3, rfl⟩ := hcu.1.form
                                obtain ⟨z4, t4, rfl⟩ := hcu.2.form
                                have k0 := (hwu.cell l0).trans e0
                                have k1 := (hwu.cell l0).trans e1
                                have k2 := (hwu.cell l0).trans e2
                                have HSM2 : Hid (SM front B w (.slice z4 p[j2].meths.length t4) p[j2].meths) := hcu.2
                                have hsc2 := HSP.out.2 _ (List.getElem_mem hjp)
                                have HSMM2 : Hid (∀ m ∈ p[j2].meths, SmallM m) := hsc2.2.2
                                have hsl2 := hsc2.2.1
                                have HST : Hid (agreeF p m 6 (j2 : Int) = (agree1 p[j2] m && agreeF p m 6 p[j2].super)) := agreeF_step HSUP.out m (by omega) (by omega) (List.getElem?_eq_getElem hjp)
                                have hsu := HSUP.out j2 _ (by omega) (List.getElem?_eq_getElem hjp)
                                have hsu1 := hsu.1
                                have hsu2 := hsu.2
                                generalize p[j2] = cu at *
                                clear hcu hsc2 hsu e0 e1 e2 hneg
                                obtain ⟨q0, _⟩ := BXU.out.pb.g0
                                obtain ⟨q1, _⟩ := BXU.out.mb.g0
                                have r0 := cell_regrown k0
                                have r1 := cell_regrown k1
                                have r2 := cell_regrown k2
                                have r3 := cell_regrown q0
                                have r4 := cell_regrown q1
                                obtain ⟨at', hat⟩ : ∃ at', at' = ownI cu m.name := ⟨_, rfl⟩
                                have cO : ∀ d os, Calls Tryz.prog 42 #[.agg #[.int .i64 cu.super, .slice z3 cu.fields.length t3, .slice z4 cu.meths.length t4], .int .i64 m.name] (Sort.grow (redrawn wr d) os) fun e w'' => e = .returned (.int .i64 at') ∧ ∃ p : Regrown, w'' = Sort.grow (redrawn wr p.d) p.os := by
                                  intro d os
                                  rw [hat]
                                  exact Calls.regrown_of (l4Own B cu z3 z4 t4 cu.fields.length t3 m.name hsl2 _ (SM.on HSM2.out (Keep.of (below_over hwu (below_regrown wr d os)))))
                                have HAT2 : Hid (at' = ownI cu m.name) := hat
                                clear hat
                                go_wp2_with fail
                                refine wp_region_quiet_below (by kernel_rfl) (by kernel_rfl) ?_
                                repeat (go_big_quiet_step ((go_at_call 42; exact cO _ _)))
                                refine wpQuiet_nil ?_
                                intro _ hw'
                                obtain ⟨⟨dq, osq⟩, hw''⟩ := hw'
                                subst hw''
                                have hbV := below_regrown wr dq osq
                                have hwu2 : Below w.heap.size w (Sort.grow (redrawn wr dq) osq) := below_over hwu hbV
                                have hVu2 : Below V.heap.size V (Sort.grow (redrawn wr dq) osq) := below_over hbu hbV
                                have BXW : Hid (Boxes w.heap.size gc gm p c m b o cap z1 (some ⟨bm, om, none⟩) x1 x2 t1 t2 y1 y2 (Sort.grow (redrawn wr dq) osq)) := BXU.out.on hbV
                                have s0 := r0 dq osq
                                have s2 := r2 dq osq
                                clear r0 r1 r2 r3 r4 cO k0 k1 k2 q0 q1 hbV hbu hwu hCu BXU
                                generalize Sort.grow (redrawn wr dq) osq = wr2 at *
                                obtain ⟨q0, _⟩ := BXW.out.pb.g0
                                have a0 := cell_regrown q0
                                have a1 := cell_regrown s2
                                rcases ownI_cases cu m.name with ⟨hI, hF⟩ | ⟨kk, x, hkk, hx, hI, hF⟩
                                · have hat1 : at' = -1 := by rw [HAT2.out]; exact hI
                                  subst hat1
                                  have HT : Hid (agreeF p m 6 c.super = agreeF p m 6 cu.super) := by
                                    show _ = _
                                    rw [hag.out, HST.out]; simp [agree1, hF]
                                  clear hI hF HAT2 hag HST
                                  go_wp2_with fail
                                  refine wp_region_quiet_below (by kernel_rfl) (by kernel_rfl) ?_
                                  repeat (go_big_quiet_step (fail))
                                  refine wpQuiet_nil ?_
                                  intro _ hw'
                                  obtain ⟨⟨dq, osq⟩, hw''⟩ := hw'
                                  subst hw''
                                  have hbV := below_regrown wr2 dq osq
                                  have hVu3 : Below V.heap.size V (Sort.grow (redrawn wr2 dq) osq) := below_over hVu2 hbV
                                  have q3 := a0 dq osq
                                  have s3 := cell_regrown s0 dq osq
                                  clear a0 a1 q0 s0 s2 hbV hVu2 hwu2 BXW
                                  generalize Sort.grow (redrawn wr2 dq) osq = wr3 at *
                                  go_wp2
                                  go_roundw
                                  case rel => exact ⟨cu.super, rfl, hsu1, by omega, HT.out, hVu3⟩
                                  case measure => simp [intOf]; omega
                                · have hat1 : at' = (kk : Int) := by rw [HAT2.out]; exact hI
                                  subst hat1
                                  have hkki : (kk : Int) < (cu.meths.length : Int) := by omega
                                  have hkk0 : (0 : Int) ≤ (kk : Int) := by omega
                                  obtain ⟨bx, ox, rfl, _, wa, wc, g0, g1, g2, g3, hxv⟩ := HSM2.out.get hkk
                                  obtain ⟨x3, y3, rfl⟩ := hxv.1.form
                                  have exx : cu.meths[kk] = x := by
                                    rw [List.getElem?_eq_getElem hkk] at hx
                                    simpa using hx
                                  rw [exx] at g1 g2 hxv
                                  have lx : bx < w.heap.size := cell_lt g1
                                  have g1' := (hwu2.cell lx).trans g1
                                  have g2' := (hwu2.cell lx).trans g2
                                  have HXI : Hid (SI true B w (.slice x3 x.args.length y3) x.args) := hxv.1
                                  have hxs := (HSMM2.out x (List.mem_of_getElem? hx)).1
                                  have HAX : Hid (agree1 cu m = (decide (x.args = m.args) && decide (x.gives = m.gives))) := by show _ = _; simp [agree1, hF]
                                  clear hI hF HAT2 g0 g1 g2 g3 hxv exx hx
                                  obtain ⟨n1, _⟩ := BXW.out.mb.g1
                                  obtain ⟨n2, _⟩ := BXW.out.mb.g2
                                  have a2 := cell_regrown g1'
                                  have a3 := cell_regrown g2'
                                  have a4 := cell_regrown n1
                                  have a5 := cell_regrown n2
                                  obtain ⟨lk, hlk⟩ : ∃ lk, lk = decide (x.args = m.args) := ⟨_, rfl⟩
                                  have cL : ∀ d os, Calls Tryz.prog 43 #[.slice x3 x.args.length y3, .slice x1 m.args.length y1] (Sort.grow (redrawn wr2 d) os) fun e w'' => e = .returned (.bool lk) ∧ ∃ p : Regrown, w'' = Sort.grow (redrawn wr2 p.d) p.os := by
                                    intro d os
                                    rw [hlk]
                                    exact Calls.regrown_of (l4Like B B x3 x1 y3 y1 x.args m.args hxs _ (SI.on HXI.out (Keep.of (below_over hwu2 (below_regrown wr2 d os)))) (SI.on HMV.out.1 (Keep.of (below_over hwu2 (below_regrown wr2 d os)))))
                                  cases lk
                                  · have HX : Hid (okP p = false) := HNO.out (okC_no (k := 0) hlt2 (by
                                      rw [HKK.out, hag.out, HST.out, HAX.out, ← hlk]; simp))
                                    clear hlk hag HST HAX
                                    go_wp2_with fail
                                    refine wp_region_quiet_below (by kernel_rfl) (by kernel_rfl) ?_
                                    repeat (go_big_quiet_step ((go_at_call 43; exact cL _ _)))
                                    refine wpQuiet_nil ?_
                                    intro _ hw'
                                    obtain ⟨⟨dq, osq⟩, hw''⟩ := hw'
                                    subst hw''
                                    have hbV := below_regrown wr2 dq osq
                                    have hwu3 : Below w.heap.size w (Sort.grow (redrawn wr2 dq) osq) := below_over hwu2 hbV
                                    clear a0 a1 a2 a3 a4 a5 cL q0 s0 s2 g1' g2' n1 n2 hbV hVu2 hwu2 BXW
                                    generalize Sort.grow (redrawn wr2 dq) osq = wr3 at *
                                    go_wp2
                                    go_ret
                                    exact ⟨retB HX.out.symm, hwu3⟩
                                  · by_cases hgv : x.gives = m.gives
                                    · have HT : Hid (agreeF p m 6 c.super = agreeF p m 6 cu.super) := by
                                        show _ = _
                                        rw [hag.out, HST.out, HAX.out, ← hlk]; simp [hgv]
                                      rw [hgv] at a3 g2'
                                      clear hlk hag HST HAX hgv
                                      have hgb : (m.gives != m.gives) = false := by simp
                                      go_wp2_with fail
                                      refine wp_region_quiet_below (by kernel_rfl) (by kernel_rfl) ?_
                                      repeat (go_big_quiet_step ((go_at_call 43; exact cL _ _)))
                                      refine wpQuiet_nil ?_
                                      intro _ hw'
                                      obtain ⟨⟨dq, osq⟩, hw''⟩ := hw'
                                      subst hw''
                                      have hbV := below_regrown wr2 dq osq
                                      have hVu3 : Below V.heap.size V (Sort.grow (redrawn wr2 dq) osq) := below_over hVu2 hbV
                                      have q3 := a0 dq osq
                                      have s3 := cell_regrown s0 dq osq
                                      clear a0 a1 a2 a3 a4 a5 cL q0 s0 s2 g1' g2' n1 n2 hbV hVu2 hwu2 BXW
                                      generalize Sort.grow (redrawn wr2 dq) osq = wr3 at *
                                      go_wp2
                                      go_roundw
                                      case rel => exact ⟨cu.super, rfl, hsu1, by omega, HT.out, hVu3⟩
                                      case measure => simp [intOf]; omega
                                    · have HX : Hid (okP p = false) := HNO.out (okC_no (k := 0) hlt2 (by
                                        rw [HKK.out, hag.out, HST.out, HAX.out]; simp [hgv]))
                                      have hgb : (x.gives != m.gives) = true := by simpa using hgv
                                      clear hlk hag HST HAX hgv
                                      go_wp2_with fail
                                      refine wp_region_quiet_below (by kernel_rfl) (by kernel_rfl) ?_
                                      repeat (go_big_quiet_step ((go_at_call 43; exact cL _ _)))
                                      refine wpQuiet_nil ?_
                                      intro _ hw'
                                      obtain ⟨⟨dq, osq⟩, hw''⟩ := hw'
                                      subst hw''
                                      have hbV := below_regrown wr2 dq osq
                                      have hwu3 : Below w.heap.size w (Sort.grow (redrawn wr2 dq) osq) := below_over hwu2 hbV
                                      clear a0 a1 a2 a3 a4 a5 cL q0 s0 s2 g1' g2' n1 n2 hbV hVu2 hwu2 BXW
                                      generalize Sort.grow (redrawn wr2 dq) osq = wr3 at *
                                      go_wp2
                                      go_ret
                                      exact ⟨retB HX.out.symm, hwu3⟩
                        | succ j =>
                          have hj : j < c.meths.length := by omega
                          have HK : Hid (okK p c (j + 1) = (okMB p.length c.meths[j + 1] && decide (c.meths[j].name < c.meths[j + 1].name) && agreeF p c.meths[j + 1] 6 c.super)) := okK_succ' (List.getElem?_eq_getElem hlt2) (List.getElem?_eq_getElem hj)
                          obtain ⟨bj, oj, hbj, _, va', vc', g0, _⟩ := HM.out.get hj
                          simp at hbj
                          obtain ⟨rfl, rfl⟩ := hbj
                          have v0 := (hwM.cell (p := ⟨bm, om + j * 4, none⟩) lm).trans g0
                          clear g0
                          generalize c.meths[j + 1] = m at *
                          generalize c.meths[j] = pv at *
                          have hwj : IntKind.i64.wrap (j : Int) = (j : Int) := by simp [IntKind.wrap, IntKind.signed, IntKind.bits]; omega
                          have hji : (j : Int) < (c.meths.length : Int) := by omega
                          have hj1 : (0 : Int) < (j : Int) + 1 := by omega
                          have hcast : ((j + 1 : Nat) : Int) = (j : Int) + 1 := by omega
                          go_wp2_with fail
                          rw [← hWM]
                          clear hWM m0 m1 m2 m3 cq2
                          generalize hgm : wr.heap.size = gm at *
                          clear hbM hbm hgm hwm
                          have r5 := cell_regrown v0
                          cases mo
                          · have HX : Hid (okP p = false) := HNO.out (okC_no (k := j + 1) hlt2 (by rw [HK.out, ← HMO.out]; rfl))
                            refine wp_region_quiet_below (by kernel_rfl) (by kernel_rfl) ?_
                            repeat (go_big_quiet_step ((go_at_call 41; exact cM _ _)))
                            refine wpQuiet_nil ?_
                            intro _ hw'
                            obtain ⟨⟨dq, osq⟩, hw''⟩ := hw'
                            subst hw''
                            have hbV := below_regrown WM dq osq
                            have hwV : Below w.heap.size w (Sort.grow (redrawn WM dq) osq) := below_over hwM hbV
                            have hCV : Below WC.heap.size WC (Sort.grow (redrawn WM dq) osq) := below_over hCM hbV
                            have BXV : Hid (Boxes w.heap.size gc gm p c m b o cap z1 (some ⟨bm, om, none⟩) x1 x2 t1 t2 y1 y2 (Sort.grow (redrawn WM dq) osq)) := BXM.out.on hbV
                            clear hbV r0 r1 r2 r3 r4 cM mb0 mb1 mb2 mb3 cb2 v0 r5
                            generalize Sort.grow (redrawn WM dq) osq = V at *
                            go_wp2
                            go_ret
                            exact ⟨retB HX.out.symm, hwV⟩
                          · by_cases hle : m.name ≤ pv.name
                            · have HX : Hid (okP p = false) := HNO.out (okC_no (k := j + 1) hlt2 (by
                                rw [HK.out]
                                have : decide (pv.name < m.name) = false := by simp; omega
                                rw [this]; simp))
                              refine wp_region_quiet_below (by kernel_rfl) (by kernel_rfl) ?_
                              repeat (go_big_quiet_step ((go_at_call 41; exact cM _ _)))
                              refine wpQuiet_nil ?_
                              intro _ hw'
                              obtain ⟨⟨dq, osq⟩, hw''⟩ := hw'
                              subst hw''
                              have hbV := below_regrown WM dq osq
                              have hwV : Below w.heap.size w (Sort.grow (redrawn WM dq) osq) := below_over hwM hbV
                              have hCV : Below WC.heap.size WC (Sort.grow (redrawn WM dq) osq) := below_over hCM hbV
                              have BXV : Hid (Boxes w.heap.size gc gm p c m b o cap z1 (some ⟨bm, om, none⟩) x1 x2 t1 t2 y1 y2 (Sort.grow (redrawn WM dq) osq)) := BXM.out.on hbV
                              clear hbV r0 r1 r2 r3 r4 cM mb0 mb1 mb2 mb3 cb2 v0 r5
                              generalize Sort.grow (redrawn WM dq) osq = V at *
                              go_wp2
                              go_ret
                              exact ⟨retB HX.out.symm, hwV⟩
                            · have HKK : Hid (okK p c (j + 1) = agreeF p m 6 c.super) := by
                                show _ = _
                                have : decide (pv.name < m.name) = true := by simp; omega
                                rw [HK.out, ← HMO.out, this, Bool.true_and, Bool.true_and]
                              refine wp_region_quiet_below (by kernel_rfl) (by kernel_rfl) ?_
                              repeat (go_big_quiet_step ((go_at_call 41; exact cM _ _)))
                              refine wpQuiet_nil ?_
                              intro _ hw'
                              obtain ⟨⟨dq, osq⟩, hw''⟩ := hw'
                              subst hw''
                              have hbV := below_regrown WM dq osq
                              have hwV : Below w.heap.size w (Sort.grow (redrawn WM dq) osq) := below_over hwM hbV
                              have hCV : Below WC.heap.size WC (Sort.grow (redrawn WM dq) osq) := below_over hCM hbV
                              have BXV : Hid (Boxes w.heap.size gc gm p c m b o cap z1 (some ⟨bm, om, none⟩) x1 x2 t1 t2 y1 y2 (Sort.grow (redrawn WM dq) osq)) := BXM.out.on hbV
                              clear hbV r0 r1 r2 r3 r4 cM mb0 mb1 mb2 mb3 cb2 v0 r5 HK HMO hle hwj
                              generalize Sort.grow (redrawn WM dq) osq = V at *
                              obtain ⟨cc0, _⟩ := BXV.out.cb.g0
                              go_wp2
                              clear cc0
                              go_loopw [9] (fun v wr => ∃ u : Int, v = .int .i64 u ∧ -1 ≤ u ∧ u < (i : Int) ∧ Hid (agreeF p m 6 c.super = agreeF p m 6 u) ∧ Below V.heap.size V wr) (fun v _ => (intOf v + 1).toNat)
                              case atStart => exact ⟨c.super, rfl, hs1, hs2, rfl, Below.refl _ _⟩
                              case round =>
                                obtain ⟨u, rfl, hu0, hu1, hag, hbu⟩ := hrel
                                have hwu : Below w.heap.size w wr := below_over hwV hbu
                                have hCu : Below WC.heap.size WC wr := below_over hCV hbu
                                have BXU : Hid (Boxes w.heap.size gc gm p c m b o cap z1 (some ⟨bm, om, none⟩) x1 x2 t1 t2 y1 y2 wr) := BXV.out.on hbu
                                by_cases hneg : u < 0
                                · have HY : Hid (∀ jj, jj < (j + 1) + 1 → okK p c jj = true) := fun jj hj => by
                                    by_cases e : jj = j + 1
                                    · rw [e, HKK.out, hag.out]; exact agreeF_neg p m 6 hneg
                                    · exact hmall.out jj (by omega)
                                  have hng : ¬ (0 : Int) ≤ u := by omega
                                  clear hag
                                  go_wp2
                                  go_roundw
                                  case rel => exact ⟨(j + 1) + 1, by omega, by go_num, HY.out, hCu⟩
                                  case measure => simp [intOf]; omega
                                · obtain ⟨j2, rfl⟩ := Int.eq_ofNat_of_zero_le (show 0 ≤ u by omega)
                                  have hjp : j2 < p.length := by omega
                                  have hj2i : (j2 : Int) < (p.length : Int) := by omega
                                  have hj20 : (0 : Int) ≤ (j2 : Int) := by omega
                                  obtain ⟨b2, o2, hbo2, _, uf, um, e0, e1, e2, hcu⟩ := HP.out.get hjp
                                  simp at hbo2
                                  obtain ⟨rfl, rfl⟩ := hbo2
                                  obtain ⟨z3, t3, rfl⟩ := hcu.1.form
                                  obtain ⟨z4, t4, rfl⟩ := hcu.2.form
                                  have k0 := (hwu.cell l0).trans e0
                                  have k1 := (hwu.cell l0).trans e1
                                  have k2 := (hwu.cell l0).trans e2
                                  have HSM2 : Hid (SM front B w (.slice z4 p[j2].meths.length t4) p[j2].meths) := hcu.2
                                  have hsc2 := HSP.out.2 _ (List.getElem_mem hjp)
                                  have HSMM2 : Hid (∀ m ∈ p[j2].meths, SmallM m) := hsc2.2.2
                                  have hsl2 := hsc2.2.1
                                  have HST : Hid (agreeF p m 6 (j2 : Int) = (agree1 p[j2] m && agreeF p m 6 p[j2].super)) := agreeF_step HSUP.out m (by omega) (by omega) (List.getElem?_eq_getElem hjp)
                                  have hsu := HSUP.out j2 _ (by omega) (List.getElem?_eq_getElem hjp)
                                  have hsu1 := hsu.1
                                  have hsu2 := hsu.2
                                  generalize p[j2] = cu at *
                                  clear hcu hsc2 hsu e0 e1 e2 hneg
                                  obtain ⟨q0, _⟩ := BXU.out.pb.g0
                                  obtain ⟨q1, _⟩ := BXU.out.mb.g0
                                  have r0 := cell_regrown k0
                                  have r1 := cell_regrown k1
                                  have r2 := cell_regrown k2
                                  have r3 := cell_regrown q0
                                  have r4 := cell_regrown q1
                                  obtain ⟨at', hat⟩ : ∃ at', at' = ownI cu m.name := ⟨_, rfl⟩
                                  have cO : ∀ d os, Calls Tryz.prog 42 #[.agg #[.int .i64 cu.super, .slice z3 cu.fields.length t3, .slice z4 cu.meths.length t4], .int .i64 m.name] (Sort.grow (redrawn wr d) os) fun e w'' => e = .returned (.int .i64 at') ∧ ∃ p : Regrown, w'' = Sort.grow (redrawn wr p.d) p.os := by
                                    intro d os
                                    rw [hat]
                                    exact Calls.regrown_of (l4Own B cu z3 z4 t4 cu.fields.length t3 m.name hsl2 _ (SM.on HSM2.out (Keep.of (below_over hwu (below_regrown wr d os)))))
                                  have HAT2 : Hid (at' = ownI cu m.name) := hat
                                  clear hat
                                  go_wp2_with fail
                                  refine wp_region_quiet_below (by kernel_rfl) (by kernel_rfl) ?_
                                  repeat (go_big_quiet_step ((go_at_call 42; exact cO _ _)))
                                  refine wpQuiet_nil ?_
                                  intro _ hw'
                                  obtain ⟨⟨dq, osq⟩, hw''⟩ := hw'
                                  subst hw''
                                  have hbV := below_regrown wr dq osq
                                  have hwu2 : Below w.heap.size w (Sort.grow (redrawn wr dq) osq) := below_over hwu hbV
                                  have hVu2 : Below V.heap.size V (Sort.grow (redrawn wr dq) osq) := below_over hbu hbV
                                  have BXW : Hid (Boxes w.heap.size gc gm p c m b o cap z1 (some ⟨bm, om, none⟩) x1 x2 t1 t2 y1 y2 (Sort.grow (redrawn wr dq) osq)) := BXU.out.on hbV
                                  have s0 := r0 dq osq
                                  have s2 := r2 dq osq
                                  clear r0 r1 r2 r3 r4 cO k0 k1 k2 q0 q1 hbV hbu hwu hCu BXU
                                  generalize Sort.grow (redrawn wr dq) osq = wr2 at *
                                  obtain ⟨q0, _⟩ := BXW.out.pb.g0
                                  have a0 := cell_regrown q0
                                  have a1 := cell_regrown s2
                                  rcases ownI_cases cu m.name with ⟨hI, hF⟩ | ⟨kk, x, hkk, hx, hI, hF⟩
                                  · have hat1 : at' = -1 := by rw [HAT2.out]; exact hI
                                    subst hat1
                                    have HT : Hid (agreeF p m 6 c.super = agreeF p m 6 cu.super) := by
                                      show _ = _
                                      rw [hag.out, HST.out]; simp [agree1, hF]
                                    clear hI hF HAT2 hag HST
                                    go_wp2_with fail
                                    refine wp_region_quiet_below (by kernel_rfl) (by kernel_rfl) ?_
                                    repeat (go_big_quiet_step (fail))
                                    refine wpQuiet_nil ?_
                                    intro _ hw'
                                    obtain ⟨⟨dq, osq⟩, hw''⟩ := hw'
                                    subst hw''
                                    have hbV := below_regrown wr2 dq osq
                                    have hVu3 : Below V.heap.size V (Sort.grow (redrawn wr2 dq) osq) := below_over hVu2 hbV
                                    have q3 := a0 dq osq
                                    have s3 := cell_regrown s0 dq osq
                                    clear a0 a1 q0 s0 s2 hbV hVu2 hwu2 BXW
                                    generalize Sort.grow (redrawn wr2 dq) osq = wr3 at *
                                    go_wp2
                                    go_roundw
                                    case rel => exact ⟨cu.super, rfl, hsu1, by omega, HT.out, hVu3⟩
                                    case measure => simp [intOf]; omega
                                  · have hat1 : at' = (kk : Int) := by rw [HAT2.out]; exact hI
                                    subst hat1
                                    have hkki : (kk : Int) < (cu.meths.length : Int) := by omega
                                    have hkk0 : (0 : Int) ≤ (kk : Int) := by omega
                                    obtain ⟨bx, ox, rfl, _, wa, wc, g0, g1, g2, g3, hxv⟩ := HSM2.out.get hkk
                                    obtain ⟨x3, y3, rfl⟩ := hxv.1.form
                                    have exx : cu.meths[kk] = x := by
                                      rw [List.getElem?_eq_getElem hkk] at hx
                                      simpa using hx
                                    rw [exx] at g1 g2 hxv
                                    have lx : bx < w.heap.size := cell_lt g1
                                    have g1' := (hwu2.cell lx).trans g1
                                    have g2' := (hwu2.cell lx).trans g2
                                    have HXI : Hid (SI true B w (.slice x3 x.args.length y3) x.args) := hxv.1
                                    have hxs := (HSMM2.out x (List.mem_of_getElem? hx)).1
                                    have HAX : Hid (agree1 cu m = (decide (x.args = m.args) && decide (x.gives = m.gives))) := by show _ = _; simp [agree1, hF]
                                    clear hI hF HAT2 g0 g1 g2 g3 hxv exx hx
                                    obtain ⟨n1, _⟩ := BXW.out.mb.g1
                                    obtain ⟨n2, _⟩ := BXW.out.mb.g2
                                    have a2 := cell_regrown g1'
                                    have a3 := cell_regrown g2'
                                    have a4 := cell_regrown n1
                                    have a5 := cell_regrown n2
                                    obtain ⟨lk, hlk⟩ : ∃ lk, lk = decide (x.args = m.args) := ⟨_, rfl⟩
                                    have cL : ∀ d os, Calls Tryz.prog 43 #[.slice x3 x.args.length y3, .slice x1 m.args.length y1] (Sort.grow (redrawn wr2 d) os) fun e w'' => e = .returned (.bool lk) ∧ ∃ p : Regrown, w'' = Sort.grow (redrawn wr2 p.d) p.os := by
                                      intro d os
                                      rw [hlk]
                                      exact Calls.regrown_of (l4Like B B x3 x1 y3 y1 x.args m.args hxs _ (SI.on HXI.out (Keep.of (below_over hwu2 (below_regrown wr2 d os)))) (SI.on HMV.out.1 (Keep.of (below_over hwu2 (below_regrown wr2 d os)))))
                                    cases lk
                                    · have HX : Hid (okP p = false) := HNO.out (okC_no (k := j + 1) hlt2 (by
                                        rw [HKK.out, hag.out, HST.out, HAX.out, ← hlk]; simp))
                                      clear hlk hag HST HAX
                                      go_wp2_with fail
                                      refine wp_region_quiet_below (by kernel_rfl) (by kernel_rfl) ?_
                                      repeat (go_big_quiet_step ((go_at_call 43; exact cL _ _)))
                                      refine wpQuiet_nil ?_
                                      intro _ hw'
                                      obtain ⟨⟨dq, osq⟩, hw''⟩ := hw'
                                      subst hw''
                                      have hbV := below_regrown wr2 dq osq
                                      have hwu3 : Below w.heap.size w (Sort.grow (redrawn wr2 dq) osq) := below_over hwu2 hbV
                                      clear a0 a1 a2 a3 a4 a5 cL q0 s0 s2 g1' g2' n1 n2 hbV hVu2 hwu2 BXW
                                      generalize Sort.grow (redrawn wr2 dq) osq = wr3 at *
                                      go_wp2
                                      go_ret
                                      exact ⟨retB HX.out.symm, hwu3⟩
                                    · by_cases hgv : x.gives = m.gives
                                      · have HT : Hid (agreeF p m 6 c.super = agreeF p m 6 cu.super) := by
                                          show _ = _
                                          rw [hag.out, HST.out, HAX.out, ← hlk]; simp [hgv]
                                        rw [hgv] at a3 g2'
                                        clear hlk hag HST HAX hgv
                                        have hgb : (m.gives != m.gives) = false := by simp
                                        go_wp2_with fail
                                        refine wp_region_quiet_below (by kernel_rfl) (by kernel_rfl) ?_
                                        repeat (go_big_quiet_step ((go_at_call 43; exact cL _ _)))
                                        refine wpQuiet_nil ?_
                                        intro _ hw'
                                        obtain ⟨⟨dq, osq⟩, hw''⟩ := hw'
                                        subst hw''
                                        have hbV := below_regrown wr2 dq osq
                                        have hVu3 : Below V.heap.size V (Sort.grow (redrawn wr2 dq) osq) := below_over hVu2 hbV
                                        have q3 := a0 dq osq
                                        have s3 := cell_regrown s0 dq osq
                                        clear a0 a1 a2 a3 a4 a5 cL q0 s0 s2 g1' g2' n1 n2 hbV hVu2 hwu2 BXW
                                        generalize Sort.grow (redrawn wr2 dq) osq = wr3 at *
                                        go_wp2
                                        go_roundw
                                        case rel => exact ⟨cu.super, rfl, hsu1, by omega, HT.out, hVu3⟩
                                        case measure => simp [intOf]; omega
                                      · have HX : Hid (okP p = false) := HNO.out (okC_no (k := j + 1) hlt2 (by
                                          rw [HKK.out, hag.out, HST.out, HAX.out]; simp [hgv]))
                                        have hgb : (x.gives != m.gives) = true := by simpa using hgv
                                        clear hlk hag HST HAX hgv
                                        go_wp2_with fail
                                        refine wp_region_quiet_below (by kernel_rfl) (by kernel_rfl) ?_
                                        repeat (go_big_quiet_step ((go_at_call 43; exact cL _ _)))
                                        refine wpQuiet_nil ?_
                                        intro _ hw'
                                        obtain ⟨⟨dq, osq⟩, hw''⟩ := hw'
                                        subst hw''
                                        have hbV := below_regrown wr2 dq osq
                                        have hwu3 : Below w.heap.size w (Sort.grow (redrawn wr2 dq) osq) := below_over hwu2 hbV
                                        clear a0 a1 a2 a3 a4 a5 cL q0 s0 s2 g1' g2' n1 n2 hbV hVu2 hwu2 BXW
                                        generalize Sort.grow (redrawn wr2 dq) osq = wr3 at *
                                        go_wp2
                                        go_ret
                                        exact ⟨retB HX.out.symm, hwu3⟩
                      · have HX : Hid (okCB p i c = true) := okC_done' hs1 hs2 h4 HTY.out h4m (fun j hj => hmall.out j (by omega))
                        have HY : Hid (∀ j, j < i + 1 → okAt p j = true) := HYES.out HX.out
                        have hWm : Below W.heap.size W wr := below_over hWC' hbm
                        obtain ⟨cq2, _⟩ := (CB.out.on hbm).g2
                        go_wp2
                        go_roundw
                        case rel => exact ⟨i + 1, by omega, by go_num, HY.out, hWm⟩
                        case measure => simp [intOf]; omega
              · have h4j : (4 : Int) < (c.meths.length : Int) := by omega
                have HX : Hid (okP p = false) := HNO.out (by rw [okC_split']; simp [h4m])
                go_wp2
                go_ret
                rw [← hWC]
                exact ⟨retB HX.out.symm, hwC⟩
            · have h4i : (4 : Int) < (c.fields.length : Int) := by omega
              have HX : Hid (okP p = false) := HNO.out (by rw [okC_split']; simp [h4])
              go_wp2
              go_ret
              rw [← hWC]
              exact ⟨retB HX.out.symm, hwC⟩
          · have hs2' : (i : Int) ≤ c.super := by omega
            have HX : Hid (okP p = false) := HNO.out (by rw [okC_split']; simp [hs2])
            go_wp2
            go_ret
            rw [← hWC]
            exact ⟨retB HX.out.symm, hwC⟩
        · have hs1' : c.super < -1 := by omega
          have HX : Hid (okP p = false) := HNO.out (by rw [okC_split']; simp [hs1])
          go_wp2
          go_ret
          rw [← hWC]
          exact ⟨retB HX.out.symm, hwC⟩
      · have HMN : Hid (okP p = mainOk p) := okP_main h1 h6 (fun j hj => hall.out j (by omega))
        have h0 : 0 < p.length := by omega
        have h0i : (0 : Int) < (p.length : Int) := by omega
        obtain ⟨b', o', hbo, _, vf, vm, d0, d1, d2, hcv⟩ := HP.out.get h0
        simp at hbo
        obtain ⟨rfl, rfl⟩ := hbo
        obtain ⟨z1, t1, rfl⟩ := hcv.1.form
        obtain ⟨z2, t2, rfl⟩ := hcv.2.form
        have l0 : b < w.heap.size := cell_lt d0
        have c0 := (hwr.cell l0).trans d0
        have c1 := (hwr.cell l0).trans d1
        have c2 := (hwr.cell l0).trans d2
        simp only [Nat.zero_mul, Nat.add_zero] at c0 c1 c2
        have HM : Hid (SM front B w (.slice z2 p[0].meths.length t2) p[0].meths) := hcv.2
        have hsm := (HSP.out.2 _ (List.getElem_mem h0)).2.1
        have HMO : Hid ((ownF p[0] 0 = none → mainOk p = false) ∧ ∀ m, ownF p[0] 0 = some m → mainOk p = (decide (m.args.length = 0) && decide (m.gives = -1))) := mainOk_of' (List.getElem?_eq_getElem h0)
        generalize p[0] = c at *
        clear hcv d0 d1 d2 hall
        have PR : Hid (Cells wr w.heap.size [.slice (some ⟨b, o, none⟩) p.length cap]) := P0.out.on hb
        go_wp2_with fail
        refine (l4Own B c z1 z2 t2 c.fields.length t1 0 hsm _ (SM.on HM.out (Keep.of hwr))).mono ?_
        rintro e w1 ⟨rfl, hb1⟩
        have hw1 : Below w.heap.size w w1 := below_over hwr hb1
        obtain ⟨q0, _⟩ := (PR.out.on hb1).g0
        have k2 := (hb1.cell (Nat.lt_of_lt_of_le l0 hwr.size)).trans c2
        clear hb1 c0 c1 c2 pp0 PR
        rcases ownI_cases c 0 with ⟨hI, hF⟩ | ⟨kk, x, hkk, hx, hI, hF⟩
        · have HX : Hid (okP p = false) := by show _ = _; rw [HMN.out]; exact HMO.out.1 hF
          rw [hI]
          go_wp2
          go_ret
          exact ⟨retB HX.out.symm, hw1⟩
        · have HX : Hid (okP p = (decide (x.args.length = 0) && decide (x.gives = -1))) := by show _ = _; rw [HMN.out]; exact HMO.out.2 x hF
          rw [hI]
          have hkki : (kk : Int) < (c.meths.length : Int) := by omega
          obtain ⟨bx, ox, rfl, _, wa, wc, g0, g1, g2, g3, hxv⟩ := HM.out.get hkk
          have exx : c.meths[kk] = x := by
            rw [List.getElem?_eq_getElem hkk] at hx
            simpa using hx
          obtain ⟨x3, y3, rfl⟩ := hxv.1.form
          rw [exx] at g1 g2
          have lx : bx < w.heap.size := cell_lt g1
          have g1' := (hw1.cell lx).trans g1
          have g2' := (hw1.cell lx).trans g2
          clear hI hF g0 g1 g2 g3 hxv exx hx HMN HMO
          by_cases ha : x.args.length = 0
          · have hai : ((x.args.length : Int) == 0) = true := by simp [ha]
            by_cases hg : x.gives = -1
            · have hgb : (x.gives == -1) = true := by simpa using hg
              have HX2 : Hid (okP p = true) := by show _ = _; rw [HX.out]; simp [ha, hg]
              clear HX ha hg
              go_wp2
              go_ret
              exact ⟨retB HX2.out.symm, hw1⟩
            · have hgb : (x.gives == -1) = false := by simpa using hg
              have HX2 : Hid (okP p = false) := by show _ = _; rw [HX.out]; simp [hg]
              clear HX ha hg
              go_wp2
              go_ret
              exact ⟨retB HX2.out.symm, hw1⟩
          · have hai : ((x.args.length : Int) == 0) = false := by
              have : ¬ (x.args.length : Int) = 0 := by omega
              simpa using this
            have HX2 : Hid (okP p = false) := by show _ = _; rw [HX.out]; simp [ha]
            clear HX ha
            go_wp2
            go_ret
            exact ⟨retB HX2.out.symm, hw1⟩
  · have HX : Hid (okP p = false) := by
      show _ = _
      by_cases h0 : p.length < 1
      · exact okP_few h0
      · exact okP_many (by omega)
    by_cases h0 : (p.length : Int) < 1
    · go_enter Tryz.func24, Tryz.ntmps24
      go_wp2
      go_ret
      exact ⟨retB HX.out.symm, (Below.refl _ _).alloc (Nat.le_refl _) _⟩
    · have h7 : (6 : Int) < (p.length : Int) := by omega
      go_enter Tryz.func24, Tryz.ntmps24
      go_wp2
      go_ret
      exact ⟨retB HX.out.symm, (Below.refl _ _).alloc (Nat.le_refl _) _⟩
end Pg
end Go.Proofs.YtinanjjhkddikaaGreat
