/- Contracts of the program's questions that go up: the lowest that is above two, and what is selected. -/
import Derived.Test.YthjjfjakldbimabHi2
import Derived.Test.YthjjfjakldbimabPi1
namespace Go.Proofs.Ythjjfjakldbimab
namespace Pg
open Go.ChangeShapes Go.WideShapes Go.ChangeAt Go.RowKit Go.Shelf St
attribute [local go_sem] Oper.semAt_some

theorem find_none' {α : Type} {f : α → Bool} {l : List α} (h : ∀ y ∈ l, f y = false) : l.find? f = none := by
  rw [List.find?_eq_none]; intro x hx; rw [h x hx]; simp
theorem find_pre {α : Type} {f : α → Bool} {l pre : List α} {x : α} (hp : pre ++ [x] <+: l) (h : ∀ y ∈ pre, f y = false) (hx : f x = true) : l.find? f = some x := by
  obtain ⟨r, rfl⟩ := hp
  rw [List.find?_append, List.find?_append, find_none' h]
  simp [hx]
/-- The round that leaves: none before was one, this one is. -/
def Hit (f : Int → Bool) (pre : List Int) (x : Int) : Prop := ∃ q, pre = q ++ [x] ∧ (∀ y ∈ q, f y = false) ∧ f x = true
theorem Hit.find {f : Int → Bool} {pre l : List Int} {x : Int} (h : Hit f pre x) (hp : pre <+: l) : l.find? f = some x := by
  obtain ⟨q, rfl, h1, h2⟩ := h
  exact find_pre hp h1 h2

set_option maxRecDepth 100000 in
set_option maxHeartbeats 2000000 in
theorem lowestOf (B : Nat) (p : Prg) (a : Option Addr) (cap : Nat) (u0 b : Int) (hu0 : -1 ≤ u0) (hu1 : u0 < (p.length : Int)) (hv0 : -1 ≤ b) (hv1 : b < (p.length : Int)) (h6 : p.length ≤ 6) (hsup : SupOk p p.length) (w : World) (hp : SK front B w (.slice a p.length cap) p) :
    Calls Try.prog 40 #[.agg #[.slice a p.length cap], .int .i64 u0, .int .i64 b] w fun e w' => e = .returned (.int .i64 (lowF p u0 b)) ∧ Below w.heap.size w w' := by
  have HP : Hid (SK front B w (.slice a p.length cap) p) := hp
  have HSUP : Hid (SupOk p p.length) := hsup
  clear hp hsup
  refine (callsIn_wide (n := 4)).1 ?_
  refine callsIn_of_wp_marks Try.func40 rfl trivial ?_ rfl
  simp only [Try.ntmps40, List.size_toArray, List.length_cons, List.length_nil, Nat.reduceAdd, Nat.reduceSub, Array.replicate_succ, Array.replicate_zero, List.push_toArray, List.append_toArray, List.nil_append, List.cons_append]
  gi_wp2_with (refine ⟨trivial, ?_⟩; gi_at_call 33; refine (upFrom_in _ a p.length cap u0 _).mono ?_; rintro e w' ⟨rfl, rfl⟩)
  have b0 := Boxed.new w 30 (.slice a p.length cap)
  have b1 := Boxed.new (w.alloc (.cells #[.slice a p.length cap] 30)) 2 (.int .i64 b)
  have b2 := Boxed.new ((w.alloc (.cells #[.slice a p.length cap] 30)).alloc (.cells #[.int .i64 b] 2)) 2 (.int .i64 0)
  have b3 := Boxed.new (((w.alloc (.cells #[.slice a p.length cap] 30)).alloc (.cells #[.int .i64 b] 2)).alloc (.cells #[.int .i64 0] 2)) 30 (.slice a p.length cap)
  have b4 := Boxed.new ((((w.alloc (.cells #[.slice a p.length cap] 30)).alloc (.cells #[.int .i64 b] 2)).alloc (.cells #[.int .i64 0] 2)).alloc (.cells #[.slice a p.length cap] 30)) 2 (.int .i64 u0)
  simp only [World.size_alloc] at b1 b2 b3 b4
  have hB0 : Below w.heap.size w (((((w.alloc (.cells #[.slice a p.length cap] 30)).alloc (.cells #[.int .i64 b] 2)).alloc (.cells #[.int .i64 0] 2)).alloc (.cells #[.slice a p.length cap] 30)).alloc (.cells #[.int .i64 u0] 2)) := (((((Below.refl _ w).alloc (Nat.le_refl _) _).alloc (by simp) _).alloc (by simp; omega) _).alloc (by simp; omega) _).alloc (by simp; omega) _
  refine wpIn_rangeFunc_ownF rfl (show 1 ≤ 4 by omega) (gf := 52) (lb := #[.pointer (some ⟨w.heap.size + 1 + 1 + 1 + 1, 0, none⟩), .pointer (some ⟨w.heap.size + 1 + 1 + 1, 0, none⟩)]) rfl trivial (enters_of Try.func52 (by kernel_rfl) rfl)
    (up_stops _ (by omega) (w.heap.size + 1 + 1 + 1 + 1) (w.heap.size + 1 + 1 + 1) B p a cap u0 hu0 hu1 h6 HSUP.out w _ HP.out hB0 b4.cell (b3.alloc _)) kp_t (kp_b (by simp; omega) (by simp)) (Below.refl _ _) (fun _ => rfl)
    (fun pre W => (Hid (∀ y ∈ pre, undB p b y = false) ∧ W.cell? ⟨w.heap.size, 0, none⟩ = some (.slice a p.length cap) ∧ W.cell? ⟨w.heap.size + 1, 0, none⟩ = some (.int .i64 b) ∧ W.cell? ⟨w.heap.size + 1 + 1, 0, none⟩ = some (.int .i64 0) ∧ W.frozen? ⟨w.heap.size + 1 + 1, 0, none⟩ = false) ∧ Below w.heap.size w W)
    (fun c pre W => (c = .ret ∧ ∃ x, Hid (Hit (undB p b) pre x) ∧ W.cell? ⟨w.heap.size + 1 + 1, 0, none⟩ = some (.int .i64 x)) ∧ Below w.heap.size w W)
    (OwnFrom.and (Own.from (fun s A B row hs hg hr => ⟨hs.1, cell_kept hs.2.1 hg hr, cell_kept hs.2.2.1 hg hr, cell_kept hs.2.2.2.1 hg hr, (frozen_kept hs.2.2.2.1 hg hr).trans hs.2.2.2.2⟩) _) (ownFrom_below (Nat.le_refl _) (by simp; omega)))
    (fun c => OwnFrom.and (Own.from (fun s A B row hs hg hr => ⟨hs.1, hs.2.elim fun x hx => ⟨x, hx.1, cell_kept hx.2 hg hr⟩⟩) _) (ownFrom_below (Nat.le_refl _) (by simp; omega)))
    ⟨⟨fun _ h => absurd h (by simp), ((((b0.alloc _).alloc _).alloc _).alloc _).cell, (((b1.alloc _).alloc _).alloc _).cell, ((b2.alloc _).alloc _).cell, ((b2.alloc _).alloc _).frozen⟩, hB0⟩
    (fun x => { tmps := #[.agg #[.slice a p.length cap], .int .i64 u0, .int .i64 b, .pointer (some ⟨w.heap.size, 0, none⟩), undef, .pointer (some ⟨w.heap.size + 1, 0, none⟩), .pointer (some ⟨w.heap.size + 1 + 1, 0, none⟩), .int .i64 x, .agg #[.slice a p.length cap], .int .i64 u0, .func (.func 52) #[] #[.pointer (some ⟨w.heap.size + 1 + 1 + 1 + 1, 0, none⟩), .pointer (some ⟨w.heap.size + 1 + 1 + 1, 0, none⟩)], .int .i64 x, undef, undef, undef, undef, undef], defers := [] }) ?assign ?body ?done ?stop
  case assign =>
    intro l x W K hK
    gi_wp2
    exact hK
  case body =>
    rintro l pre x W ⟨⟨hne, c0, c1, c2, f2⟩, hB⟩ _
    clear b0 b1 b2 b3 b4 hB0
    gi_wp2_with fail
    refine ⟨trivial, ?_⟩
    refine (CallsIn.inRound l (callsIn_wide.2 (isUnder B p a cap b x hv0 hv1 h6 HSUP.out W (SK.on HP.out (Keep.of hB))))).mono ?_
    rintro e w1 ⟨rfl, hb1⟩
    have hB1 : Below w.heap.size w w1 := below_over hB hb1
    have d0 := (hb1.cell (cell_lt c0)).trans c0
    have d1 := (hb1.cell (cell_lt c1)).trans c1
    have d2 := (hb1.cell (cell_lt c2)).trans c2
    have e2 := (hb1.frozen (p := ⟨w.heap.size + 1 + 1, 0, none⟩) (cell_lt c2)).trans f2
    have HK : Hid (KeepsOthers W w1) := keeps_of hb1
    have HKP : Hid (Kp w.heap.size [w.heap.size + 1 + 1 + 1] W w1) := Kp.on hb1 hB.size
    clear c0 c1 c2 f2 hb1
    cases hq : undB p b x
    · have HNE : Hid (∀ y ∈ pre ++ [x], undB p b y = false) := fun y hy => (List.mem_append.1 hy).elim (hne.out y) (fun e => by simp at e; subst e; exact hq)
      gi_wp2
      exact ⟨HK.out, HKP.out, ⟨HNE, d0, d1, d2, e2⟩, hB1⟩
    · have HH : Hid (Hit (undB p b) (pre ++ [x]) x) := ⟨pre, rfl, hne.out, hq⟩
      gi_wp2
      exact ⟨HK.out.trans (KeepsOthers.setCell _ _ _), ⟨rfl, x, HH, World.cell?_setCell_same' _ _ _ (by rw [d2]; rfl)⟩, hB1.setCell (p := ⟨w.heap.size + 1 + 1, 0, none⟩) (by simp; omega) _⟩
  case done =>
    rintro D ys W hD rfl ⟨⟨hne, _, _, hcr, hfr⟩, hB⟩ hK
    gi_wp2
    have hK' := (KeepsOthers.setCell W ⟨w.heap.size + 1 + 1, 0, none⟩ (.int .i64 (-1))).same D _ hK rfl
    refine ⟨by simp, .inl ⟨_, _, rfl, run_takeDeferred hK', ?_⟩⟩
    have hc5 := cell_kept (World.cell?_setCell_same' W ⟨w.heap.size + 1 + 1, 0, none⟩ (.int .i64 (-1)) (by rw [hcr]; rfl)) (grownBy_putObj' _ D (.deferred none)) (fun r e => by cases e; exact ⟨_, hK', rfl⟩)
    refine ⟨.int .i64 (-1), ?_, by rw [show lowF p u0 b = -1 from by unfold lowF; rw [find_none' hne.out]; rfl], (hB.setCell (p := ⟨w.heap.size + 1 + 1, 0, none⟩) (by simp; omega) _).trans (belowK_b (w := w) (Nat.le_refl _) _ D _ _ (by simp at hD; omega) hK' rfl rfl)⟩
    simp [results, Try.f40, go_sem, hc5]
  case stop =>
    rintro D c pre W hD hpre ⟨⟨rfl, x, hin, hcr⟩, hB⟩ hK
    gi_wp2
    refine ⟨by simp, .inl ⟨_, _, rfl, run_takeDeferred hK, ?_⟩⟩
    have hc5 := cell_kept hcr (grownBy_putObj' _ D (.deferred none)) (fun r e => by cases e; exact ⟨_, hK, rfl⟩)
    refine ⟨.int .i64 x, ?_, by rw [show lowF p u0 b = x from by unfold lowF; rw [hin.out.find hpre]; rfl], hB.trans (belowK_b (w := w) (Nat.le_refl _) W D _ _ (by simp at hD; omega) hK rfl rfl)⟩
    simp [results, Try.f40, go_sem, hc5]
end Pg
end Go.Proofs.Ythjjfjakldbimab
