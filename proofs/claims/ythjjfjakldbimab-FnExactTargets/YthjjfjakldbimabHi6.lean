/- Contracts of the program's lists of those above and below. -/
import Derived.Test.YthjjfjakldbimabHi2
import Derived.Test.YthjjfjakldbimabHs0
namespace Go.Proofs.Ythjjfjakldbimab
namespace Pg
open Go.ChangeShapes Go.WideShapes Go.ChangeAt Go.RowKit Go.Shelf St
attribute [local go_sem] Oper.semAt_some

def upA (p : Prg) (c : Int) : List Int := if okP p && inB p c then upL p c else []
def downA (p : Prg) (c : Int) : List Int := if okP p && inB p c then downL p c else []
theorem upA_len (p : Prg) (c : Int) : (upA p c).length ≤ 24 := by
  unfold upA; split
  · have := upL_len p c; omega
  · simp
theorem downL_len (p : Prg) (c : Int) (h : p.length ≤ 6) : (downL p c).length ≤ 6 := by
  unfold downL
  have h1 := List.length_filter_le (fun i => undB p i c) (allC p)
  have h2 : (allC p).length = p.length := by simp [allC]
  omega
theorem downA_len (p : Prg) (c : Int) : (downA p c).length ≤ 24 := by
  unfold downA; split
  · rename_i h
    have := downL_len p c (okP_len (okIn h).1).2; omega
  · simp
/-- A list of the caller's own, in a box. -/
def BoxL (n₀ b : Nat) (W : World) (l : List Int) : Prop := ∃ v, Boxed W b 26 v ∧ Grow n₀ W v l
theorem nums_map (l : List Int) : nums l = l.map (Value.int .i64) := rfl
theorem boxL_own {β : Type} (n₀ b : Nat) (f : β → List Int) : Own (fun (s : β) W => BoxL n₀ b W (f s)) := fun s X Y row hs hg hr => by
  obtain ⟨v, h1, h2, h3⟩ := hs
  obtain ⟨v', k1, k2, k3⟩ := holdsRow_own (β := Unit) n₀ b 26 2 1 (fun _ => (f s).length) (fun _ => nums (f s)) (fun _ v => v ≠ .slice none 0 0) () X Y row ⟨v, h1, h2, h3⟩ hg hr
  exact ⟨v', k1, k2, k3⟩
theorem BoxL.below {n₀ b : Nat} {W W' : World} {l : List Int} (h : BoxL n₀ b W l) (hb : Below W.heap.size W W') : BoxL n₀ b W' l := by
  obtain ⟨v, h1, h2⟩ := h
  exact ⟨v, (hb.block b h1.lt).trans h1, h2.on hb⟩

/-- An append onto the caller's own list, in its box: what is kept of the others' boxes. -/
theorem kp_app {W w1 : World} {n₀ bA : Nat} {bs : List Nat} {v v' : Value} {k m : Nat} {xs ys : List Value} {tmp : Obj}
    (hv : Boxed W bA 26 v) (hrow : W.ownsRow n₀ 2 1 v k xs) (hn₀ : n₀ ≤ W.heap.size) (hB : n₀ ≤ bA) (hown' : w1.ownsRow n₀ 2 1 v' m ys) (hgrow : (W.alloc tmp).grownBy w1 v.ownBlock)
    (hbs : ∀ b ∈ bs, b ≠ bA ∧ b < W.heap.size ∧ some b ≠ v.ownBlock) : Kp n₀ bs W (w1.setCell ⟨bA, 0, none⟩ v') := by
  obtain ⟨_, _, _, _, hb2⟩ := hv.appended (by decide) hrow hn₀ hB hown' hgrow
  refine ⟨hb2, fun b hb hl => ?_⟩
  obtain ⟨h1, h2, h3⟩ := hbs b hb
  rw [Below.heap_setCell w1 ⟨bA, 0, none⟩ v' b h1, hgrow.block b (by simp; omega) h3]
  exact Below.heap_alloc W tmp b hl
theorem box_prog {W : World} {bx n₀ : Nat} {v : Value} {k : Nat} {xs : List Value} {o : Value} (h : Boxed W bx 30 o) (hrow : W.ownsRow n₀ 2 1 v k xs) : some bx ≠ v.ownBlock := h.not_row (by decide) hrow
/-- A box of one number is no row's block, where the row began later. -/
theorem box_off {n₀ bx : Nat} {W : World} {v : Value} {k : Nat} {xs : List Value} (hrow : W.ownsRow n₀ 2 1 v k xs) (hb : bx < n₀) : some bx ≠ v.ownBlock := fun e => by
  have := (hrow.lt bx e.symm).1
  omega

set_option maxRecDepth 100000 in
set_option maxHeartbeats 2000000 in
theorem implAboveOf (B : Nat) (p : Prg) (a : Option Addr) (cap : Nat) (t : Int) (hsp : SmallP p) (w : World) (hp : SK front B w (.slice a p.length cap) p) :
    Calls Try.prog 12 #[.agg #[.slice a p.length cap], .int .i64 t] w fun e w' => ∃ v, e = .returned v ∧ Grow w.heap.size w' v (upA p t) ∧ Below w.heap.size w w' := by
  obtain ⟨i0, hif, hz0, hz1, hz2⟩ := info_parts infoN
  have HP : Hid (SK front B w (.slice a p.length cap) p) := hp
  have HSP : Hid (SmallP p) := hsp
  clear hp hsp
  obtain ⟨V, hV⟩ : ∃ V, V = (w.alloc (.cells #[.slice a p.length cap] 30)).alloc (.cells #[] 2) := ⟨_, rfl⟩
  have GV : Hid (Grow w.heap.size V (.slice (some ⟨w.heap.size + 1, 0, none⟩) 0 0) []) := by
    have h := (grow_start (w.alloc (.cells #[.slice a p.length cap] 30))).base' (B' := w.heap.size) (by simp)
    simp only [World.size_alloc] at h
    rw [hV]; exact h
  have HZV : Hid (V.heap.size = w.heap.size + 1 + 1) := by show _ = _; rw [hV]; simp
  obtain ⟨Y, hY⟩ : ∃ Y, Y = V.alloc (.cells #[.slice (some ⟨w.heap.size + 1, 0, none⟩) 0 0] 26) := ⟨_, rfl⟩
  have hwY : Below w.heap.size w Y := by rw [hY, hV]; exact (((Below.refl _ w).alloc (Nat.le_refl _) _).alloc (by simp) _).alloc (by simp; omega) _
  have PY : Hid (Boxed Y w.heap.size 30 (.slice a p.length cap)) := by rw [hY, hV]; exact ((Boxed.new w _ _).alloc _).alloc _
  have AY : Hid (BoxL w.heap.size (w.heap.size + 1 + 1) Y []) := by
    rw [hY]
    refine ⟨_, ?_, GV.out.on ((Below.refl _ _).alloc (Nat.le_refl _) _)⟩
    have h := Boxed.new V 26 (.slice (some ⟨w.heap.size + 1, 0, none⟩) 0 0)
    rw [HZV.out] at h
    exact h
  refine (callsIn_wide (n := 4)).1 ?_
  refine callsIn_of_wp_marks Try.func12 rfl trivial ?_ rfl
  simp only [Try.ntmps12, List.size_toArray, List.length_cons, List.length_nil, Nat.reduceAdd, Nat.reduceSub, Array.replicate_succ, Array.replicate_zero, List.push_toArray, List.append_toArray, List.nil_append, List.cons_append]
  gi_wp2_with fail
  rw [← hV, ← hY]
  clear hV hY GV HZV
  refine ⟨trivial, ?_⟩
  refine (callsIn_wide.2 (isRightClass B p a cap t HSP.out Y (SK.on HP.out (Keep.of hwY)))).mono ?_
  rintro e w1 ⟨rfl, hb1⟩
  have hw1 : Below w.heap.size w w1 := below_over hwY hb1
  have P1 : Hid (Boxed w1 w.heap.size 30 (.slice a p.length cap)) := (hb1.block _ PY.out.lt).trans PY.out
  have A1 : Hid (BoxL w.heap.size (w.heap.size + 1 + 1) w1 []) := AY.out.below hb1
  have p1 := P1.out.cell
  clear PY AY hb1 hwY
  cases hok : (okP p && inB p t)
  · have HN : Hid (upA p t = []) := by show _ = _; unfold upA; rw [hok]; rfl
    obtain ⟨v, hv, hg⟩ := A1.out
    have c1 := hv.cell
    have HG : Hid (Grow w.heap.size w1 v []) := hg
    clear hg
    gi_wp2
    refine ⟨_, results_tmp rfl _ _ _, v, rfl, by rw [HN.out]; exact HG.out, hw1⟩
  · have HN : Hid (upA p t = upL p t) := by show _ = _; unfold upA; rw [hok]; rfl
    obtain ⟨hk, h0, h1⟩ := okIn hok
    have h6 := (okP_len hk).2
    have HSU : Hid (SupOk p p.length) := okP_sup hk
    clear hk hok
    have hlw : w.heap.size + 1 + 1 < w1.heap.size := by obtain ⟨v, hv, _⟩ := A1.out; exact hv.lt
    gi_wp2_with (refine ⟨trivial, ?_⟩; gi_at_call 33; refine (upFrom_in _ a p.length cap t _).mono ?_; rintro e w' ⟨rfl, rfl⟩)
    have b3 := Boxed.new w1 30 (.slice a p.length cap)
    have b4 := Boxed.new (w1.alloc (.cells #[.slice a p.length cap] 30)) 2 (.int .i64 t)
    simp only [World.size_alloc] at b4
    have hbZ : Below w1.heap.size w1 ((w1.alloc (.cells #[.slice a p.length cap] 30)).alloc (.cells #[.int .i64 t] 2)) := ((Below.refl _ w1).alloc (Nat.le_refl _) _).alloc (by simp) _
    have hB0 : Below w.heap.size w ((w1.alloc (.cells #[.slice a p.length cap] 30)).alloc (.cells #[.int .i64 t] 2)) := below_over hw1 hbZ
    have A2 : Hid (BoxL w.heap.size (w.heap.size + 1 + 1) ((w1.alloc (.cells #[.slice a p.length cap] 30)).alloc (.cells #[.int .i64 t] 2)) []) := A1.out.below hbZ
    have hzw := hw1.size
    refine wpIn_rangeFunc_ownF rfl (show 1 ≤ 4 by omega) (gf := 52) (lb := #[.pointer (some ⟨w1.heap.size + 1, 0, none⟩), .pointer (some ⟨w1.heap.size, 0, none⟩)]) rfl trivial (enters_of Try.func52 (by kernel_rfl) rfl)
      (up_stops _ (by omega) (w1.heap.size + 1) w1.heap.size B p a cap t (by omega) h1 h6 HSU.out w _ HP.out hB0 b4.cell (b3.alloc _)) kp_t (kp_b (by simp; omega) (by simp; omega)) (Below.refl _ _) (fun _ => rfl)
      (fun pre W => (BoxL w.heap.size (w.heap.size + 1 + 1) W pre ∧ Boxed W w1.heap.size 30 (.slice a p.length cap)) ∧ Below w.heap.size w W)
      (fun _ _ _ => False)
      (OwnFrom.and (Own.from (fun s X Y row hs hg hr => ⟨boxL_own w.heap.size (w.heap.size + 1 + 1) (fun x : List Int => x) s X Y row hs.1 hg hr, boxed_own w1.heap.size 30 (fun _ : List Int => .slice a p.length cap) s X Y row hs.2 hg hr⟩) _) (ownFrom_below (Nat.le_refl _) (by simp; omega)))
      (fun _ _ _ _ _ hs _ _ => hs)
      ⟨⟨A2.out, b3.alloc _⟩, hB0⟩
      (fun x => { tmps := #[.agg #[.slice a p.length cap], .int .i64 t, .pointer (some ⟨w.heap.size, 0, none⟩), undef, .slice none 0 0, .pointer (some ⟨w.heap.size + 1 + 1, 0, none⟩), .int .i64 x, .slice (some ⟨w.heap.size + 1, 0, none⟩) 0 0, .agg #[.slice a p.length cap], .int .i64 t, .bool true, .bool false, undef, .agg #[.slice a p.length cap], .int .i64 t, .func (.func 52) #[] #[.pointer (some ⟨w1.heap.size + 1, 0, none⟩), .pointer (some ⟨w1.heap.size, 0, none⟩)], .int .i64 x, undef, undef, undef, undef, undef], defers := [] }) ?assign ?body ?done ?stop
    case assign =>
      intro l x W K hK
      gi_wp2
      exact hK
    case body =>
      rintro l pre x W ⟨⟨⟨v, hv, hg⟩, hbx⟩, hB⟩ hlt
      obtain ⟨g, cp, rfl⟩ := hg.form
      have hc := hv.cell
      gi_wp2_with (gi_at_builtin; refine wpListIn_append_own _ rfl _ _ 26 rfl w.heap.size 2 i0 (.int .i64 0) 1 8 Try.underlying26 hif hz0 hz1 hz2 rfl (by decide) _ _ _ rfl (hg.1.alloc _) ⟨W.heap.size, 0, none⟩ 1 1 [.int .i64 x] rfl rfl (cell_one_new _ _ _) (by simp [Value.oneCell']) (by unfold maxLen; omega) (by omega) (by have := hB.size; simp; omega) ?_; intro v' w2 hown' hgrow hnil; obtain ⟨g', cap', rfl⟩ := ownsRow_succ hown'; obtain ⟨hv1, hv2, hr2, hk2, hb2⟩ := hv.appended (by decide) hg.1 hB.size (by omega) hown' hgrow; have hc1 := hv1.cell; have hf1 := hv1.frozen)
      exact ⟨hk2, kp_app hv hg.1 hB.size (by omega) hown' hgrow (by simp; exact ⟨by omega, hbx.lt, box_prog hbx hg.1⟩), ⟨⟨_, hv2, grow_next hr2 (by simp)⟩, ((kp_app (bs := [w1.heap.size]) hv hg.1 hB.size (by omega) hown' hgrow (by simp; exact ⟨by omega, hbx.lt, box_prog hbx hg.1⟩)).boxed (by simp) hbx)⟩, hB.trans hb2⟩
    case done =>
      rintro D ys W hD hys ⟨⟨⟨v, hv, hg⟩, _⟩, hB⟩ hK
      have hc := hv.cell
      gi_wp2
      refine ⟨by simp, .inl ⟨_, _, rfl, run_takeDeferred hK, ?_⟩⟩
      refine ⟨_, results_tmp rfl _ _ _, v, rfl, ?_, hB.trans (belowK_b (w := w) (Nat.le_refl _) W D _ _ (by simp at hD; omega) hK rfl rfl)⟩
      rw [HN.out, ← hys]
      exact ⟨ownsRow_putObj hg.1 _ hK rfl, hg.2⟩
    case stop =>
      rintro D c pre W _ _ h _
      exact h.elim
end Pg
end Go.Proofs.Ythjjfjakldbimab
