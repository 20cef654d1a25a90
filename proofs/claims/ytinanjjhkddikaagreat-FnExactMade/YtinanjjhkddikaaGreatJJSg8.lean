/- Contracts of both sides' account of the fields of a class. -/
import Derived.Test.YtinanjjhkddikaaGreatJJLo0
import Derived.Test.YtinanjjhkddikaaGreatJJSg0
import Derived.Deep.RegionLaw
import Derived.Test.YtinanjjhkddikaaGreatJJPs1
import Derived.Test.YtinanjjhkddikaaGreatJJHi1
import Derived.Maps.AppendAt
import Derived.Maps.OwnIn
import Derived.RangeFuncWrites
import Derived.Deep.RegionHeld3
import Derived.Deep.LoopGhost
namespace Go.Proofs.YtinanjjhkddikaaGreat
namespace Pg
open Go.ChangeShapes Go.WideShapes Go.ChangeAt Go.RowKit St

end Pg
end Go.Proofs.YtinanjjhkddikaaGreat

/- Contracts of both sides' question whether a program and a class of it are right. -/
namespace Go.Proofs.YtinanjjhkddikaaGreat
namespace Pg
open Go.ChangeShapes Go.WideShapes Go.ChangeAt Go.RowKit St

def inB (p : Prg) (t : Int) : Bool := decide (0 ≤ t) && decide (t < (p.length : Int))
theorem okIn {p : Prg} {t : Int} (h : (okP p && inB p t) = true) : okP p = true ∧ 0 ≤ t ∧ t < (p.length : Int) := by
  simp only [Bool.and_eq_true, inB, decide_eq_true_eq] at h
  exact h
end Pg
end Go.Proofs.YtinanjjhkddikaaGreat

/- Contracts of the other side's questions about those above. -/
namespace Go.Proofs.YtinanjjhkddikaaGreat
namespace Pg
open Go.ChangeShapes Go.WideShapes Go.ChangeAt Go.RowKit St

set_option maxRecDepth 100000 in
set_option maxHeartbeats 1000000 in
theorem l5Above (B : Nat) (p : Prg) (a : Option Addr) (cap : Nat) (u0 : Int) (hu0 : -1 ≤ u0) (hu1 : u0 < (p.length : Int)) (h6 : p.length ≤ 6) (hsup : SupOk p p.length) (w : World) (hp : SK front B w (.slice a p.length cap) p) :
    Calls Tryz.prog 69 #[.agg #[.slice a p.length cap], .int .i64 u0] w fun e w' => ∃ v, e = .returned v ∧ Grow w.heap.size w' v (upL p u0) ∧ Below w.heap.size w w' := by
  obtain ⟨i0, hif, hz0, hz1, hz2⟩ := info_parts infoN
  have HP : Hid (SK front B w (.slice a p.length cap) p) := hp
  have HSUP : Hid (SupOk p p.length) := hsup
  clear hp hsup
  obtain ⟨W, hW⟩ : ∃ W, W = w.alloc (.cells #[.slice a p.length cap] 30) := ⟨_, rfl⟩
  have hwW : Below w.heap.size w W := by rw [hW]; exact (Below.refl _ _).alloc (Nat.le_refl _) _
  have P0 : Hid (Cells W w.heap.size [.slice a p.length cap]) := by rw [hW]; exact Cells.new w _ rfl _ _
  have G0 : Hid (Grow W.heap.size (W.alloc (.cells #[] 2)) (.slice (some ⟨W.heap.size, 0, none⟩) 0 0) []) := grow_start W
  have HSZ : Hid (W.heap.size = w.heap.size + 1) := by show _ = _; rw [hW]; simp
  go_enter Tryz.func69, Tryz.ntmps69
  go_wp2
  rw [← HSZ.out, ← hW]
  clear hW
  go_loopw [1, 5] (fun x y wr => ∃ (pre : List Int) (u : Int) (v0 : Value), x = .int .i64 u ∧ v0 = y ∧ -1 ≤ u ∧ u < (p.length : Int) ∧ Hid (upL p u0 = pre ++ upL p u) ∧ Hid (Grow W.heap.size wr v0 pre) ∧ Below W.heap.size W wr) (fun x _ _ => (intOf x + 1).toNat)
  case atStart => exact ⟨[], u0, _, rfl, rfl, hu0, hu1, by show _ = _; simp, G0.out, (Below.refl _ _).alloc (Nat.le_refl _) _⟩
  case round =>
    clear hu0 hu1 G0
    obtain ⟨pre, u, v0, rfl, rfl, hu0, hu1, hx, hg, hb⟩ := hrel
    have hwr : Below w.heap.size w wr := hwW.trans (hb.mono hwW.size)
    by_cases hneg : u = -1
    · have HE : Hid (upL p u0 = pre) := by
        show _ = _
        rw [hx.out, hneg, upL_neg p (by omega)]; simp
      obtain ⟨g, cp, rfl⟩ := hg.out.form
      have HG : Hid (Grow w.heap.size wr (.slice (some ⟨g, 0, none⟩) pre.length cp) (upL p u0)) := by
        rw [HE.out]; exact hg.out.base' (by have := HSZ.out; omega)
      subst hneg
      clear hx hg HE
      go_wp2
      go_ret
      exact ⟨_, rfl, HG.out, hwr⟩
    · obtain ⟨j, rfl⟩ := Int.eq_ofNat_of_zero_le (show 0 ≤ u by omega)
      have hjp : j < p.length := by omega
      have hji : (j : Int) < (p.length : Int) := by omega
      have hj0 : (0 : Int) ≤ (j : Int) := by omega
      have HST : Hid (upL p u0 = (pre ++ [(j : Int)]) ++ upL p p[j].super) := by
        show _ = _
        rw [hx.out, upL_step HSUP.out hjp (by omega) (List.getElem?_eq_getElem hjp)]; simp
      have hlen : pre.length < 6 := by
        have h1 := upL_len p u0
        rw [HST.out] at h1
        simp at h1
        omega
      obtain ⟨b, o, rfl, _, vf, vm, d0, d1, d2, hcv⟩ := HP.out.get hjp
      have l0 : b < w.heap.size := cell_lt d0
      have hsu := HSUP.out j _ hjp (List.getElem?_eq_getElem hjp)
      generalize p[j] = c at *
      have hsu1 := hsu.1
      have hsu2 := hsu.2
      clear hcv hsu d1 d2 hneg hx
      obtain ⟨g, cp, rfl⟩ := hg.out.form
      have hzr : W.heap.size ≤ wr.heap.size := hb.size
      go_wp2_with (at_builtin; refine wpList_append_own _ rfl _ _ 26 rfl W.heap.size 2 i0 (.int .i64 0) 1 8 Tryz.underlying26 hif hz0 hz1 hz2 rfl (by decide) _ _ _ rfl (hg.out.1.alloc _) ⟨wr.heap.size, 0, none⟩ 1 1 [.int .i64 (j : Int)] rfl rfl (cell_one_new _ _ _) (by simp [Value.oneCell']) (by unfold maxLen; omega) (by omega) (by simp; omega) ?_)
      intro v' w1 hown hgrow hnil
      have hb1 : Below W.heap.size W w1 := (hb.alloc hb.size _).grown hgrow (by simp; omega) (fun k hk => by simp [Value.ownBlock] at hk; subst hk; exact (hg.out.1.lt g rfl).1)
      have HG : Hid (Grow W.heap.size w1 v' (pre ++ [(j : Int)])) := grow_next hown (fun h => by first | exact hnil h | exact absurd (hnil.1 h).1 (by simp))
      clear hown hgrow hnil
      obtain ⟨p0, _⟩ := (cells_lowP P0.out hb1 (by have := HSZ.out; omega)).g0
      have hw1 : Below w.heap.size w w1 := hwW.trans (hb1.mono hwW.size)
      have c0 := (hw1.cell l0).trans d0
      clear hb hwr hg
      go_wp2
      go_roundw
      case rel => exact ⟨pre ++ [(j : Int)], c.super, v', rfl, rfl, hsu1, by omega, HST.out, HG.out, hb1⟩
      case measure => simp [intOf]; omega
set_option maxHeartbeats 1000000 in
theorem l5Under (B : Nat) (p : Prg) (a : Option Addr) (cap : Nat) (u0 b : Int) (hu0 : -1 ≤ u0) (hu1 : u0 < (p.length : Int)) (h6 : p.length ≤ 6) (hsup : SupOk p p.length) (w : World) (hp : SK front B w (.slice a p.length cap) p) :
    Calls Tryz.prog 47 #[.agg #[.slice a p.length cap], .int .i64 u0, .int .i64 b] w fun e w' => e = .returned (.bool (undB p u0 b)) ∧ Below w.heap.size w w' := by
  obtain ⟨W, hW⟩ : ∃ W, W = w.alloc (.cells #[.slice a p.length cap] 30) := ⟨_, rfl⟩
  have hwW : Below w.heap.size w W := by rw [hW]; exact (Below.refl _ _).alloc (Nat.le_refl _) _
  have HP : Hid (SK front B W (.slice a p.length cap) p) := SK.on hp (Keep.of hwW)
  have HSUP : Hid (SupOk p p.length) := hsup
  clear hp hsup
  go_enter Tryz.func47, Tryz.ntmps47
  go_wp2_with fail
  rw [← hW]
  clear hW
  refine (l5Above B p a cap u0 hu0 hu1 h6 HSUP.out _ HP.out).mono ?_
  rintro e w1 ⟨v, rfl, hg, hb1⟩
  obtain ⟨g, cp, rfl, _, _, hir, _⟩ := hg.gint
  have hw1 : Below w.heap.size w w1 := below_over hwW hb1
  have HI : Hid (IRow w1 g 0 (upL p u0)) := hir
  have hln := upL_len p u0
  clear hg hir hb1
  go_wp2_with fail
  refine (l1Has g cp (upL p u0) b (by omega) _ HI.out).mono ?_
  rintro e w2 ⟨rfl, rfl⟩
  go_wp2
  go_ret
  exact ⟨rfl, hw1⟩
theorem lowF_neg (p : Prg) {u : Int} (b : Int) (h : u < 0) : lowF p u b = -1 := by unfold lowF; rw [upL_neg p h]; rfl
theorem lowF_step {p : Prg} {n : Nat} (hs : SupOk p n) {u : Nat} (hu : u < n) (h6 : u < 6) {c : Cls} (hc : p[u]? = some c) (b : Int) : lowF p (u : Int) b = if undB p b (u : Int) then (u : Int) else lowF p c.super b := by
  unfold lowF
  rw [upL_step hs hu h6 hc, find_step]
  split <;> rfl
theorem selF_neg (p : Prg) {u : Int} (b : Int) (h : u < 0) : selF p u b = -1 := by unfold selF; rw [upL_neg p h]; rfl
theorem selF_step {p : Prg} {n : Nat} (hs : SupOk p n) {u : Nat} (hu : u < n) (h6 : u < 6) {c : Cls} (hc : p[u]? = some c) (b : Int) : selF p (u : Int) b = if (ownF c b).isSome then (u : Int) else selF p c.super b := by
  unfold selF
  rw [upL_step hs hu h6 hc, find_step]
  have : hasM p b (u : Int) = (ownF c b).isSome := by unfold hasM; rw [Int.toNat_natCast, hc]
  rw [this]
  split <;> rfl
theorem ownI_neg (c : Cls) (name : Int) : decide (ownI c name < 0) = !(ownF c name).isSome := by
  unfold ownI ownF
  cases h : c.meths.findIdx? (fun m => decide (m.name = name)) with
  | none =>
    have h2 : c.meths.find? (fun m => decide (m.name = name)) = none := by
      rw [List.find?_eq_none]
      intro m hm
      have := (List.findIdx?_eq_none_iff.1 h) m hm
      simpa using this
    rw [h2]; rfl
  | some k =>
    have h2 : (c.meths.find? (fun m => decide (m.name = name))).isSome = true := by
      rw [List.findIdx?_eq_some_iff_getElem] at h
      obtain ⟨hk, hp, _⟩ := h
      rw [List.find?_isSome]
      exact ⟨c.meths[k], List.getElem_mem hk, hp⟩
    rw [h2]
    simp
set_option maxRecDepth 100000 in
set_option maxHeartbeats 1000000 in
theorem l5Selected (B : Nat) (p : Prg) (a : Option Addr) (cap : Nat) (u0 b : Int) (hu0 : -1 ≤ u0) (hu1 : u0 < (p.length : Int)) (hsp : SmallP p) (h6 : p.length ≤ 6) (hsup : SupOk p p.length) (w : World) (hp : SK front B w (.slice a p.length cap) p) :
    Calls Tryz.prog 46 #[.agg #[.slice a p.length cap], .int .i64 u0, .int .i64 b] w fun e w' => e = .returned (.int .i64 (selF p u0 b)) ∧ Below w.heap.size w w' := by
  have HP : Hid (SK front B w (.slice a p.length cap) p) := hp
  have HSUP : Hid (SupOk p p.length) := hsup
  have HSP : Hid (SmallP p) := hsp
  clear hp hsup hsp
  obtain ⟨W, hW⟩ : ∃ W, W = w.alloc (.cells #[.slice a p.length cap] 30) := ⟨_, rfl⟩
  have hwW : Below w.heap.size w W := by rw [hW]; exact (Below.refl _ _).alloc (Nat.le_refl _) _
  have P0 : Hid (Cells W w.heap.size [.slice a p.length cap]) := by rw [hW]; exact Cells.new w _ rfl _ _
  go_enter Tryz.func46, Tryz.ntmps46
  go_wp2
  rw [← hW]
  clear hW
  go_loopw [1] (fun x wr => ∃ u : Int, x = .int .i64 u ∧ -1 ≤ u ∧ u < (p.length : Int) ∧ Hid (selF p u0 b = selF p u b) ∧ Below W.heap.size W wr) (fun x _ => (intOf x + 1).toNat)
  case atStart => exact ⟨u0, rfl, hu0, hu1, rfl, Below.refl _ _⟩
  case round =>
    clear hu0 hu1
    obtain ⟨u, rfl, hu0, hu1, hx, hb⟩ := hrel
    have hwr : Below w.heap.size w wr := below_over hwW hb
    by_cases hneg : u = -1
    · have HE : Hid (selF p u0 b = -1) := by show _ = _; rw [hx.out, hneg]; exact selF_neg p b (by omega)
      subst hneg
      go_wp2
      go_ret
      exact ⟨retI HE.out.symm, hwr⟩
    · obtain ⟨j, rfl⟩ := Int.eq_ofNat_of_zero_le (show 0 ≤ u by omega)
      have hjp : j < p.length := by omega
      have hji : (j : Int) < (p.length : Int) := by omega
      have hj0 : (0 : Int) ≤ (j : Int) := by omega
      have HST : Hid (selF p u0 b = if (ownF p[j] b).isSome then (j : Int) else selF p p[j].super b) := by
        show _ = _
        rw [hx.out, selF_step HSUP.out hjp (by omega) (List.getElem?_eq_getElem hjp)]
      obtain ⟨b', o, rfl, _, vf, vm, d0, d1, d2, hcv⟩ := HP.out.get hjp
      obtain ⟨z1, t1, rfl⟩ := hcv.1.form
      obtain ⟨z2, t2, rfl⟩ := hcv.2.form
      have l0 : b' < w.heap.size := cell_lt d0
      have hsu := HSUP.out j _ hjp (List.getElem?_eq_getElem hjp)
      have HSM : Hid (SM front B w (.slice z2 p[j].meths.length t2) p[j].meths) := hcv.2
      have hsm := HSP.out.2 _ (List.getElem_mem hjp)
      have hsl := hsm.2.1
      have k0 := (hwr.cell l0).trans d0
      have k1 := (hwr.cell l0).trans d1
      have k2 := (hwr.cell l0).trans d2
      generalize p[j] = c at *
      have hsu1 := hsu.1
      have hsu2 := hsu.2
      clear hcv hsu d1 d2 hneg hx hsm
      obtain ⟨p0, _⟩ := (P0.out.on hb).g0
      go_wp2_with fail
      refine (l4Own B c z1 z2 t2 c.fields.length t1 b hsl _ (SM.on HSM.out (Keep.of hwr))).mono ?_
      rintro e w1 ⟨rfl, hb1⟩
      have hw1 : Below w.heap.size w w1 := below_over hwr hb1
      have hW1 : Below W.heap.size W w1 := below_over hb hb1
      have c0 := (hw1.cell l0).trans d0
      clear p0 k0 k1 k2
      obtain ⟨p0, _⟩ := (P0.out.on hW1).g0
      clear hb1 hb hwr
      have HO1 : Hid (ownI c b < 0 → (ownF c b).isSome = false) := fun h => by have := ownI_neg c b; rw [decide_eq_true h] at this; simpa using this.symm
      have HO2 : Hid (¬ ownI c b < 0 → (ownF c b).isSome = true) := fun h => by have := ownI_neg c b; rw [decide_eq_false h] at this; simpa using this.symm
      generalize ownI c b = oi at *
      by_cases hq : oi < 0
      · have HE : Hid (selF p u0 b = selF p c.super b) := by
          show _ = _
          rw [HST.out, HO1.out hq]; rfl
        clear HST HO1 HO2
        go_wp2
        go_roundw
        case rel => exact ⟨c.super, rfl, hsu1, by omega, HE.out, hW1⟩
        case measure => simp [intOf]; omega
      · have HE : Hid (selF p u0 b = (j : Int)) := by
          show _ = _
          rw [HST.out, HO2.out hq]; rfl
        clear HST HO1 HO2
        go_wp2
        go_ret
        exact ⟨retI HE.out.symm, hw1⟩
end Pg
end Go.Proofs.YtinanjjhkddikaaGreat

/- Contracts of the program's lists of those above and below. -/
namespace Go.Proofs.YtinanjjhkddikaaGreat
namespace Pg
open Go.ChangeShapes Go.WideShapes Go.ChangeAt Go.RowKit Go.Shelf St
attribute [local go_sem] Oper.semAt_some

def upA (p : Prg) (c : Int) : List Int := if okP p && inB p c then upL p c else []
def downA (p : Prg) (c : Int) : List Int := if okP p && inB p c then downL p c else []
theorem upA_len (p : Prg) (c : Int) : (upA p c).length ≤ 24 := by
  unfold upA; split
  · have := upL_len p c; omega
  · simp
theorem downL_len (p : Prg) (c : Int) (h : p.length ≤ 6) : (downL p c).length ≤ 6 := by
  unfold downL
  have h1 := List.length_filter_le (fun i => undB p i c) (allC p)
  have h2 : (allC p).length = p.length := by simp [allC]
  omega
theorem downA_len (p : Prg) (c : Int) : (downA p c).length ≤ 24 := by
  unfold downA; split
  · rename_i h
    have := downL_len p c (okP_len (okIn h).1).2; omega
  · simp
/-- A list of the caller's own, in a box. -/
def BoxL (n₀ b : Nat) (W : World) (l : List Int) : Prop := ∃ v, Boxed W b 26 v ∧ Grow n₀ W v l
theorem nums_map (l : List Int) : nums l = l.map (Value.int .i64) := rfl
theorem boxL_own {β : Type} (n₀ b : Nat) (f : β → List Int) : Own (fun (s : β) W => BoxL n₀ b W (f s)) := fun s X Y row hs hg hr => by
  obtain ⟨v, h1, h2, h3⟩ := hs
  obtain ⟨v', k1, k2, k3⟩ := holdsRow_own (β := Unit) n₀ b 26 2 1 (fun _ => (f s).length) (fun _ => nums (f s)) (fun _ v => v ≠ .slice none 0 0) () X Y row ⟨v, h1, h2, h3⟩ hg hr
  exact ⟨v', k1, k2, k3⟩
theorem BoxL.below {n₀ b : Nat} {W W' : World} {l : List Int} (h : BoxL n₀ b W l) (hb : Below W.heap.size W W') : BoxL n₀ b W' l := by
  obtain ⟨v, h1, h2⟩ := h
  exact ⟨v, (hb.block b h1.lt).trans h1, h2.on hb⟩

/-- An append onto the caller's own list, in its box: what is kept of the others' boxes. -/
theorem kp_app {W w1 : World} {n₀ bA : Nat} {bs : List Nat} {v v' : Value} {k m : Nat} {xs ys : List Value} {tmp : Obj}
    (hv : Boxed W bA 26 v) (hrow : W.ownsRow n₀ 2 1 v k xs) (hn₀ : n₀ ≤ W.heap.size) (hB : n₀ ≤ bA) (hown' : w1.ownsRow n₀ 2 1 v' m ys) (hgrow : (W.alloc tmp).grownBy w1 v.ownBlock)
    (hbs : ∀ b ∈ bs, b ≠ bA ∧ b < W.heap.size ∧ some b ≠ v.ownBlock) : Kp n₀ bs W (w1.setCell ⟨bA, 0, none⟩ v') := by
  obtain ⟨_, _, _, _, hb2⟩ := hv.appended (by decide) hrow hn₀ hB hown' hgrow
  refine ⟨hb2, fun b hb hl => ?_⟩
  obtain ⟨h1, h2, h3⟩ := hbs b hb
  rw [Below.heap_setCell w1 ⟨bA, 0, none⟩ v' b h1, hgrow.block b (by simp; omega) h3]
  exact Below.heap_alloc W tmp b hl
theorem box_prog {W : World} {bx n₀ : Nat} {v : Value} {k : Nat} {xs : List Value} {o : Value} (h : Boxed W bx 30 o) (hrow : W.ownsRow n₀ 2 1 v k xs) : some bx ≠ v.ownBlock := h.not_row (by decide) hrow
/-- A box of one number is no row's block, where the row began later. -/
theorem box_off {n₀ bx : Nat} {W : World} {v : Value} {k : Nat} {xs : List Value} (hrow : W.ownsRow n₀ 2 1 v k xs) (hb : bx < n₀) : some bx ≠ v.ownBlock := fun e => by
  have := (hrow.lt bx e.symm).1
  omega

end Pg
end Go.Proofs.YtinanjjhkddikaaGreat

/- The program's iterator over the classes below, and the list of them. -/
namespace Go.Proofs.YtinanjjhkddikaaGreat
namespace Pg
open Go.ChangeShapes Go.WideShapes Go.ChangeAt Go.RowKit Go.Shelf St
attribute [local go_sem] Oper.semAt_some

theorem abide {β : Type} {n : Nat} {J : β → World → Prop} (hJ : AbidesFrom n J) {s : β} {W W' : World} (h : J s W) (hb : Below W.heap.size W W') : J s W' :=
  hJ s W W' none h ⟨hb.os, hb.tape, hb.output, hb.size, fun k hk _ => hb.block k hk⟩ (fun _ e => by cases e)
theorem filter_one {α : Type} (f : α → Bool) (x : α) : [x].filter f = if f x then [x] else [] := by cases h : f x <;> simp [h]
theorem allC_take {p : Prg} {k : Nat} (hk : k < p.length) : (allC p).take (k + 1) = (allC p).take k ++ [(k : Int)] := by
  unfold allC
  rw [← List.map_take, ← List.map_take, List.take_range, List.take_range, Nat.min_eq_left (by omega), Nat.min_eq_left (by omega), List.range_succ]
  simp
theorem downL_low {p : Prg} (hs : SupOk p p.length) {c : Nat} (hc : c ≤ p.length) : ((allC p).take c).filter (fun i => undB p i (c : Int)) = [] := by
  rw [List.filter_eq_nil_iff]
  intro i hi
  unfold allC at hi
  rw [← List.map_take, List.take_range, Nat.min_eq_left hc] at hi
  obtain ⟨k, hk, rfl⟩ := List.mem_map.1 hi
  have hk' := List.mem_range.1 hk
  simp only [undB, decide_eq_true_eq]
  intro hm
  have := upL_le hs hm
  omega
theorem downL_all (p : Prg) (c : Int) : ((allC p).take p.length).filter (fun i => undB p i c) = downL p c := by
  have : (allC p).take p.length = allC p := List.take_of_length_le (by simp [allC])
  rw [this]; rfl
theorem downL_pre (p : Prg) (c : Int) (k : Nat) : ((allC p).take k).filter (fun i => undB p i c) <+: downL p c := by
  obtain ⟨r, hr⟩ := List.take_prefix k (allC p)
  refine ⟨r.filter (fun i => undB p i c), ?_⟩
  rw [← List.filter_append, hr]; rfl

set_option maxHeartbeats 400000 in
theorem downFrom_in (n : Nat) (a : Option Addr) (len cap : Nat) (c : Int) (w : World) :
    CallsIn Fence.wide n Tryz.prog 96 #[.agg #[.slice a len cap], .int .i64 c] w fun e w' => e = .returned (.func (.func 107) #[] #[.pointer (some ⟨w.heap.size + 1, 0, none⟩), .pointer (some ⟨w.heap.size, 0, none⟩)]) ∧ w' = (w.alloc (.cells #[.slice a len cap] 30)).alloc (.cells #[.int .i64 c] 2) := by
  refine callsIn_of_wp Tryz.func96 rfl trivial ?_ rfl
  simp only [Tryz.ntmps96, List.size_toArray, List.length_cons, List.length_nil, Nat.reduceAdd, Nat.reduceSub, Array.replicate_succ, Array.replicate_zero, List.push_toArray, List.append_toArray, List.nil_append, List.cons_append]
  gi_wp2
  go_ret
  exact ⟨rfl, rfl⟩

set_option maxRecDepth 100000 in
set_option maxHeartbeats 2000000 in
theorem down1_in {α : Type} (n : Nat) (hn : 1 ≤ n) (l bc bp B : Nat) (p : Prg) (a : Option Addr) (cap : Nat) (c : Nat) (hc : c < p.length) (h6 : p.length ≤ 6) (hsup : SupOk p p.length) (w0 : World) (hp : SK front B w0 (.slice a p.length cap) p) (en : α → Int) (mk : ∀ j : Nat, j < p.length → α) (hen : ∀ j hj, en (mk j hj) = (j : Int)) (J Jx : List α → World → Prop) (N : Nat) (hJ : AbidesFrom N J)
    (hY : ∀ pre x W, J pre W → pre.length < 6 → YieldAt Fence.wide (n - 1) Tryz.prog l #[.int .i64 (en x)] W fun e W' =>
      (e = .returned (.bool true) ∧ J (pre ++ [x]) W' ∧ Kp w0.heap.size [bc, bp] W W') ∨ (e = .returned (.bool false) ∧ Jx (pre ++ [x]) W'))
    (W : World) (hW : Below w0.heap.size w0 W) (hbc : Boxed W bc 2 (.int .i64 (c : Int))) (hbp : Boxed W bp 30 (.slice a p.length cap)) (h0 : J [] W) :
    CallsIn Fence.wide n Tryz.prog 107 #[.func (.yield l) #[] #[], .pointer (some ⟨bc, 0, none⟩), .pointer (some ⟨bp, 0, none⟩)] W fun e W' => (∃ v, e = .returned v) ∧
      ((∃ ys, ys.map en = downL p (c : Int) ∧ J ys W') ∨ (∃ pre, pre.map en <+: downL p (c : Int) ∧ Jx pre W')) := by
  have HP : Hid (SK front B w0 (.slice a p.length cap) p) := hp
  have HSUP : Hid (SupOk p p.length) := hsup
  have HJ : Hid (AbidesFrom N J) := hJ
  have HLOW : Hid (((allC p).take c).filter (fun i => undB p i (c : Int)) = []) := downL_low hsup (by omega)
  clear hp hsup hJ
  have hcc := hbc.cell
  refine callsIn_of_wp Tryz.func107 rfl trivial ?_ rfl
  simp only [Tryz.ntmps107, List.size_toArray, List.length_cons, List.length_nil, Nat.reduceAdd, Nat.reduceSub, Array.replicate_succ, Array.replicate_zero, List.push_toArray, List.append_toArray, List.nil_append, List.cons_append]
  gi_wp2
  gi_loopw [4] (fun v wr => ∃ (pre : List α) (k : Nat), v = .int .i64 (k : Int) ∧ k ≤ p.length ∧ Hid (pre.map en = ((allC p).take k).filter (fun i => undB p i (c : Int))) ∧ J pre wr ∧ Below w0.heap.size w0 wr ∧ Boxed wr bc 2 (.int .i64 (c : Int)) ∧ Boxed wr bp 30 (.slice a p.length cap)) (fun v _ => p.length - (intOf v).toNat)
  case atStart => exact ⟨[], c, rfl, by omega, HLOW.out.symm, h0, hW, hbc, hbp⟩
  case round =>
    clear hcc hbc hbp h0 hW HLOW
    obtain ⟨pre, k, rfl, hk, hx, hJ0, hb, hbc, hbp⟩ := hrel
    have p0 := hbp.cell
    have HJ0 : Hid (J pre wr) := hJ0
    clear hJ0
    gi_wp2_with fail
    refine ⟨trivial, ?_⟩
    refine (callsIn_wide.2 (hasClass a p.length cap (k : Int) wr)).mono ?_
    rintro e w1 ⟨rfl, hb1⟩
    have HJ1 : Hid (J pre w1) := abide HJ.out HJ0.out hb1
    have hw1 : Below w0.heap.size w0 w1 := below_over hb hb1
    have hbc1 : Boxed w1 bc 2 (.int .i64 (c : Int)) := (hb1.block _ hbc.lt).trans hbc
    have hbp1 : Boxed w1 bp 30 (.slice a p.length cap) := (hb1.block _ hbp.lt).trans hbp
    have p1 := hbp1.cell
    have c1 := hbc1.cell
    clear hb1 hb hbc hbp p0 HJ0
    by_cases hlt : k < p.length
    · have HQ : (decide (0 ≤ (k : Int)) && decide ((k : Int) < (p.length : Int))) = true := by simp; omega
      rw [HQ]
      clear HQ
      gi_wp2_with fail
      refine ⟨trivial, ?_⟩
      refine (callsIn_wide.2 (isUnder B p a cap (k : Int) (c : Int) (by omega) (by omega) h6 HSUP.out w1 (SK.on HP.out (Keep.of hw1)))).mono ?_
      rintro e w2 ⟨rfl, hb2⟩
      have hJ2 : J pre w2 := abide HJ.out HJ1.out hb2
      have hw2 : Below w0.heap.size w0 w2 := below_over hw1 hb2
      have hbc2 : Boxed w2 bc 2 (.int .i64 (c : Int)) := (hb2.block _ hbc1.lt).trans hbc1
      have hbp2 : Boxed w2 bp 30 (.slice a p.length cap) := (hb2.block _ hbp1.lt).trans hbp1
      clear hb2 hw1 hbc1 hbp1 p1 c1 HJ1
      have HST : Hid (((allC p).take (k + 1)).filter (fun i => undB p i (c : Int)) = pre.map en ++ (if undB p (k : Int) (c : Int) then [(k : Int)] else [])) := by
        show _ = _
        rw [allC_take hlt, List.filter_append, hx.out, filter_one]
      cases hq : undB p (k : Int) (c : Int)
      · have HX : Hid (pre.map en = ((allC p).take (k + 1)).filter (fun i => undB p i (c : Int))) := by
          show _ = _
          rw [HST.out, hq]; simp
        clear HST hx
        gi_wp2
        refine ⟨fun _ h => (by cases h), ?_⟩
        gi_wp2
        go_roundw
        case rel => exact ⟨pre, k + 1, by go_num, by omega, HX.out, hJ2, hw2, hbc2, hbp2⟩
        case measure => simp [intOf]; omega
      · have HX : Hid ((pre ++ [mk k hlt]).map en = ((allC p).take (k + 1)).filter (fun i => undB p i (c : Int))) := by
          show _ = _
          rw [HST.out, hq]; simp [hen]
        have hlen : pre.length < 6 := by
          have h1 := downL_len p (c : Int) h6
          have h2 := (downL_pre p (c : Int) (k + 1)).length_le
          rw [← HX.out] at h2
          simp at h2
          omega
        have HPRE : Hid ((pre ++ [mk k hlt]).map en <+: downL p (c : Int)) := by show _ <+: _; rw [HX.out]; exact downL_pre p (c : Int) (k + 1)
        obtain ⟨fn, tmps, assign, body, hy, hR⟩ := hY pre (mk k hlt) w2 hJ2 hlen
        rw [hen] at hy
        generalize mk k hlt = xj at *
        clear HST hx
        gi_wp2
        refine hR.mono ?_
        rintro e W3 (⟨rfl, hJ3, hk3⟩ | ⟨rfl, hJx3⟩)
        · have hb3 : Below w0.heap.size w0 W3 := hw2.trans hk3.1
          have hbc3 := hk3.boxed (b := bc) (by simp) hbc2
          have hbp3 := hk3.boxed (b := bp) (by simp) hbp2
          gi_wp2
          go_roundw
          case rel => exact ⟨pre ++ [xj], k + 1, by go_num, by omega, HX.out, hJ3, hb3, hbc3, hbp3⟩
          case measure => simp [intOf]; omega
        · gi_wp2
          refine bodyPost_ret (results_none rfl _ _ _) rfl ?_
          exact ⟨⟨_, rfl⟩, .inr ⟨pre ++ [xj], HPRE.out, hJx3⟩⟩
    · have hkk : k = p.length := by omega
      have HE : Hid (pre.map en = downL p (c : Int)) := by
        show _ = _
        rw [hx.out, hkk, downL_all]
      have HQ : (decide (0 ≤ (k : Int)) && decide ((k : Int) < (p.length : Int))) = false := by simp; omega
      rw [HQ]
      clear HQ hx hkk
      gi_wp2
      go_end0
      exact ⟨⟨_, rfl⟩, .inl ⟨pre, HE.out, HJ1.out⟩⟩

/-- What the iterator over those below hands out. -/
theorem down_stops (n : Nat) (hn : 1 ≤ n) (bc bp B : Nat) (p : Prg) (a : Option Addr) (cap : Nat) (c : Nat) (hc : c < p.length) (h6 : p.length ≤ 6) (hsup : SupOk p p.length) (w0 w : World) (hp : SK front B w0 (.slice a p.length cap) p) (hw : Below w0.heap.size w0 w) (hbc : Boxed w bc 2 (.int .i64 (c : Int))) (hbp : Boxed w bp 30 (.slice a p.length cap)) :
    SeqStopsK Fence.wide n Tryz.prog 107 #[.pointer (some ⟨bc, 0, none⟩), .pointer (some ⟨bp, 0, none⟩)] (fun x : Cl p.length => #[Value.int .i64 x.1]) (Kp w0.heap.size [bc, bp]) (fun ys => vals ys = downL p (c : Int)) (fun pre => vals pre <+: downL p (c : Int)) 6 w := fun l J Jx W hW hJ _ hY h0 =>
  down1_in n hn l bc bp B p a cap c hc h6 hsup w0 hp (fun x : Cl p.length => x.1) (fun j hj => ⟨(j : Int), by omega, by omega⟩) (fun _ _ => rfl) J Jx _ hJ hY W (hw.trans (hW.mono hw.size)) ((hW.block bc hbc.lt).trans hbc) ((hW.block bp hbp.lt).trans hbp) h0

/-- A list of the caller's own, in a box, its row none of these blocks. -/
def BoxN (n₀ b : Nat) (bs : List Nat) (W : World) (l : List Int) : Prop := ∃ v, Boxed W b 26 v ∧ Grow n₀ W v l ∧ ∀ y ∈ bs, some y ≠ v.ownBlock
theorem boxN_own {β : Type} (n₀ b : Nat) (bs : List Nat) (f : β → List Int) : Own (fun (s : β) W => BoxN n₀ b bs W (f s)) := fun s X Y row hs hg hr => by
  obtain ⟨v, h1, ⟨h2, h3⟩, h4⟩ := hs
  obtain ⟨v', k1, k2, k3, k4⟩ := holdsRow_own (β := Unit) n₀ b 26 2 1 (fun _ => (f s).length) (fun _ => nums (f s)) (fun _ v => v ≠ .slice none 0 0 ∧ ∀ y ∈ bs, some y ≠ v.ownBlock) () X Y row ⟨v, h1, h2, h3, h4⟩ hg hr
  exact ⟨v', k1, ⟨k2, k3⟩, k4⟩
theorem BoxN.below {n₀ b : Nat} {bs : List Nat} {W W' : World} {l : List Int} (h : BoxN n₀ b bs W l) (hb : Below W.heap.size W W') : BoxN n₀ b bs W' l := by
  obtain ⟨v, h1, h2, h3⟩ := h
  exact ⟨v, (hb.block b h1.lt).trans h1, h2.on hb, h3⟩
/-- An append onto it. -/
theorem boxN_app {W w1 : World} {n₀ bA : Nat} {bs : List Nat} {v v' : Value} {l : List Int} {x : Int} {tmp : Obj}
    (hv : Boxed W bA 26 v) (hg : Grow n₀ W v l) (hoff : ∀ y ∈ bs, some y ≠ v.ownBlock) (hbs : ∀ y ∈ bs, y ≠ bA ∧ y < W.heap.size) (hn₀ : n₀ ≤ W.heap.size) (hB : n₀ ≤ bA)
    (hown' : w1.ownsRow n₀ 2 1 v' (l.length + 1) (nums l ++ [.int .i64 x])) (hgrow : (W.alloc tmp).grownBy w1 v.ownBlock) (hvn : v' ≠ .slice none 0 0) (hat : v'.ownBlock = v.ownBlock ∨ v'.ownBlock = some (W.alloc tmp).heap.size) :
    (Boxed w1 bA 26 v) ∧ BoxN n₀ bA bs (w1.setCell ⟨bA, 0, none⟩ v') (l ++ [x]) ∧ Kp n₀ bs W (w1.setCell ⟨bA, 0, none⟩ v') ∧ KeepsOthers W (w1.setCell ⟨bA, 0, none⟩ v') ∧ Below n₀ W (w1.setCell ⟨bA, 0, none⟩ v') := by
  obtain ⟨hv1, hv2, hr2, hk2, hb2⟩ := hv.appended (by decide) hg.1 hn₀ hB hown' hgrow
  refine ⟨hv1, ⟨_, hv2, grow_next hr2 hvn, fun y hy => ?_⟩, kp_app hv hg.1 hn₀ hB hown' hgrow (fun b hb => ⟨(hbs b hb).1, (hbs b hb).2, hoff b hb⟩), hk2, hb2⟩
  rcases hat with h | h
  · rw [h]; exact hoff y hy
  · rw [h]
    intro e
    have h1 := (hbs y hy).2
    simp at e
    omega

end Pg
end Go.Proofs.YtinanjjhkddikaaGreat

/- The search goes on: a call meets the classes below that are made. -/
namespace Go.Proofs.YtinanjjhkddikaaGreat
namespace Pg
open Go.ChangeShapes Go.WideShapes Go.ChangeAt Go.RowKit Go.Shelf St Wd
attribute [local go_sem] Oper.semAt_some
theorem RF.not_row {B : Nat} {w : World} {v : Value} {T : List Fd} (h : RF B w v T) {r : Nat} {o : Obj} (ho : w.heap[r]? = Option.some o) (hc : o.isCells = false) : v.ownBlock ≠ Option.some r := fun e => by
  rcases h.2 with ⟨hv, _⟩ | ⟨g, cap, cur, hv, _, hb, _⟩
  · rw [hv] at e; simp [Value.ownBlock] at e
  · rw [hv] at e
    simp [Value.ownBlock] at e
    subst e
    rw [hb] at ho
    injection ho with ho
    subst ho
    simp [Obj.isCells] at hc
theorem Adds.grown {B0 sb mb B : Nat} {pv : Value} {w W W' : World} {v v' : Value} {F T F' T' : List Fd} {P : Fd → Prop} {row : Option Nat} (h : Adds B0 sb mb pv w v F T P W v' F' T') (hg : W.grownBy W' row) (hw : w.heap.size ≤ B) (hs : sb < B) (hm : mb < B) (hr : ∀ r, row = some r → B ≤ r ∧ ∃ o : Obj, W.heap[r]? = some o ∧ o.isCells = false) : Adds B0 sb mb pv w v F T P W' v' F' T' := by
  have n1 : ∀ k, k < B → row ≠ some k := fun k hk e => by have := (hr k e).1; omega
  have n2 : ∀ r, row = some r → v'.ownBlock ≠ some r := fun r e => by obtain ⟨_, o, ho, hc⟩ := hr r e; exact h.st.row.not_row ho hc
  refine ⟨⟨h.st.cells.grownF hg (n1 _ hs), h.st.map.kept hg (fun e => n1 _ hm e.symm), h.st.row.kept hg ?_, h.st.few, h.st.nd, h.st.tl, h.st.b1, h.st.b2, h.st.ne, h.st.o1, h.st.o2⟩, h.ext, ⟨⟨hg.os.trans h.fr.tch.os, hg.tape.trans h.fr.tch.tape, hg.output.trans h.fr.tch.output, Nat.le_trans h.fr.tch.size hg.size, fun k hk hn => ?_⟩, h.fr.own⟩, h.new⟩
  · cases hq : row with
    | none => cases ho : v'.ownBlock with
      | none => exact .inl rfl
      | some g => exact .inr (by simp)
    | some r => exact .inr (n2 r hq)
  · exact (hg.block k (Nat.lt_of_lt_of_le hk h.fr.tch.size) (fun e => n1 k (by omega) e.symm)).trans (h.fr.tch.far k hk hn)
theorem FarS.on {sb mb : Nat} {w w' : World} {v : Value} {k : Nat} (h : FarS sb mb w v k) (hs : w.heap.size ≤ w'.heap.size) : FarS sb mb w' v k := ⟨h.s, h.m, h.v, Nat.lt_of_lt_of_le h.lt hs⟩
theorem Srch.keeps {B0 sb mb B : Nat} {pv : Value} {w w' : World} {v v' : Value} {F T : List Fd} (h : Srch B0 sb mb pv w v F T) (f : Frs sb mb w v w' v') (hs : sb < B) (hm : mb < B) : KeepsFrom B w w' :=
  ⟨f.tch.size, fun k o hB hk hc => by
    refine (f.tch.far k (Array.getElem?_eq_some_iff.1 hk).1 fun e => ?_).trans hk
    rcases e with e | e | e
    · omega
    · omega
    · exact h.row.not_row hk hc e⟩
/-- What stands between the rounds of a range over classes: what has been added, the boxes of the function's own. -/
def Rng (B0 sb mb : Nat) (pv : Value) (w : World) (v : Value) (F T : List Fd) (bs : List (Nat × TypeId × Value)) (Q : List Fd → Prop) (W : World) : Prop :=
  ∃ v' F' T', Adds B0 sb mb pv w v F T (fun _ => True) W v' F' T' ∧ (∀ x ∈ bs, Boxed W x.1 x.2.1 x.2.2 ∧ FarS sb mb W v' x.1) ∧ Q F'
theorem Rng.grown {B0 sb mb B : Nat} {pv : Value} {w W W' : World} {v : Value} {F T : List Fd} {bs : List (Nat × TypeId × Value)} {Q : List Fd → Prop} {row : Option Nat} (h : Rng B0 sb mb pv w v F T bs Q W) (hg : W.grownBy W' row) (hw : w.heap.size ≤ B) (hs : sb < B) (hm : mb < B) (hr : ∀ r, row = some r → B ≤ r ∧ ∃ o : Obj, W.heap[r]? = some o ∧ o.isCells = false) : Rng B0 sb mb pv w v F T bs Q W' := by
  obtain ⟨v', F', T', hA, hb, hQ⟩ := h
  refine ⟨v', F', T', hA.grown hg hw hs hm hr, fun x hx => ?_, hQ⟩
  obtain ⟨h1, h2⟩ := hb x hx
  refine ⟨h1.kept hg (fun e => ?_), h2.on hg.size⟩
  obtain ⟨_, o, ho, hc⟩ := hr _ e.symm
  rw [show W.heap[x.1]? = _ from h1] at ho
  cases ho
  cases hc
theorem boxes_next {sb mb : Nat} {u w : World} {v v' : Value} {bs : List (Nat × TypeId × Value)} (h : ∀ x ∈ bs, Boxed u x.1 x.2.1 x.2.2 ∧ FarS sb mb u v x.1) (f : Frs sb mb u v w v') : ∀ x ∈ bs, Boxed w x.1 x.2.1 x.2.2 ∧ FarS sb mb w v' x.1 := fun x hx => by
  obtain ⟨h1, h2⟩ := h x hx
  obtain ⟨k1, k2⟩ := h2.next f
  exact ⟨k2.trans h1, k1⟩
/-- What the classes that have been met may have brought. -/
def NewE (p : Prg) (n : Int) (F : List Fd) (ds : List Int) (F' : List Fd) : Prop := ∀ g ∈ F', g ∈ F ∨ SndF p g ∨ ∃ d s : Nat, (d : Int) ∈ ds ∧ Rd p false d 0 ∧ selF p (d : Int) n = (s : Int) ∧ g = (1, (s : Int), n)
set_option maxRecDepth 100000 in
set_option maxHeartbeats 1000000 in
theorem followCall_at (Bp : Nat) (p : Prg) (hok : okP p = true) (hsp : SmallP p) (w0 : World) (sb mb cap : Nat) (a : Option Addr) (hsk : SK front Bp w0 (.slice a p.length cap) p) (v : Value) (F T : List Fd) (c : Nat) (hc : c < p.length) (n : Int) (w : World) (hb0 : Below w0.heap.size w0 w) (hS : Srch w0.heap.size sb mb (.slice a p.length cap) w v F T)
    (hn : 0 ≤ n ∧ n < 20) (hFS : ∀ f ∈ F, SndF p f) (hP1 : ∀ s : Nat, selF p (c : Int) n = (s : Int) → SndF p (1, (s : Int), n)) (hP2 : ∀ d s : Nat, Rd p false d 0 → undB p (d : Int) (c : Int) = true → selF p (d : Int) n = (s : Int) → SndF p (1, (s : Int), n)) :
    Calls Tryz.prog 81 #[.pointer (some ⟨sb, 0, none⟩), .int .i64 (c : Int), .int .i64 n] w fun e w' => e = .returned (.tuple #[]) ∧ ∃ v' F' T', Adds w0.heap.size sb mb (.slice a p.length cap) w v F T (SndF p) w' v' F' T' ∧ Hid ((∀ s : Nat, selF p (c : Int) n = (s : Int) → ((1, (s : Int), n) : Fd) ∈ F') ∧ ∀ d s : Nat, ((0, (d : Int), 0) : Fd) ∈ F → undB p (d : Int) (c : Int) = true → selF p (d : Int) n = (s : Int) → ((1, (s : Int), n) : Fd) ∈ F') := by
  have h6 := (okP_len hok).2
  have HSU : Hid (SupOk p p.length) := okP_sup hok
  have HSK : Hid (SK front Bp w0 (.slice a p.length cap) p) := hsk
  have HP2 : Hid (∀ d s : Nat, Rd p false d 0 → undB p (d : Int) (c : Int) = true → selF p (d : Int) n = (s : Int) → SndF p (1, (s : Int), n)) := hP2
  have HFS : Hid (∀ f ∈ F, SndF p f) := hFS
  obtain ⟨A, hA⟩ : ∃ A, w.heap.size = A := ⟨_, rfl⟩
  obtain ⟨V, hV⟩ : ∃ V, V = (w.alloc (.cells #[.pointer (some ⟨sb, 0, none⟩)] 48)).alloc (.cells #[.int .i64 n] 2) := ⟨_, rfl⟩
  have hwV : Below w.heap.size w V := by rw [hV]; exact ((Below.refl _ _).alloc (Nat.le_refl _) _).alloc (by simp) _
  have XA : Hid (Boxed V A 48 (.pointer (some ⟨sb, 0, none⟩))) := by rw [hV, ← hA]; exact (Boxed.new w _ _).alloc _
  have XN : Hid (Boxed V (A + 1) 2 (.int .i64 n)) := by
    have h := Boxed.new (w.alloc (.cells #[.pointer (some ⟨sb, 0, none⟩)] 48)) 2 (.int .i64 n)
    simp only [World.size_alloc] at h
    rw [hV, ← hA]; exact h
  have hBw : w0.heap.size ≤ w.heap.size := hb0.size
  have hsel := selects_at Bp p hok hsp w0.heap.size sb mb cap a v F T c hc n V (Nat.le_trans hBw hwV.size) (hS.on hwV) (SK.on hsk (Keep.of (hb0.trans (hwV.mono hBw)))) hn hP1
  clear hsk hP1 hP2 hFS
  have xa := XA.out.cell
  have xn := XN.out.cell
  refine (callsIn_wide (n := 4)).1 ?_
  refine callsIn_of_wp_marks Tryz.func81 rfl trivial ?_ rfl
  simp only [Tryz.ntmps81, List.size_toArray, List.length_cons, List.length_nil, Nat.reduceAdd, Nat.reduceSub, Array.replicate_succ, Array.replicate_zero, List.push_toArray, List.append_toArray, List.nil_append, List.cons_append]
  gi_wp2_with fail
  try rw [hA]
  rw [← hV]
  clear hV
  refine ⟨trivial, ?_⟩
  refine (callsIn_wide.2 hsel).mono ?_
  rintro e w1 ⟨rfl, v1, F1, T1, hA1, hm1⟩
  have HA1 : Hid (Adds w0.heap.size sb mb (.slice a p.length cap) w v F T (SndF p) w1 v1 F1 T1) := (Adds.start hS hwV).trans hA1
  have fa := (FarS.next (hS.far (w' := V) (k := A) (by omega) XA.out.lt) hA1.fr)
  have fn := (FarS.next (hS.far (w' := V) (k := A + 1) (by omega) XN.out.lt) hA1.fr)
  have XA1 : Hid (Boxed w1 A 48 (.pointer (some ⟨sb, 0, none⟩))) := fa.2.trans XA.out
  have XN1 : Hid (Boxed w1 (A + 1) 2 (.int .i64 n)) := fn.2.trans XN.out
  have FA1 : Hid (FarS sb mb w1 v1 A) := fa.1
  have FN1 : Hid (FarS sb mb w1 v1 (A + 1)) := fn.1
  have HM1 : Hid (∀ s : Nat, selF p (c : Int) n = (s : Int) → ((1, (s : Int), n) : Fd) ∈ F1) := hm1
  have hb1 : Below w0.heap.size w0 w1 := hb0.trans (HA1.out.below hS)
  have hz1 : w.heap.size ≤ w1.heap.size := HA1.out.fr.tch.size
  clear xa xn XA XN hsel hA1 hm1 fa fn
  have xa := XA1.out.cell
  have s0 := HA1.out.st.cells.g0.1
  gi_wp2_with (refine ⟨trivial, ?_⟩; gi_at_call 96; refine (downFrom_in _ a p.length cap (c : Int) _).mono ?_; rintro e w' ⟨rfl, rfl⟩)
  have b3 := Boxed.new w1 30 (.slice a p.length cap)
  have b4 := Boxed.new (w1.alloc (.cells #[.slice a p.length cap] 30)) 2 (.int .i64 (c : Int))
  simp only [World.size_alloc] at b4
  obtain ⟨W2, hW2⟩ : ∃ W2, W2 = (w1.alloc (.cells #[.slice a p.length cap] 30)).alloc (.cells #[.int .i64 (c : Int)] 2) := ⟨_, rfl⟩
  have h12 : Below w1.heap.size w1 W2 := by rw [hW2]; exact ((Below.refl _ _).alloc (Nat.le_refl _) _).alloc (by simp) _
  have hz2 : W2.heap.size = w1.heap.size + 1 + 1 := by rw [hW2]; simp
  have B3 : Boxed W2 w1.heap.size 30 (.slice a p.length cap) := by rw [hW2]; exact b3.alloc _
  have B4 : Boxed W2 (w1.heap.size + 1) 2 (.int .i64 (c : Int)) := by rw [hW2]; exact b4
  have HA2 : Hid (Adds w0.heap.size sb mb (.slice a p.length cap) w v F T (SndF p) W2 v1 F1 T1) := HA1.out.on h12
  have hsb : sb < w.heap.size := by have := cell_lt hS.cells.g0.1; exact this
  have hmb : mb < w.heap.size := hS.map.lt
  have hb2 : Below w0.heap.size w0 W2 := hb1.trans (h12.mono hb1.size)
  have HBX : Hid (∀ x ∈ ([(A, 48, .pointer (some ⟨sb, 0, none⟩)), (A + 1, 2, .int .i64 n), (w1.heap.size, 30, .slice a p.length cap), (w1.heap.size + 1, 2, .int .i64 (c : Int))] : List (Nat × TypeId × Value)), Boxed W2 x.1 x.2.1 x.2.2 ∧ FarS sb mb W2 v1 x.1) := fun x hx => by
    simp only [List.mem_cons, List.not_mem_nil, or_false] at hx
    rcases hx with rfl | rfl | rfl | rfl
    · exact ⟨(h12.block _ XA1.out.lt).trans XA1.out, FA1.out.on h12.size⟩
    · exact ⟨(h12.block _ XN1.out.lt).trans XN1.out, FN1.out.on h12.size⟩
    · exact ⟨B3, HA1.out.st.far (Nat.le_refl _) (by dsimp only; omega)⟩
    · exact ⟨B4, HA1.out.st.far (by dsimp only; omega) (by dsimp only; omega)⟩
  rw [← hW2]
  clear hW2 b3 b4 xa s0
  refine wpIn_rangeFunc_ownG rfl (show 1 ≤ 4 by omega) (gf := 107) (lb := #[.pointer (some ⟨w1.heap.size + 1, 0, none⟩), .pointer (some ⟨w1.heap.size, 0, none⟩)]) rfl trivial (enters_of Tryz.func107 (by kernel_rfl) rfl)
    (down_stops _ (by omega) (w1.heap.size + 1) w1.heap.size Bp p a cap c hc h6 HSU.out w0 _ HSK.out hb2 B4 B3) kp_t (kp_b (by omega) (by simp; omega)) (Below.refl _ _) (fun _ => rfl)
    (fun pre W => Rng w0.heap.size sb mb (.slice a p.length cap) w v F T [(A, 48, .pointer (some ⟨sb, 0, none⟩)), (A + 1, 2, .int .i64 n), (w1.heap.size, 30, .slice a p.length cap), (w1.heap.size + 1, 2, .int .i64 (c : Int))] (fun F' => NewE p n F (vals pre) F' ∧ (∀ f ∈ F1, f ∈ F') ∧ ∀ d s : Nat, (d : Int) ∈ vals pre → ((0, (d : Int), 0) : Fd) ∈ F → selF p (d : Int) n = (s : Int) → ((1, (s : Int), n) : Fd) ∈ F') W)
    (fun _ _ _ => False)
    (fun pre X Y row hs hg hr => hs.grown hg (by omega) (by omega) (by omega) hr)
    (fun _ _ _ _ _ hs _ _ => hs)
    ⟨v1, F1, T1, HA2.out.imp (fun _ _ => trivial), HBX.out, fun g hg => (HA2.out.new g hg).imp_right .inl, fun _ h => h, fun d s hd => by simp [vals] at hd⟩
    (fun x => { tmps := #[.pointer (some ⟨sb, 0, none⟩), .int .i64 (c : Int), .int .i64 n, .pointer (some ⟨A, 0, none⟩), undef, .pointer (some ⟨A + 1, 0, none⟩), .int .i64 x.1, .pointer (some ⟨sb, 0, none⟩), .int .i64 (c : Int), .int .i64 n, .tuple #[], .pointer (some ⟨sb, 0, none⟩), .pointer (some ⟨sb, 0, none⟩), .pointer (some ⟨sb, 0, none⟩), .agg #[.slice a p.length cap], .int .i64 (c : Int), .func (.func 107) #[] #[.pointer (some ⟨w1.heap.size + 1, 0, none⟩), .pointer (some ⟨w1.heap.size, 0, none⟩)], .int .i64 x.1, undef, undef, undef, undef, undef, undef, undef, undef], defers := [] }) ?assign ?body ?done ?stop
  case assign =>
    intro l x W K hK
    gi_wp2
    exact hK
  case body =>
    rintro l pre x W ⟨v', F', T', hA, hbs, hN, hF1, hQ⟩ _
    have HV : Hid (vals (pre ++ [x]) = vals pre ++ [x.1]) := vals_snoc pre x
    obtain ⟨xv, hx0, hx1⟩ := x
    obtain ⟨d, rfl⟩ := Int.eq_ofNat_of_zero_le hx0
    have hdp : d < p.length := by omega
    dsimp only at HV ⊢
    have c0 := (hbs _ (List.mem_cons_self)).1.cell
    have c1 := (hbs _ (List.mem_cons_of_mem _ List.mem_cons_self)).1.cell
    dsimp only at c0 c1
    have hhas := has_at w0.heap.size sb mb (.slice a p.length cap) v' F' T' (0, (d : Int), 0) (FewF.wf ⟨by dsimp only; omega, by dsimp only; omega, hx0, by dsimp only; omega, by dsimp only; omega, by dsimp only; omega⟩) W hA.st
    gi_wp2_with fail
    refine ⟨trivial, ?_⟩
    refine (callsIn_wide.2 hhas).mono ?_
    rintro e W1 ⟨rfl, hbW⟩
    have hbs0 := hbs
    have HMD : Hid (((0, (d : Int), 0) : Fd) ∈ F' → Rd p false d 0) := fun hm => by
      rcases hN _ hm with h | h | ⟨_, _, _, _, _, h⟩
      · have := ((HFS.out _ h).made rfl).2; simpa using this
      · have := (h.made rfl).2; simpa using this
      · simp at h
    have HFIN : Hid (∀ W3 v3 F3 T3, Adds w0.heap.size sb mb (.slice a p.length cap) W v' F' T' (fun g => ∃ s : Nat, selF p (d : Int) n = (s : Int) ∧ g = (1, (s : Int), n) ∧ ((0, (d : Int), 0) : Fd) ∈ F') W3 v3 F3 T3 → (∀ s : Nat, ((0, (d : Int), 0) : Fd) ∈ F' → selF p (d : Int) n = (s : Int) → ((1, (s : Int), n) : Fd) ∈ F3) →
        KeepsFrom W2.heap.size W W3 ∧ Kp w0.heap.size [w1.heap.size + 1, w1.heap.size] W W3 ∧ Rng w0.heap.size sb mb (.slice a p.length cap) w v F T [(A, 48, .pointer (some ⟨sb, 0, none⟩)), (A + 1, 2, .int .i64 n), (w1.heap.size, 30, .slice a p.length cap), (w1.heap.size + 1, 2, .int .i64 (c : Int))] (fun F' => NewE p n F (vals (pre ++ [⟨(d : Int), hx0, hx1⟩])) F' ∧ (∀ f ∈ F1, f ∈ F') ∧ ∀ d' s : Nat, (d' : Int) ∈ vals (pre ++ [⟨(d : Int), hx0, hx1⟩]) → ((0, (d' : Int), 0) : Fd) ∈ F → selF p (d' : Int) n = (s : Int) → ((1, (s : Int), n) : Fd) ∈ F') W3) := fun W3 v3 F3 T3 h3 hm3 => by
      refine ⟨hA.st.keeps h3.fr (by omega) (by omega), ⟨h3.fr.below hA.st, fun b hb _ => ?_⟩, v3, F3, T3, hA.trans (h3.imp fun _ _ => trivial), boxes_next hbs0 h3.fr, fun g hg => ?_, fun f hf => h3.ext.up f (hF1 f hf), fun d' s hd' hdF hs => ?_⟩
      · simp only [List.mem_cons, List.not_mem_nil, or_false] at hb
        rcases hb with rfl | rfl
        · exact ((hbs0 _ (List.mem_cons_of_mem _ (List.mem_cons_of_mem _ (List.mem_cons_of_mem _ List.mem_cons_self)))).2.next h3.fr).2
        · exact ((hbs0 _ (List.mem_cons_of_mem _ (List.mem_cons_of_mem _ List.mem_cons_self))).2.next h3.fr).2
      · rcases h3.new g hg with h | ⟨s, hs, rfl, hm⟩
        · rcases hN g h with k | k | ⟨d', s', k1, k2, k3, k4⟩
          · exact .inl k
          · exact .inr (.inl k)
          · exact .inr (.inr ⟨d', s', by rw [HV]; exact List.mem_append_left _ k1, k2, k3, k4⟩)
        · exact .inr (.inr ⟨d, s, by rw [HV]; simp, HMD.out hm, hs, rfl⟩)
      · rw [HV] at hd'
        rcases List.mem_append.1 hd' with h | h
        · exact h3.ext.up _ (hQ d' s h hdF hs)
        · have e : (d' : Int) = (d : Int) := List.mem_singleton.1 h
          rw [e] at hdF hs
          exact hm3 s (hA.ext.up _ hdF) hs
    have HA1' : Hid (Adds w0.heap.size sb mb (.slice a p.length cap) w v F T (fun _ => True) W1 v' F' T') := hA.on hbW
    have HW1 : Hid (Adds w0.heap.size sb mb (.slice a p.length cap) W v' F' T' (fun g => ∃ s : Nat, selF p (d : Int) n = (s : Int) ∧ g = (1, (s : Int), n) ∧ ((0, (d : Int), 0) : Fd) ∈ F') W1 v' F' T') := Adds.start hA.st hbW
    have hbs1 := boxes_next hbs (Frs.of v' hbW)
    have d0 := (hbs1 _ (List.mem_cons_self)).1.cell
    have d1 := (hbs1 _ (List.mem_cons_of_mem _ List.mem_cons_self)).1.cell
    dsimp only at d0 d1
    have hbW1 : Below w0.heap.size w0 W1 := hb0.trans (HA1'.out.below hS)
    clear hbs hbs0 hbs1 hhas c0 c1 hN hQ hF1 HBX
    by_cases hm : ((0, (d : Int), 0) : Fd) ∈ F'
    · rw [decide_eq_true hm]
      have hsel := selectsE_at Bp p hok hsp w0.heap.size sb mb cap a v' F' T' d hdp n W1 hbW1.size HA1'.out.st (SK.on HSK.out (Keep.of hbW1)) hn
      gi_wp2_with fail
      refine ⟨trivial, ?_⟩
      refine (callsIn_wide.2 hsel).mono ?_
      rintro e W3 ⟨rfl, v3, F3, T3, hA3, hm3⟩
      have hfin := HFIN.out W3 v3 F3 T3 (HW1.out.trans (hA3.imp fun g hg => by obtain ⟨s, h1, h2⟩ := hg; exact ⟨s, h1, h2, hm⟩)) (fun s _ hs => hm3 s hs)
      clear hsel hA3 hm3 HW1 HA1' HFIN HMD d0 d1
      gi_wp2
      exact hfin
    · rw [decide_eq_false hm]
      have hfin := HFIN.out W1 v' F' T' HW1.out (fun s h _ => absurd h hm)
      clear HW1 HA1' HFIN HMD d0 d1
      gi_wp2
      exact hfin
  case done =>
    rintro D ys W hD hys ⟨v', F', T', hA, hbs, hN, hF1, hQ⟩ hK
    have hpo : Adds w0.heap.size sb mb (.slice a p.length cap) w v F T (SndF p) (W.putObj D (.deferred none)) v' F' T' := by
      have h := hA.grown (B := W2.heap.size) (grownBy_putObj' W D (.deferred none)) (by omega) (by omega) (by omega) (fun r e => by cases e; exact ⟨hD, _, hK, rfl⟩)
      refine ⟨h.st, h.ext, h.fr, fun g hg => ?_⟩
      rcases hN g hg with k | k | ⟨d', s', k1, k2, k3, k4⟩
      · exact .inl k
      · exact .inr k
      · rw [hys] at k1
        subst k4
        exact .inr (HP2.out d' s' k2 (List.mem_filter.1 k1).2 k3)
    have hq : Hid ((∀ s : Nat, selF p (c : Int) n = (s : Int) → ((1, (s : Int), n) : Fd) ∈ F') ∧ ∀ d s : Nat, ((0, (d : Int), 0) : Fd) ∈ F → undB p (d : Int) (c : Int) = true → selF p (d : Int) n = (s : Int) → ((1, (s : Int), n) : Fd) ∈ F') := by
      refine ⟨fun s hs => hF1 _ (HM1.out s hs), fun d s hd hu hs => hQ d s ?_ hd hs⟩
      rw [hys]
      have hlt := (rd_there hok (by have := ((HFS.out _ hd).made rfl).2; simpa using this : Rd p false d 0)).1 rfl
      unfold downL allC
      exact List.mem_filter.2 ⟨List.mem_map.2 ⟨d, List.mem_range.2 hlt, rfl⟩, hu⟩
    clear hbs hN hF1 hQ HBX
    gi_wp2
    refine ⟨by simp, .inl ⟨_, _, rfl, run_takeDeferred hK, ?_⟩⟩
    first
      | exact ⟨_, results_none rfl _ _ _, rfl, v', F', T', hpo, hq⟩
      | (trace_state; sorry)
  case stop =>
    rintro D c pre W _ _ h _
    exact h.elim
end Pg
end Go.Proofs.YtinanjjhkddikaaGreat

/- The search goes on: a made class meets the calls of those above it. -/
namespace Go.Proofs.YtinanjjhkddikaaGreat
namespace Pg
open Go.ChangeShapes Go.WideShapes Go.ChangeAt Go.RowKit Go.Shelf St Wd
attribute [local go_sem] Oper.semAt_some
/-- What the calls that have been met may have brought. -/
def NewU (p : Prg) (c : Nat) (F : List Fd) (As : List Int) (F' : List Fd) : Prop := ∀ g ∈ F', g ∈ F ∨ SndF p g ∨ ∃ (A s : Nat) (B : Int), (A : Int) ∈ As ∧ SndF p (2, (A : Int), B) ∧ selF p (c : Int) B = (s : Int) ∧ g = (1, (s : Int), B)
theorem mixed_orders : Tryz.prog.follows .mixedOrders = true := by kernel_rfl
set_option maxRecDepth 100000 in
set_option maxHeartbeats 1000000 in
theorem followMade_at (Bp : Nat) (p : Prg) (hok : okP p = true) (hsp : SmallP p) (w0 : World) (sb mb cap : Nat) (a : Option Addr) (hsk : SK front Bp w0 (.slice a p.length cap) p) (v : Value) (F T : List Fd) (c : Nat) (hc : c < p.length) (w : World) (hb0 : Below w0.heap.size w0 w) (hS : Srch w0.heap.size sb mb (.slice a p.length cap) w v F T)
    (hFS : ∀ f ∈ F, SndF p f) (hP2 : ∀ (A s : Nat) (B : Int), SndF p (2, (A : Int), B) → undB p (c : Int) (A : Int) = true → selF p (c : Int) B = (s : Int) → SndF p (1, (s : Int), B)) :
    Calls Tryz.prog 79 #[.pointer (some ⟨sb, 0, none⟩), .int .i64 (c : Int)] w fun e w' => e = .returned (.tuple #[]) ∧ ∃ v' F' T', Adds w0.heap.size sb mb (.slice a p.length cap) w v F T (SndF p) w' v' F' T' ∧ Hid (∀ (A s : Nat) (B : Int), ((2, (A : Int), B) : Fd) ∈ F → undB p (c : Int) (A : Int) = true → selF p (c : Int) B = (s : Int) → ((1, (s : Int), B) : Fd) ∈ F') := by
  have h6 := (okP_len hok).2
  have HSU : Hid (SupOk p p.length) := okP_sup hok
  have HSK : Hid (SK front Bp w0 (.slice a p.length cap) p) := hsk
  have HP2 : Hid (∀ (A s : Nat) (B : Int), SndF p (2, (A : Int), B) → undB p (c : Int) (A : Int) = true → selF p (c : Int) B = (s : Int) → SndF p (1, (s : Int), B)) := hP2
  have HFS : Hid (∀ f ∈ F, SndF p f) := hFS
  obtain ⟨A, hA⟩ : ∃ A, w.heap.size = A := ⟨_, rfl⟩
  obtain ⟨V, hV⟩ : ∃ V, V = (w.alloc (.cells #[.pointer (some ⟨sb, 0, none⟩)] 48)).alloc (.cells #[.int .i64 (c : Int)] 2) := ⟨_, rfl⟩
  have hwV : Below w.heap.size w V := by rw [hV]; exact ((Below.refl _ _).alloc (Nat.le_refl _) _).alloc (by simp) _
  have XA : Hid (Boxed V A 48 (.pointer (some ⟨sb, 0, none⟩))) := by rw [hV, ← hA]; exact (Boxed.new w _ _).alloc _
  have XN : Hid (Boxed V (A + 1) 2 (.int .i64 (c : Int))) := by
    have h := Boxed.new (w.alloc (.cells #[.pointer (some ⟨sb, 0, none⟩)] 48)) 2 (.int .i64 (c : Int))
    simp only [World.size_alloc] at h
    rw [hV, ← hA]; exact h
  have hBw : w0.heap.size ≤ w.heap.size := hb0.size
  have HAV : Hid (Adds w0.heap.size sb mb (.slice a p.length cap) w v F T (SndF p) V v F T) := Adds.start hS hwV
  have FA : Hid (FarS sb mb V v A) := hS.far (by omega) XA.out.lt
  have FN : Hid (FarS sb mb V v (A + 1)) := hS.far (by omega) XN.out.lt
  clear hsk hP2 hFS
  have xa := XA.out.cell
  have xn := XN.out.cell
  have s0 := HAV.out.st.cells.g0.1
  have hmx := mixed_orders
  refine (callsIn_wide (n := 4)).1 ?_
  refine callsIn_of_wp_marks Tryz.func79 rfl trivial ?_ rfl
  simp only [Tryz.ntmps79, List.size_toArray, List.length_cons, List.length_nil, Nat.reduceAdd, Nat.reduceSub, Array.replicate_succ, Array.replicate_zero, List.push_toArray, List.append_toArray, List.nil_append, List.cons_append]
  gi_wp2_with fail
  try rw [hA]
  rw [← hV]
  clear hV
  have HK : Hid (∀ X, Below V.heap.size V X → Below V.heap.size V X ∧ X.cell? ⟨A, 0, none⟩ = some (.pointer (some ⟨sb, 0, none⟩)) ∧ X.cell? ⟨A + 1, 0, none⟩ = some (.int .i64 (c : Int)) ∧ X.cell? ⟨sb, 0, none⟩ = some (.slice a p.length cap)) := fun X hX =>
    ⟨hX, (hX.cell (cell_lt xa)).trans xa, (hX.cell (cell_lt xn)).trans xn, (hX.cell (cell_lt s0)).trans s0⟩
  have KD := HK.out _ (Below.refl V.heap.size V).drew
  have HUP : Hid (∀ X, X = V.drew → Calls Tryz.prog 91 #[.agg #[.slice a p.length cap], .int .i64 (c : Int)] X fun e w' => e = .returned (.func (.func 103) #[] #[.pointer (some ⟨V.heap.size + 1, 0, none⟩), .pointer (some ⟨V.heap.size, 0, none⟩)]) ∧ Below V.heap.size V w' ∧ Boxed w' V.heap.size 30 (.slice a p.length cap) ∧ Boxed w' (V.heap.size + 1) 2 (.int .i64 (c : Int)) ∧ w'.heap.size = V.heap.size + 1 + 1) := fun X hX => by
    subst hX
    refine (callsIn_wide.1 (upFrom_in 4 a p.length cap (c : Int) V.drew)).mono ?_
    rintro e w' ⟨rfl, rfl⟩
    have b3 := Boxed.new V.drew 30 (.slice a p.length cap)
    have b4 := Boxed.new (V.drew.alloc (.cells #[.slice a p.length cap] 30)) 2 (.int .i64 (c : Int))
    simp only [World.size_alloc] at b4
    exact ⟨rfl, ((Below.refl _ _).drew.alloc (Nat.le_refl _) _).alloc (by simp) _, b3.alloc _, b4, by simp⟩
  refine wpIn_wide.2 ?_
  go_region_held3 (fun X => Below V.heap.size V X ∧ X.cell? ⟨A, 0, none⟩ = some (.pointer (some ⟨sb, 0, none⟩)) ∧ X.cell? ⟨A + 1, 0, none⟩ = some (.int .i64 (c : Int)) ∧ X.cell? ⟨sb, 0, none⟩ = some (.slice a p.length cap))
    (first | exact KD | assumption)
    (first
      | (go_at_call 91; refine (HUP.out _ rfl).mono ?_; rintro e W2 ⟨rfl, hb2, B3, B4, hz2⟩; have KU := HK.out _ hb2))
  clear KD KU HK HUP xa xn s0
  gi_wp2_with fail
  have HA2 : Hid (Adds w0.heap.size sb mb (.slice a p.length cap) w v F T (SndF p) W2 v F T) := HAV.out.on hb2
  have hsb : sb < w.heap.size := by have := cell_lt hS.cells.g0.1; exact this
  have hmb : mb < w.heap.size := hS.map.lt
  have hwz := hwV.size
  have hbV : Below w0.heap.size w0 V := hb0.trans (HAV.out.below hS)
  have hbW2 : Below w0.heap.size w0 W2 := hbV.trans (hb2.mono hbV.size)
  have HBX : Hid (∀ x ∈ ([(A, 48, .pointer (some ⟨sb, 0, none⟩)), (A + 1, 2, .int .i64 (c : Int)), (V.heap.size, 30, .slice a p.length cap), (V.heap.size + 1, 2, .int .i64 (c : Int))] : List (Nat × TypeId × Value)), Boxed W2 x.1 x.2.1 x.2.2 ∧ FarS sb mb W2 v x.1) := fun x hx => by
    simp only [List.mem_cons, List.not_mem_nil, or_false] at hx
    rcases hx with rfl | rfl | rfl | rfl
    · exact ⟨(hb2.block _ XA.out.lt).trans XA.out, FA.out.on hb2.size⟩
    · exact ⟨(hb2.block _ XN.out.lt).trans XN.out, FN.out.on hb2.size⟩
    · exact ⟨B3, HAV.out.st.far (Nat.le_refl _) (by dsimp only; omega)⟩
    · exact ⟨B4, HAV.out.st.far (by dsimp only; omega) (by dsimp only; omega)⟩
  refine wpIn_rangeFunc_ownG rfl (show 1 ≤ 4 by omega) (gf := 103) (lb := #[.pointer (some ⟨V.heap.size + 1, 0, none⟩), .pointer (some ⟨V.heap.size, 0, none⟩)]) rfl trivial (enters_of Tryz.func103 (by kernel_rfl) rfl)
    (up_stopsC _ (by omega) (V.heap.size + 1) V.heap.size Bp p a cap (c : Int) (by omega) (by omega) h6 HSU.out w0 _ HSK.out hbW2 B4.cell B3) kp_t (kp_b (by omega) (by simp; omega)) (Below.refl _ _) (fun _ => rfl)
    (fun pre W => Rng w0.heap.size sb mb (.slice a p.length cap) w v F T [(A, 48, .pointer (some ⟨sb, 0, none⟩)), (A + 1, 2, .int .i64 (c : Int)), (V.heap.size, 30, .slice a p.length cap), (V.heap.size + 1, 2, .int .i64 (c : Int))] (fun F' => NewU p c F (vals pre) F' ∧ ∀ (Ac s : Nat) (B : Int), (Ac : Int) ∈ vals pre → ((2, (Ac : Int), B) : Fd) ∈ F → selF p (c : Int) B = (s : Int) → ((1, (s : Int), B) : Fd) ∈ F') W)
    (fun _ _ _ => False)
    (fun pre X Y row hs hg hr => hs.grown hg (by omega) (by omega) (by omega) hr)
    (fun _ _ _ _ _ hs _ _ => hs)
    ⟨v, F, T, HA2.out.imp (fun _ _ => trivial), HBX.out, fun g hg => .inl hg, fun Ac s B hd => by simp [vals] at hd⟩
    (fun x => { tmps := #[.pointer (some ⟨sb, 0, none⟩), .int .i64 (c : Int), .pointer (some ⟨A, 0, none⟩), .pointer (some ⟨A + 1, 0, none⟩), .int .i64 x.1, undef, .pointer (some ⟨sb, 0, none⟩), .pointer (some ⟨sb, 0, none⟩), .pointer (some ⟨sb, 0, none⟩), .agg #[.slice a p.length cap], .int .i64 (c : Int), .func (.func 103) #[] #[.pointer (some ⟨V.heap.size + 1, 0, none⟩), .pointer (some ⟨V.heap.size, 0, none⟩)], .int .i64 x.1, undef, undef, undef, undef, undef, undef, undef, undef, undef, undef, undef, undef, undef], defers := [] }) ?assign ?body ?done ?stop
  case assign =>
    intro l x W K hK
    gi_wp2
    exact hK
  case body =>
    rintro l pre x W ⟨v', F', T', hA', hbs, hN, hQ⟩ _
    have HV : Hid (vals (pre ++ [x]) = vals pre ++ [x.1]) := vals_snoc pre x
    obtain ⟨xv, hx0, hx1⟩ := x
    obtain ⟨d, rfl⟩ := Int.eq_ofNat_of_zero_le hx0
    have hdp : d < p.length := by omega
    dsimp only at HV ⊢
    have HMD : Hid (∀ B, ((2, (d : Int), B) : Fd) ∈ F' → SndF p (2, (d : Int), B)) := fun B hm => by
      rcases hN _ hm with h | h | ⟨_, _, _, _, _, _, h⟩
      · exact HFS.out _ h
      · exact h
      · simp at h
    have HFIN : Hid (∀ W3 v3 F3 T3, Adds w0.heap.size sb mb (.slice a p.length cap) W v' F' T' (fun g => ∃ (s : Nat) (B : Int), SndF p (2, (d : Int), B) ∧ selF p (c : Int) B = (s : Int) ∧ g = (1, (s : Int), B)) W3 v3 F3 T3 → (∀ (s : Nat) (B : Int), 0 ≤ B → B < 20 → ((2, (d : Int), B) : Fd) ∈ F' → selF p (c : Int) B = (s : Int) → ((1, (s : Int), B) : Fd) ∈ F3) →
        KeepsFrom W2.heap.size W W3 ∧ Kp w0.heap.size [V.heap.size] W W3 ∧ Rng w0.heap.size sb mb (.slice a p.length cap) w v F T [(A, 48, .pointer (some ⟨sb, 0, none⟩)), (A + 1, 2, .int .i64 (c : Int)), (V.heap.size, 30, .slice a p.length cap), (V.heap.size + 1, 2, .int .i64 (c : Int))] (fun F' => NewU p c F (vals (pre ++ [⟨(d : Int), hx0, hx1⟩])) F' ∧ ∀ (Ac s : Nat) (B : Int), (Ac : Int) ∈ vals (pre ++ [⟨(d : Int), hx0, hx1⟩]) → ((2, (Ac : Int), B) : Fd) ∈ F → selF p (c : Int) B = (s : Int) → ((1, (s : Int), B) : Fd) ∈ F') W3) := fun W3 v3 F3 T3 h3 hm3 => by
      refine ⟨hA'.st.keeps h3.fr (by omega) (by omega), ⟨h3.fr.below hA'.st, fun b hb _ => ?_⟩, v3, F3, T3, hA'.trans (h3.imp fun _ _ => trivial), boxes_next hbs h3.fr, fun g hg => ?_, fun Ac s B hd' hdF hs => ?_⟩
      · simp only [List.mem_cons, List.not_mem_nil, or_false] at hb
        subst hb
        exact ((hbs _ (List.mem_cons_of_mem _ (List.mem_cons_of_mem _ List.mem_cons_self))).2.next h3.fr).2
      · rcases h3.new g hg with h | ⟨s, B, hs1, hs2, rfl⟩
        · rcases hN g h with k | k | ⟨A', s', B', k1, k2, k3, k4⟩
          · exact .inl k
          · exact .inr (.inl k)
          · exact .inr (.inr ⟨A', s', B', by rw [HV.out]; exact List.mem_append_left _ k1, k2, k3, k4⟩)
        · exact .inr (.inr ⟨d, s, B, by rw [HV.out]; simp, hs1, hs2, rfl⟩)
      · rw [HV.out] at hd'
        have hfw := hS.few _ hdF
        rcases List.mem_append.1 hd' with h | h
        · exact h3.ext.up _ (hQ Ac s B h hdF hs)
        · have e : (Ac : Int) = (d : Int) := List.mem_singleton.1 h
          rw [e] at hdF
          exact hm3 s B hfw.c0 hfw.c1 (hA'.ext.up _ hdF) hs
    have HBS : Hid (∀ x ∈ ([(A, 48, .pointer (some ⟨sb, 0, none⟩)), (A + 1, 2, .int .i64 (c : Int)), (V.heap.size, 30, .slice a p.length cap), (V.heap.size + 1, 2, .int .i64 (c : Int))] : List (Nat × TypeId × Value)), Boxed W x.1 x.2.1 x.2.2 ∧ FarS sb mb W v' x.1) := hbs
    have HAW : Hid (Adds w0.heap.size sb mb (.slice a p.length cap) w v F T (fun _ => True) W v' F' T') := hA'
    have HST : Hid (Adds w0.heap.size sb mb (.slice a p.length cap) W v' F' T' (fun g => ∃ (s : Nat) (B : Int), SndF p (2, (d : Int), B) ∧ selF p (c : Int) B = (s : Int) ∧ g = (1, (s : Int), B)) W v' F' T') := Adds.start hA'.st (Below.refl _ _)
    have hbW : Below w0.heap.size w0 W := hb0.trans (hA'.below hS)
    clear hN hQ hbs hA' HBX
    gi_wp2
    gi_loopw [13] (fun y wr => ∃ (k : Nat) (v3 : Value) (F3 T3 : List Fd), k ≤ 20 ∧ y = .int .i64 (k : Int) ∧ Hid (Adds w0.heap.size sb mb (.slice a p.length cap) W v' F' T' (fun g => ∃ (s : Nat) (B : Int), SndF p (2, (d : Int), B) ∧ selF p (c : Int) B = (s : Int) ∧ g = (1, (s : Int), B)) wr v3 F3 T3) ∧ Hid (∀ (s : Nat) (B : Int), 0 ≤ B → B < (k : Int) → ((2, (d : Int), B) : Fd) ∈ F' → selF p (c : Int) B = (s : Int) → ((1, (s : Int), B) : Fd) ∈ F3)) (fun y _ => 20 - (intOf y).toNat)
    case atStart => exact ⟨0, v', F', T', by omega, rfl, HST.out, fun s B h0 h1 => by omega⟩
    case round =>
      clear HST
      obtain ⟨k, v3, F3, T3, hk, rfl, h3, hm3⟩ := hrel
      by_cases hlt : k < 20
      · have hki : (k : Int) < 20 := by omega
        have hbr : Below w0.heap.size w0 wr := hbW.trans (h3.out.below HAW.out.st)
        have hbs3 := boxes_next HBS.out h3.out.fr
        have c0 := (hbs3 _ (List.mem_cons_self)).1.cell
        dsimp only at c0
        have hhas := has_at w0.heap.size sb mb (.slice a p.length cap) v3 F3 T3 (2, (d : Int), (k : Int)) (FewF.wf ⟨by dsimp only; omega, by dsimp only; omega, hx0, by dsimp only; omega, by dsimp only; omega, by dsimp only; omega⟩) wr h3.out.st
        gi_wp2_with fail
        refine ⟨trivial, ?_⟩
        refine (callsIn_wide.2 hhas).mono ?_
        rintro e w4 ⟨rfl, hb4⟩
        have H4 : Hid (Adds w0.heap.size sb mb (.slice a p.length cap) W v' F' T' (fun g => ∃ (s : Nat) (B : Int), SndF p (2, (d : Int), B) ∧ selF p (c : Int) B = (s : Int) ∧ g = (1, (s : Int), B)) w4 v3 F3 T3) := h3.out.on hb4
        have hbs4 := boxes_next HBS.out H4.out.fr
        have d0 := (hbs4 _ (List.mem_cons_self)).1.cell
        have d1 := (hbs4 _ (List.mem_cons_of_mem _ List.mem_cons_self)).1.cell
        dsimp only at d0 d1
        have hbr4 : Below w0.heap.size w0 w4 := hbW.trans (H4.out.below HAW.out.st)
        clear hhas hbs3 hbs4 c0 hb4 h3
        by_cases hm : ((2, (d : Int), (k : Int)) : Fd) ∈ F3
        · rw [decide_eq_true hm]
          have hsnd : SndF p (2, (d : Int), (k : Int)) := by
            rcases H4.out.new _ hm with h | ⟨_, _, _, _, h⟩
            · exact HMD.out _ h
            · simp at h
          have hsel := selectsE_at Bp p hok hsp w0.heap.size sb mb cap a v3 F3 T3 c hc (k : Int) w4 hbr4.size H4.out.st (SK.on HSK.out (Keep.of hbr4)) ⟨by omega, by omega⟩
          gi_wp2_with fail
          refine ⟨trivial, ?_⟩
          refine (callsIn_wide.2 hsel).mono ?_
          rintro e w5 ⟨rfl, v5, F5, T5, h5, hm5⟩
          have H5 : Hid (Adds w0.heap.size sb mb (.slice a p.length cap) W v' F' T' (fun g => ∃ (s : Nat) (B : Int), SndF p (2, (d : Int), B) ∧ selF p (c : Int) B = (s : Int) ∧ g = (1, (s : Int), B)) w5 v5 F5 T5) := H4.out.trans (h5.imp fun g hg => by obtain ⟨s, h1, h2⟩ := hg; exact ⟨s, (k : Int), hsnd, h1, h2⟩)
          have HM5 : Hid (∀ (s : Nat) (B : Int), 0 ≤ B → B < ((k + 1 : Nat) : Int) → ((2, (d : Int), B) : Fd) ∈ F' → selF p (c : Int) B = (s : Int) → ((1, (s : Int), B) : Fd) ∈ F5) := fun s B h0 h1 hB hs => by
            by_cases e : B = (k : Int)
            · subst e; exact hm5 s hs
            · exact h5.ext.up _ (hm3.out s B h0 (by omega) hB hs)
          clear hsel h5 hm5 H4 hm3 d0 d1
          gi_wp2
          go_roundw
          case rel => exact ⟨k + 1, v5, F5, T5, by omega, by go_num, H5.out, HM5.out⟩
          case measure => simp [intOf]; omega
        · rw [decide_eq_false hm]
          have HM5 : Hid (∀ (s : Nat) (B : Int), 0 ≤ B → B < ((k + 1 : Nat) : Int) → ((2, (d : Int), B) : Fd) ∈ F' → selF p (c : Int) B = (s : Int) → ((1, (s : Int), B) : Fd) ∈ F3) := fun s B h0 h1 hB hs => by
            by_cases e : B = (k : Int)
            · subst e; exact absurd (H4.out.ext.up _ hB) hm
            · exact hm3.out s B h0 (by omega) hB hs
          clear hm3 d0 d1
          gi_wp2
          go_roundw
          case rel => exact ⟨k + 1, v3, F3, T3, by omega, by go_num, H4.out, HM5.out⟩
          case measure => simp [intOf]; omega
      · have hki : ¬ (k : Int) < 20 := by omega
        have hfin := HFIN.out wr v3 F3 T3 h3.out (fun s B h0 h1 hB hs => hm3.out s B h0 (by omega) hB hs)
        clear HFIN h3 hm3 HBS HAW
        rw [hz2] at hfin
        gi_wp2
        exact hfin
  case done =>
    rintro D ys W hD hys ⟨v', F', T', hA', hbs, hN, hQ⟩ hK
    have hpo : Adds w0.heap.size sb mb (.slice a p.length cap) w v F T (SndF p) (W.putObj D (.deferred none)) v' F' T' := by
      have h := hA'.grown (B := W2.heap.size) (grownBy_putObj' W D (.deferred none)) (by omega) (by omega) (by omega) (fun r e => by cases e; exact ⟨hD, _, hK, rfl⟩)
      refine ⟨h.st, h.ext, h.fr, fun g hg => ?_⟩
      rcases hN g hg with k | k | ⟨A', s', B', k1, k2, k3, k4⟩
      · exact .inl k
      · exact .inr k
      · rw [hys] at k1
        subst k4
        exact .inr (HP2.out A' s' B' k2 (by unfold undB; exact decide_eq_true k1) k3)
    have hq : Hid (∀ (A s : Nat) (B : Int), ((2, (A : Int), B) : Fd) ∈ F → undB p (c : Int) (A : Int) = true → selF p (c : Int) B = (s : Int) → ((1, (s : Int), B) : Fd) ∈ F') := fun Ac s B hd hu hs => by
      refine hQ Ac s B ?_ hd hs
      rw [hys]
      unfold undB at hu
      exact of_decide_eq_true hu
    clear hbs hN hQ HBX
    gi_wp2
    refine ⟨by simp, .inl ⟨_, _, rfl, run_takeDeferred hK, ?_⟩⟩
    exact ⟨_, results_none rfl _ _ _, rfl, v', F', T', hpo, hq⟩
  case stop =>
    rintro D c pre W _ _ h _
    exact h.elim
end Pg
end Go.Proofs.YtinanjjhkddikaaGreat

/- One sweep over what is reached, plainly: rows only grow; where they are as long at its end as ahead of it, all that it asked for was there. -/
namespace Go.Proofs.YtinanjjhkddikaaGreat
namespace Pg
open Go.ChangeShapes Go.WideShapes Go.ChangeAt Go.RowKit St Wd

structure SndR (p : Prg) (M L : List Int) : Prop where
  rm : Rise M
  rl : Rise L
  m0 : (0 : Int) ∈ M
  l0 : (0 : Int) ∈ L
  sm : ∀ x ∈ M, ∃ c : Nat, x = (c : Int) ∧ Rd p false c 0
  sl : ∀ x ∈ L, ∃ (c : Nat) (n : Int), x = (c : Int) * 20 + n ∧ Rd p true c n
theorem SndR.start (p : Prg) : SndR p [0] [0] :=
  ⟨by simp, by simp, by simp, by simp, fun x hx => ⟨0, by simpa using hx, .made⟩, fun x hx => ⟨0, 0, by simpa using hx, .main⟩⟩
theorem SndR.putM {p : Prg} {M L : List Int} (h : SndR p M L) {A : Nat} (hA : Rd p false A 0) : SndR p (putL M (A : Int)) L :=
  ⟨putL_rise h.rm _, h.rl, mem_putL.2 (.inl h.m0), h.l0, fun x hx => (mem_putL.1 hx).elim (h.sm x) fun e => ⟨A, e, hA⟩, h.sl⟩
theorem SndR.putL {p : Prg} {M L : List Int} (h : SndR p M L) {c : Nat} {n : Int} (hA : Rd p true c n) : SndR p M (putL L ((c : Int) * 20 + n)) :=
  ⟨h.rm, putL_rise h.rl _, h.m0, mem_putL.2 (.inl h.l0), h.sm, fun x hx => (mem_putL.1 hx).elim (h.sl x) fun e => ⟨c, n, e, hA⟩⟩
theorem rise_fits {n : Nat} {l : List Int} (h : Rise l) (hb : ∀ x ∈ l, 0 ≤ x ∧ x < (n : Int)) : l.length ≤ n := by
  have := rise_le h (risL_rise (fun _ => true) n) fun x hx => by
    obtain ⟨h0, h1⟩ := hb x hx
    obtain ⟨k, rfl⟩ := Int.eq_ofNat_of_zero_le h0
    exact risL_mem.2 ⟨k, by omega, rfl, rfl⟩
  have hl : (risL (fun _ => true) n).length = n := by unfold risL; rw [List.length_map, List.filter_eq_self.2 (fun _ _ => rfl), List.length_range]
  omega
theorem SndR.lenM {p : Prg} (hok : okP p = true) {M L : List Int} (h : SndR p M L) : M.length ≤ 6 := by
  have h6 := (okP_len hok).2
  refine rise_fits h.rm fun x hx => ?_
  obtain ⟨c, rfl, hr⟩ := h.sm x hx
  have := (rd_there hok hr).1 rfl
  omega
theorem SndR.atL {p : Prg} (hok : okP p = true) {M L : List Int} (h : SndR p M L) {x : Int} (hx : x ∈ L) : ∃ (c : Nat) (n : Nat), x = (c : Int) * 20 + (n : Int) ∧ n < 20 ∧ c < p.length ∧ Rd p true c (n : Int) ∧ ∃ cl own, p[c]? = some cl ∧ ownF cl (n : Int) = some own := by
  obtain ⟨c, n, rfl, hr⟩ := h.sl x hx
  have hn := rd_name hok hr
  obtain ⟨k, rfl⟩ := Int.eq_ofNat_of_zero_le hn.1
  obtain ⟨cl, own, h1, h2⟩ := (rd_there hok hr).2 rfl
  exact ⟨c, k, rfl, by omega, (List.getElem?_eq_some_iff.1 h1).1, hr, cl, own, h1, h2⟩
theorem SndR.lenL {p : Prg} (hok : okP p = true) {M L : List Int} (h : SndR p M L) : L.length ≤ 120 := by
  have h6 := (okP_len hok).2
  refine rise_fits h.rl fun x hx => ?_
  obtain ⟨c, n, rfl, hn, hc, _⟩ := h.atL hok hx
  omega
/-- Where a sweep stands: Q is what has been asked for, and was there if nothing has been put. -/
structure Swe (p : Prg) (M0 L0 M L : List Int) (Q : Prop) : Prop where
  snd : SndR p M L
  subM : ∀ x ∈ M0, x ∈ M
  subL : ∀ x ∈ L0, x ∈ L
  leM : M0.length ≤ M.length
  leL : L0.length ≤ L.length
  asks : M.length + L.length = M0.length + L0.length → Q
theorem Swe.start {p : Prg} {M L : List Int} (h : SndR p M L) {Q : Prop} (hQ : Q) : Swe p M L M L Q := ⟨h, fun _ h => h, fun _ h => h, Nat.le_refl _, Nat.le_refl _, fun _ => hQ⟩
theorem Swe.weak {p : Prg} {M0 L0 M L : List Int} {Q Q' : Prop} (h : Swe p M0 L0 M L Q) (hQ : Q → Q') : Swe p M0 L0 M L Q' := ⟨h.snd, h.subM, h.subL, h.leM, h.leL, fun e => hQ (h.asks e)⟩
theorem Swe.same {p : Prg} {M0 L0 M L : List Int} {Q : Prop} (h0 : SndR p M0 L0) (h : Swe p M0 L0 M L Q) (e : M.length + L.length = M0.length + L0.length) : M = M0 ∧ L = L0 ∧ Q := by
  have h1 := h.leM
  have h2 := h.leL
  exact ⟨(rise_same h0.rm h.snd.rm h.subM (by omega)).symm, (rise_same h0.rl h.snd.rl h.subL (by omega)).symm, h.asks e⟩
theorem Swe.putM {p : Prg} {M0 L0 M L : List Int} {Q : Prop} (h0 : SndR p M0 L0) (h : Swe p M0 L0 M L Q) {A : Nat} (hA : Rd p false A 0) : Swe p M0 L0 (Pg.putL M (A : Int)) L (Q ∧ (A : Int) ∈ M0) := by
  have hl := putL_ge (A : Int) M
  refine ⟨h.snd.putM hA, fun x hx => mem_putL.2 (.inl (h.subM x hx)), h.subL, Nat.le_trans h.leM hl, h.leL, fun e => ?_⟩
  have h1 := h.leM
  have h2 := h.leL
  have hQ := h.asks (by omega)
  have e2 := rise_same h0.rm (h.snd.putM hA).rm (fun x hx => mem_putL.2 (.inl (h.subM x hx))) (by omega)
  exact ⟨hQ, by rw [e2]; exact mem_putL.2 (.inr rfl)⟩
theorem Swe.putL {p : Prg} {M0 L0 M L : List Int} {Q : Prop} (h0 : SndR p M0 L0) (h : Swe p M0 L0 M L Q) {c : Nat} {n : Int} (hA : Rd p true c n) : Swe p M0 L0 M (Pg.putL L ((c : Int) * 20 + n)) (Q ∧ (c : Int) * 20 + n ∈ L0) := by
  have hl := putL_ge ((c : Int) * 20 + n) L
  refine ⟨h.snd.putL hA, h.subM, fun x hx => mem_putL.2 (.inl (h.subL x hx)), h.leM, Nat.le_trans h.leL hl, fun e => ?_⟩
  have h1 := h.leM
  have h2 := h.leL
  have hQ := h.asks (by omega)
  have e2 := rise_same h0.rl (h.snd.putL hA).rl (fun x hx => mem_putL.2 (.inl (h.subL x hx))) (by omega)
  exact ⟨hQ, by rw [e2]; exact mem_putL.2 (.inr rfl)⟩
/-- All reached steps of the first k methods have been asked about. -/
def AskK (p : Prg) (M0 L0 : List Int) (k : Nat) : Prop := ∀ j, j < k → ∀ x, L0[j]? = some x → ∀ (c : Nat) n i, x = (c : Int) * 20 + n → Rd p true c n → Runs p c n i → Stp p M0 L0 i
/-- A sweep that has put nothing: the rows are the answers. -/
theorem Swe.ends {p : Prg} (hok : okP p = true) {M0 L0 M L : List Int} (h0 : SndR p M0 L0) (h : Swe p M0 L0 M L (AskK p M0 L0 L0.length)) (e : M.length + L.length = M0.length + L0.length) : M = risL (madB p) 6 ∧ L = risL (livB p) 120 := by
  obtain ⟨rfl, rfl, hQ⟩ := h.same h0 e
  refine reach_lists hok h0.rm h0.rl h0.m0 h0.l0 h0.sm h0.sl fun c n i hx hr hi => ?_
  obtain ⟨j, hj, hjx⟩ := List.getElem_of_mem hx
  exact hQ j hj _ (by rw [List.getElem?_eq_getElem hj, hjx]) c n i rfl hr hi
end Pg
end Go.Proofs.YtinanjjhkddikaaGreat

/- The search goes on: what a method that is reached brings. -/
namespace Go.Proofs.YtinanjjhkddikaaGreat
namespace Pg
open Go.ChangeShapes Go.WideShapes Go.ChangeAt Go.RowKit St Wd
theorem sndF_need {p : Prg} {t : Int} (h0 : 0 ≤ t) (h1 : t < (p.length : Int)) (hn : Nd p t.toNat) : SndF p (3, t, 0) := by
  refine ⟨⟨t.toNat, ?_, ?_⟩, .inr (.inr (.inr rfl)), fun e => ?_, fun e => ?_, fun e => ?_, fun _ => ⟨rfl, hn⟩⟩
  · dsimp only; omega
  · omega
  all_goals simp at e
theorem sndF_live {p : Prg} {s : Nat} {n : Int} (h : Rd p true s n) (hl : s < p.length) : SndF p (1, (s : Int), n) := by
  refine ⟨⟨s, rfl, hl⟩, .inr (.inl rfl), fun e => ?_, fun _ => ?_, fun e => ?_, fun e => ?_⟩
  · simp at e
  · dsimp only; rwa [Int.toNat_natCast]
  all_goals simp at e
theorem insP_of {p : Prg} {c : Nat} {n : Int} {i : Tx.Ins} (hr : Rd p true c n) (hi : Runs p c n i) : InsP p i := by
  have key : ∀ A : Int, 0 ≤ A → A < (p.length : Int) → ∃ k : Nat, A = (k : Int) ∧ k < p.length := fun A h0 h1 => ⟨A.toNat, by omega, by omega⟩
  refine ⟨fun e h0 h1 => ?_, fun e h0 h1 => ?_, fun e h0 h1 => ?_⟩
  · obtain ⟨k, hk, hl⟩ := key _ h0 h1
    rw [hk]
    refine ⟨⟨k, rfl, hl⟩, .inl rfl, fun _ => ⟨rfl, ?_⟩, fun e => ?_, fun e => ?_, fun e => ?_⟩
    · dsimp only; rw [Int.toNat_natCast]; exact .new hr hi e hk hl
    all_goals simp at e
  · obtain ⟨k, hk, hl⟩ := key _ h0 h1
    refine sndF_need h0 h1 ?_
    rw [hk, Int.toNat_natCast]
    exact .step hr hi (e.elim .inl (fun h => .inr (.inl h))) hk hl
  · obtain ⟨k, hk, hl⟩ := key _ h0 h1
    refine ⟨⟨k, hk, hl⟩, .inr (.inr (.inl rfl)), fun e => ?_, fun e => ?_, fun _ => ⟨c, n, i, hr, hi, e, rfl, rfl⟩, fun e => ?_⟩
    all_goals simp at e
/-- What a method must have brought. -/
structure MthQ (p : Prg) (F : List Fd) (own : Meth) : Prop where
  gives : 0 ≤ own.gives → own.gives < (p.length : Int) → ((3, own.gives, 0) : Fd) ∈ F
  args : ∀ t ∈ own.args, 0 ≤ t → t < (p.length : Int) → ((3, t, 0) : Fd) ∈ F
  steps : ∀ t : Nat, t < own.code.length → rchB own.code t = true → InsQ p F (insF own.code t)
theorem Cells.heap {u w : World} {k : Nat} {vs : List Value} (h : Cells u k vs) (e : w.heap[k]? = u.heap[k]?) : Cells w k vs := fun i x hx => by
  obtain ⟨h1, h2⟩ := h i x hx
  exact ⟨(World.cell?_of_block (w := u) e).trans h1, (World.frozen?_of_block (w := u) e).trans h2⟩
theorem FarS.low {B0 sb mb : Nat} {pv : Value} {w : World} {v : Value} {F T : List Fd} (h : Srch B0 sb mb pv w v F T) {k : Nat} (hk : k < B0) : FarS sb mb w v k := by
  have h1 := h.b1
  have h2 := h.b2
  have h3 := h.map.lt
  exact ⟨by omega, by omega, fun e => by have := (h.row.lt k e).1; omega, by omega⟩
set_option maxRecDepth 100000 in
set_option maxHeartbeats 1000000 in
theorem followMethod_at (Bp : Nat) (p : Prg) (hok : okP p = true) (hsp : SmallP p) (w0 : World) (sb mb cap : Nat) (a : Option Addr) (hsk : SK front Bp w0 (.slice a p.length cap) p) (v : Value) (F T : List Fd) (c : Nat) (hc : c < p.length) (n : Int) (own : Meth) (ho : ownF p[c] n = some own) (hr : Rd p true c n) (w : World) (hb0 : Below w0.heap.size w0 w) (hS : Srch w0.heap.size sb mb (.slice a p.length cap) w v F T) :
    Calls Tryz.prog 80 #[.pointer (some ⟨sb, 0, none⟩), .int .i64 (c : Int), .int .i64 n] w fun e w' => e = .returned (.tuple #[]) ∧ ∃ v' F' T', Adds w0.heap.size sb mb (.slice a p.length cap) w v F T (SndF p) w' v' F' T' ∧ MthQ p F' own := by
  have hci : (c : Int) < (p.length : Int) := by omega
  have hcl2 : p[c]? = some p[c] := List.getElem?_eq_getElem hc
  have HCD : Hid (Lay.codeOk own.code = true) := own_code hok hcl2 ho
  have h40 := (Lay.ok_len HCD.out).2
  have HNG : Hid (0 ≤ own.gives → own.gives < (p.length : Int) → SndF p (3, own.gives, 0)) := fun h0 h1 => sndF_need h0 h1 (.gives hr hcl2 ho (t := own.gives.toNat) (by omega) (by omega))
  have HNA : Hid (∀ t ∈ own.args, 0 ≤ t → t < (p.length : Int) → SndF p (3, t, 0)) := fun t ht h0 h1 => sndF_need h0 h1 (.args hr hcl2 ho (t := t.toNat) (by rw [show ((t.toNat : Nat) : Int) = t by omega]; exact ht) (by omega))
  have HNI : Hid (∀ t : Nat, t < own.code.length → rchB own.code t = true → InsP p (insF own.code t)) := fun t h1 h2 => insP_of hr ⟨p[c], own, t, hcl2, ho, h1, h2, rfl⟩
  have hsc := hsp.2 _ (List.getElem_mem hc)
  have hsl := hsc.2.1
  have hal : own.args.length ≤ 1048576 := (hsc.2.2 own (own_mem ho)).1
  obtain ⟨b, o, rfl, _, vf, vm, d0, d1, d2, hcv⟩ := hsk.get hc
  obtain ⟨z1, t1, rfl⟩ := hcv.1.form
  obtain ⟨z2, t2, rfl⟩ := hcv.2.form
  have HSM : Hid (SM front Bp w0 (.slice z2 p[c].meths.length t2) p[c].meths) := hcv.2
  have l0 : b < w0.heap.size := cell_lt d0
  have c0 := (hb0.cell l0).trans d0
  have c1 := (hb0.cell l0).trans d1
  have c2 := (hb0.cell l0).trans d2
  have s0 := hS.cells.g0.1
  have HO : Hid (ownF p[c] n = some own) := ho
  clear d0 d1 d2 hcv hsc hcl2 hsk ho
  generalize p[c] = cl at *
  have hown := ownMethod Bp cl z1 z2 t2 cl.fields.length t1 n hsl w0 w hb0 HSM.out
  go_enter Tryz.func80, Tryz.ntmps80
  go_wp2_with fail
  refine hown.mono ?_
  rintro e w1 ⟨h, hb1⟩
  rcases h with ⟨m, va, vc, hm, _, rfl, hmv⟩ | ⟨hm, _⟩
  case inr => rw [HO.out] at hm; simp at hm
  rw [HO.out] at hm
  injection hm with hm
  subst hm
  obtain ⟨za, ta, rfl⟩ := hmv.1.form
  obtain ⟨gc, cc, rfl, _, hgc, hrow, _⟩ := hmv.2
  obtain ⟨V, hV⟩ : ∃ V, V = w1.alloc (.cells #[.int .i64 own.name, .slice za own.args.length ta, .int .i64 own.gives, .slice (some ⟨gc, 0, none⟩) own.code.length cc] 55) := ⟨_, rfl⟩
  have h1V : Below w1.heap.size w1 V := by rw [hV]; exact (Below.refl _ _).alloc (Nat.le_refl _) _
  have hwV : Below w.heap.size w V := below_over hb1 h1V
  have MC : Hid (Cells V w1.heap.size [.int .i64 own.name, .slice za own.args.length ta, .int .i64 own.gives, .slice (some ⟨gc, 0, none⟩) own.code.length cc]) := by show Cells _ _ _; rw [hV]; exact Cells.new w1 _ rfl _ _
  have hVz : V.heap.size = w1.heap.size + 1 := by rw [hV]; simp
  have HROW : Hid (Row w0 gc 0 own.code) := hrow
  have HARG : Hid (SI true Bp w0 (.slice za own.args.length ta) own.args) := hmv.1
  have HAV : Hid (Adds w0.heap.size sb mb (.slice (some ⟨b, o, none⟩) p.length cap) w v F T (SndF p) V v F T) := Adds.start hS hwV
  have hBw := hb0.size
  have hwz := hwV.size
  have hwz1 := hb1.size
  have FM0 : Hid (FarS sb mb V v w1.heap.size) := hS.far (by omega) (by omega)
  obtain ⟨M, hM⟩ : ∃ M, w1.heap.size = M := ⟨_, rfl⟩
  rw [hM] at MC hVz FM0
  have hnd := need_one p hok w0.heap.size sb mb cap (some ⟨b, o, none⟩) v F T own.gives V (by omega) HAV.out.st HNG.out 2
  rw [hVz] at hnd
  have g2 : (w1.alloc (.cells #[.int .i64 own.name, .slice za own.args.length ta, .int .i64 own.gives, .slice (some ⟨gc, 0, none⟩) own.code.length cc] 55)).cell? ⟨M, 2, none⟩ = some (.int .i64 own.gives) := by rw [← hV]; exact MC.out.g2.1
  have hcl := gc
  clear hown hrow hmv c0 c1 c2 s0 hgc hcl HSM HO
  go_wp2_with fail
  try simp only [hM]
  rw [← hV]
  clear hV g2
  refine hnd.mono ?_
  rintro e w2 ⟨rfl, v2, F2, T2, hA2, hm2⟩
  have HA2 : Hid (Adds w0.heap.size sb mb (.slice (some ⟨b, o, none⟩) p.length cap) w v F T (SndF p) w2 v2 F2 T2) := HAV.out.trans hA2
  have fm2 := FM0.out.next hA2.fr
  have MC2 : Hid (Cells w2 M [.int .i64 own.name, .slice za own.args.length ta, .int .i64 own.gives, .slice (some ⟨gc, 0, none⟩) own.code.length cc]) := MC.out.heap fm2.2
  have FM2 : Hid (FarS sb mb w2 v2 M) := fm2.1
  have HM2 : Hid (0 ≤ own.gives → own.gives < (p.length : Int) → ((3, own.gives, 0) : Fd) ∈ F2) := hm2
  have hb2 : Below w0.heap.size w0 w2 := hb0.trans (HA2.out.below hS)
  clear hnd hA2 hm2 fm2 HAV MC FM0
  have hna := need_at p hok w0.heap.size sb mb cap (some ⟨b, o, none⟩) v2 F2 T2 own.args za ta hal w2 hb2.size HA2.out.st (fun h => by
    obtain ⟨bb, oo, e, hi⟩ := HARG.out.rows h
    have hlt : bb < w0.heap.size := cell_lt (hi 0 _ (List.getElem?_eq_getElem h))
    exact ⟨bb, oo, e, hi.below hb2 hlt, FarS.low HA2.out.st hlt⟩) HNA.out
  obtain ⟨m1, _⟩ := MC2.out.g1
  go_wp2_with fail
  refine hna.mono ?_
  rintro e w3 ⟨rfl, v3, F3, T3, hA3, hm3⟩
  have HA3 : Hid (Adds w0.heap.size sb mb (.slice (some ⟨b, o, none⟩) p.length cap) w v F T (SndF p) w3 v3 F3 T3) := HA2.out.trans hA3
  have fm3 := FM2.out.next hA3.fr
  have MC3 : Hid (Cells w3 M [.int .i64 own.name, .slice za own.args.length ta, .int .i64 own.gives, .slice (some ⟨gc, 0, none⟩) own.code.length cc]) := MC2.out.heap fm3.2
  have FM3 : Hid (FarS sb mb w3 v3 M) := fm3.1
  have HM3 : Hid ((0 ≤ own.gives → own.gives < (p.length : Int) → ((3, own.gives, 0) : Fd) ∈ F3) ∧ ∀ t ∈ own.args, 0 ≤ t → t < (p.length : Int) → ((3, t, 0) : Fd) ∈ F3) := ⟨fun h0 h1 => hA3.ext.up _ (HM2.out h0 h1), hm3⟩
  have hb3 : Below w0.heap.size w0 w3 := hb0.trans (HA3.out.below hS)
  clear hna hA3 hm3 fm3 HA2 MC2 FM2 HM2 m1
  obtain ⟨m3, _⟩ := MC3.out.g3
  go_wp2_with fail
  refine (reachedIn_at gc cc own.code HCD.out w3 (HROW.out.on hb3)).mono ?_
  rintro e w4 ⟨rfl, hb4⟩
  go_wp2_with fail
  refine (rising_at (rchB own.code) w4).mono ?_
  rintro e w5 ⟨x5, rfl, hg5, hb5⟩
  obtain ⟨g5, c5, rfl, hg51, hg52, hi5, _⟩ := hg5.gint
  have hb35 : Below w3.heap.size w3 w5 := below_over hb4 hb5
  have HA5 : Hid (Adds w0.heap.size sb mb (.slice (some ⟨b, o, none⟩) p.length cap) w v F T (SndF p) w5 v3 F3 T3) := HA3.out.on hb35
  have MC5 : Hid (Cells w5 M [.int .i64 own.name, .slice za own.args.length ta, .int .i64 own.gives, .slice (some ⟨gc, 0, none⟩) own.code.length cc]) := MC3.out.on hb35
  have FM5 : Hid (FarS sb mb w5 v3 M) := FM3.out.on hb35.size
  have FG5 : Hid (FarS sb mb w5 v3 g5) := HA3.out.st.far (by have := hb4.size; omega) hg52
  have HI5 : Hid (IRow w5 g5 0 (risL (rchB own.code) 40)) := hi5
  have hr40 : (risL (rchB own.code) 40).length ≤ 40 := rise_fits (risL_rise _ _) fun x hx => by obtain ⟨j, hj, _, rfl⟩ := risL_mem.1 hx; omega
  have HAT : Hid (∀ j x, (risL (rchB own.code) 40)[j]? = some x → ∃ t : Nat, x = (t : Int) ∧ t < own.code.length ∧ rchB own.code t = true) := fun j x hx => by
    obtain ⟨t, _, h2, rfl⟩ := risL_mem.1 (List.mem_of_getElem? hx)
    exact ⟨t, rfl, (rchB_iff.1 h2).lt (Lay.ok_len HCD.out).1, h2⟩
  have HALL : Hid (∀ t : Nat, t < own.code.length → rchB own.code t = true → ((t : Nat) : Int) ∈ risL (rchB own.code) 40) := fun t h1 h2 => risL_mem.2 ⟨t, by omega, h2, rfl⟩
  have HST5 : Hid (Adds w0.heap.size sb mb (.slice (some ⟨b, o, none⟩) p.length cap) w5 v3 F3 T3 (SndF p) w5 v3 F3 T3) := Adds.start HA5.out.st (Below.refl _ _)
  clear hg5 hg51 hg52 hi5 hb4 hb5 hb35 HA3 MC3 FM3 m3
  generalize risL (rchB own.code) 40 = rs at *
  go_wp2
  go_loopw [37] (fun y wr => ∃ (k : Nat) (v' : Value) (F' T' : List Fd), k ≤ rs.length ∧ y = .int .i64 (k : Int) ∧ Hid (Adds w0.heap.size sb mb (.slice (some ⟨b, o, none⟩) p.length cap) w5 v3 F3 T3 (SndF p) wr v' F' T') ∧ Hid (∀ t ∈ rs.take k, InsQ p F' (insF own.code t.toNat))) (fun y _ => rs.length - (intOf y).toNat)
  case atStart => exact ⟨0, v3, F3, T3, Nat.zero_le _, rfl, HST5.out, fun t ht => by simp at ht⟩
  case round =>
    clear HST5
    obtain ⟨k, v', F', T', hk, rfl, hA, hQ⟩ := hrel
    by_cases hlt : k < rs.length
    · have hki : (k : Int) < (rs.length : Int) := by omega
      have hrk : rs[k]? = some rs[k] := List.getElem?_eq_getElem hlt
      have HT1 : Hid (∀ t ∈ rs.take (k + 1), t ∈ rs.take k ∨ t = rs[k]) := fun t ht => by
        rw [List.take_succ_eq_append_getElem hlt] at ht
        rcases List.mem_append.1 ht with h | h
        · exact .inl h
        · exact .inr (List.mem_singleton.1 h)
      have q0 := FG5.out.cell hA.out.fr (HI5.out k _ hrk)
      rw [Nat.zero_add] at q0
      obtain ⟨t, ht, htl, htr⟩ := HAT.out k _ hrk
      rw [ht] at q0 HT1
      have htli : (t : Int) < (own.code.length : Int) := by omega
      have q3 := FM5.out.cell hA.out.fr MC5.out.g3.1
      have hbr : Below w0.heap.size w0 wr := hb0.trans ((HA5.out.trans hA.out).below hS)
      obtain ⟨i0, i1, i2⟩ := (HROW.out.on hbr) t _ (ins_is htl)
      have hfi := followInsn_at p hok w0.heap.size sb mb cap (some ⟨b, o, none⟩) v' F' T' (insF own.code t) wr hbr.size hA.out.st (HNI.out t htl htr)
      have HII : Hid (insF own.code ((t : Int).toNat) = insF own.code t) := by show _ = _; rw [Int.toNat_natCast]
      clear hrk ht htl htr
      generalize insF own.code t = ii at *
      obtain ⟨op, A, B⟩ := ii
      simp only [Nat.zero_add] at i0 i1 i2
      go_wp2_with fail
      refine hfi.mono ?_
      rintro e w7 ⟨rfl, v7, F7, T7, h7, hq7⟩
      have H7 : Hid (Adds w0.heap.size sb mb (.slice (some ⟨b, o, none⟩) p.length cap) w5 v3 F3 T3 (SndF p) w7 v7 F7 T7) := hA.out.trans h7
      have HQ7 : Hid (∀ t ∈ rs.take (k + 1), InsQ p F7 (insF own.code t.toNat)) := fun s hs => by
        rcases HT1.out s hs with h | h
        · exact (hQ.out s h).up h7.ext.up
        · subst h; rw [HII.out]; exact hq7
      clear hfi h7 hq7 hA hQ HT1 HII q0 q3 i0 i1 i2
      go_wp2
      go_roundw
      case rel => exact ⟨k + 1, v7, F7, T7, by omega, by go_num, H7.out, HQ7.out⟩
      case measure => simp [intOf]; omega
    · have hki : ¬ (k : Int) < (rs.length : Int) := by omega
      have HFIN : Hid (Adds w0.heap.size sb mb (.slice (some ⟨b, o, none⟩) p.length cap) w v F T (SndF p) wr v' F' T' ∧ MthQ p F' own) := by
        refine ⟨HA5.out.trans hA.out, fun h0 h1 => hA.out.ext.up _ (HM3.out.1 h0 h1), fun t ht h0 h1 => hA.out.ext.up _ (HM3.out.2 t ht h0 h1), fun t h1 h2 => ?_⟩
        have := hQ.out ((t : Nat) : Int) (by rw [List.take_of_length_le (by omega)]; exact HALL.out t h1 h2)
        rwa [Int.toNat_natCast] at this
      clear hA hQ
      go_wp2
      go_end0
      exact ⟨rfl, v', F', ⟨T', HFIN.out.1⟩, HFIN.out.2⟩
end Pg
end Go.Proofs.YtinanjjhkddikaaGreat

/- The search goes on: one find is followed. -/
namespace Go.Proofs.YtinanjjhkddikaaGreat
namespace Pg
open Go.ChangeShapes Go.WideShapes Go.ChangeAt Go.RowKit St Wd
/-- What following a find has brought. -/
structure FolQ (p : Prg) (F F' : List Fd) (w : Int) (c : Nat) (n : Int) : Prop where
  done : Done p (fun f => f ∈ F') w c n
  p1 : w = 0 → ∀ (A : Nat) B s, ((2, (A : Int), B) : Fd) ∈ F → undB p (c : Int) (A : Int) = true → selF p (c : Int) B = ((s : Nat) : Int) → ((1, (s : Int), B) : Fd) ∈ F'
  p2 : w = 2 → ∀ (d : Nat) s, ((0, (d : Int), 0) : Fd) ∈ F → undB p (d : Int) (c : Int) = true → selF p (d : Int) n = ((s : Nat) : Int) → ((1, (s : Int), n) : Fd) ∈ F'
theorem need_oneX (p : Prg) (hok : okP p = true) (B0 sb mb cap : Nat) (a : Option Addr) (v : Value) (F T : List Fd) (t : Int) (w X : World) (hX : Below w.heap.size w X) (hi : IRow X w.heap.size 0 [t]) (hB0 : B0 ≤ w.heap.size) (hS : Srch B0 sb mb (.slice a p.length cap) w v F T) (hP : 0 ≤ t → t < (p.length : Int) → SndF p (3, t, 0)) :
    Calls Tryz.prog 78 #[.pointer (some ⟨sb, 0, none⟩), .slice (some ⟨w.heap.size, 0, none⟩) 1 1] X fun e w' => e = .returned (.tuple #[]) ∧ ∃ v' F' T', Adds B0 sb mb (.slice a p.length cap) w v F T (SndF p) w' v' F' T' ∧ (0 ≤ t → t < (p.length : Int) → ((3, t, 0) : Fd) ∈ F') := by
  refine (need_at p hok B0 sb mb cap a v F T [t] (some ⟨w.heap.size, 0, none⟩) 1 (by simp) _ (Nat.le_trans hB0 hX.size) (hS.on hX) (fun _ => ⟨_, 0, rfl, hi, hS.far (Nat.le_refl _) (cell_lt (hi 0 t rfl))⟩) (fun s hs h0 h1 => by rw [List.mem_singleton.1 hs] at *; exact hP h0 h1)).mono ?_
  rintro e w' ⟨rfl, v', F', T', h, hm⟩
  exact ⟨rfl, v', F', T', (Adds.start hS hX).trans h, fun h0 h1 => hm t (by simp) h0 h1⟩
set_option maxRecDepth 100000 in
set_option maxHeartbeats 1000000 in
theorem follow_at (Bp : Nat) (p : Prg) (hok : okP p = true) (hsp : SmallP p) (w0 : World) (sb mb cap : Nat) (a : Option Addr) (hsk : SK front Bp w0 (.slice a p.length cap) p) (v : Value) (F T : List Fd) (wh : Int) (c : Nat) (n : Int) (hf : SndF p (wh, (c : Int), n)) (hFS : ∀ f ∈ F, SndF p f) (w : World) (hb0 : Below w0.heap.size w0 w) (hS : Srch w0.heap.size sb mb (.slice a p.length cap) w v F T) :
    Calls Tryz.prog 55 #[.pointer (some ⟨sb, 0, none⟩), fdV (wh, (c : Int), n)] w fun e w' => e = .returned (.tuple #[]) ∧ ∃ v' F' T', Adds w0.heap.size sb mb (.slice a p.length cap) w v F T (SndF p) w' v' F' T' ∧ FolQ p F F' wh c n := by
  have hc : c < p.length := by obtain ⟨k, hk, hl⟩ := hf.at'; dsimp only at hk; omega
  have hfw := sndF_few hok hf
  have hn : 0 ≤ n ∧ n < 20 := ⟨hfw.c0, hfw.c1⟩
  obtain ⟨V, hV⟩ : ∃ V, V = w.alloc (.cells #[.int .i64 wh, .int .i64 (c : Int), .int .i64 n] 58) := ⟨_, rfl⟩
  have hwV : Below w.heap.size w V := by rw [hV]; exact (Below.refl _ _).alloc (Nat.le_refl _) _
  have FC : Hid (Cells V w.heap.size [.int .i64 wh, .int .i64 (c : Int), .int .i64 n]) := by rw [hV]; exact Cells.new w _ rfl _ _
  have hVz : V.heap.size = w.heap.size + 1 := by rw [hV]; simp
  have HAV : Hid (Adds w0.heap.size sb mb (.slice a p.length cap) w v F T (SndF p) V v F T) := Adds.start hS hwV
  have hBw := hb0.size
  have FF : Hid (FarS sb mb V v w.heap.size) := hS.far (Nat.le_refl _) (by omega)
  have hnc : Nd p c := by
    rcases hf.what with e | e | e | e
    · have := (hf.made e).2; simp at this; exact .made this
    · have := hf.live e; simp at this; exact .live this
    · obtain ⟨c', n', i, hr, hi, h17, hA, _⟩ := hf.call e; exact .step hr hi (.inr (.inr h17)) hA hc
    · have := (hf.need e).2; simp at this; exact this
  have hnd := need_one p hok w0.heap.size sb mb cap a v F T (c : Int) V (by omega) HAV.out.st (fun h0 h1 => sndF_need h0 h1 (by rwa [Int.toNat_natCast])) 2
  rw [hVz] at hnd
  have g1 : (w.alloc (.cells #[.int .i64 wh, .int .i64 (c : Int), .int .i64 n] 58)).cell? ⟨w.heap.size, 1, none⟩ = some (.int .i64 (c : Int)) := by rw [← hV]; exact FC.out.g1.1
  have HSK : Hid (SK front Bp w0 (.slice a p.length cap) p) := hsk
  have HFS : Hid (∀ f ∈ F, SndF p f) := hFS
  have HF : Hid (SndF p (wh, (c : Int), n)) := hf
  clear hsk hFS hf hfw
  obtain ⟨M, hM⟩ : ∃ M, w.heap.size = M := ⟨_, rfl⟩
  rw [hM] at FC hVz FF g1 hnd
  go_enter Tryz.func55, Tryz.ntmps55
  go_wp2_with fail
  try simp only [hM]
  rw [← hV]
  clear hV g1
  refine hnd.mono ?_
  rintro e w2 ⟨rfl, v2, F2, T2, hA2, hm2⟩
  have HA2 : Hid (Adds w0.heap.size sb mb (.slice a p.length cap) w v F T (SndF p) w2 v2 F2 T2) := HAV.out.trans hA2
  have fm2 := FF.out.next hA2.fr
  have FC2 : Hid (Cells w2 M [.int .i64 wh, .int .i64 (c : Int), .int .i64 n]) := FC.out.heap fm2.2
  have FF2 : Hid (FarS sb mb w2 v2 M) := fm2.1
  have HM2 : Hid (((3, (c : Int), 0) : Fd) ∈ F2) := hm2 (by omega) (by omega)
  have hb2 : Below w0.heap.size w0 w2 := hb0.trans (HA2.out.below hS)
  have HFS2 : Hid (∀ f ∈ F2, SndF p f) := fun f hf => (HA2.out.new f hf).elim (HFS.out f) id
  clear hnd hA2 hm2 fm2 HAV FC FF
  obtain ⟨q0, _⟩ := FC2.out.g0
  obtain ⟨q1, _⟩ := FC2.out.g1
  obtain ⟨q2, _⟩ := FC2.out.g2
  by_cases h0 : wh = 0
  · subst h0
    have hr0 : Rd p false c 0 := by have := (HF.out.made rfl).2; simpa using this
    have hn0 : n = 0 := (HF.out.made rfl).1
    have hcall := followMade_at Bp p hok hsp w0 sb mb cap a HSK.out v2 F2 T2 c hc w2 hb2 HA2.out.st HFS2.out (fun A s B h2 hu hs => by
      obtain ⟨c', n', i, hr, hi, h17, hA, hB⟩ := h2.call rfl
      dsimp only at hA hB
      obtain ⟨k, hk, hl⟩ := h2.at'
      dsimp only at hk
      obtain ⟨_, _, hs1, _⟩ := sel_there hs
      refine sndF_live ?_ (List.getElem?_eq_some_iff.1 hs1).1
      rw [← hB]
      exact .meet hr hi h17 hA (by omega) hr0 hu (by rw [hB]; exact hs))
    go_wp2_with fail
    refine hcall.mono ?_
    rintro e w3 ⟨rfl, v3, F3, T3, hA3, hq3⟩
    have HA3 : Hid (Adds w0.heap.size sb mb (.slice a p.length cap) w v F T (SndF p) w3 v3 F3 T3) := HA2.out.trans hA3
    have HQ3 : Hid (FolQ p F F3 0 c n) := by
      refine ⟨⟨hA3.ext.up _ HM2.out, fun e => ?_, fun e => ?_, fun e => ?_, fun e => ?_, fun e => ?_, fun e => ?_, fun e => ?_, fun e => ?_⟩, fun _ A B s hA hu hs => hq3.out A s B (HA2.out.ext.up _ hA) hu hs, fun e => ?_⟩
      all_goals simp at e
    clear hcall hA3 hq3 HA2 FC2 FF2 HM2 HFS2 q0 q1 q2
    go_wp2
    go_end0
    first | exact ⟨rfl, v3, F3, T3, HA3.out, HQ3.out⟩ | exact ⟨rfl, v3, F3, ⟨T3, HA3.out⟩, HQ3.out⟩
  · by_cases h1 : wh = 1
    · subst h1
      have hr1 : Rd p true c n := by have := HF.out.live rfl; simpa using this
      obtain ⟨cl, own, hcl, ho⟩ := (rd_there hok hr1).2 rfl
      have hcl' : p[c] = cl := (List.getElem?_eq_some_iff.1 hcl).2
      have hcall := followMethod_at Bp p hok hsp w0 sb mb cap a HSK.out v2 F2 T2 c hc n own (by rw [hcl']; exact ho) hr1 w2 hb2 HA2.out.st
      go_wp2_with fail
      refine hcall.mono ?_
      rintro e w3 ⟨rfl, v3, F3, T3, hA3, hq3⟩
      have HA3 : Hid (Adds w0.heap.size sb mb (.slice a p.length cap) w v F T (SndF p) w3 v3 F3 T3) := HA2.out.trans hA3
      have HQ3 : Hid (FolQ p F F3 1 c n) := by
        have same : ∀ cl' own', p[c]? = some cl' → ownF cl' n = some own' → own' = own := fun cl' own' h1 h2 => by
          rw [hcl] at h1; injection h1 with h1; subst h1; rw [ho] at h2; exact (Option.some.inj h2).symm
        have stp : ∀ i, Runs p c n i → InsQ p F3 i := fun i hi => by
          obtain ⟨cl', own', k, h1, h2, h3, h4, rfl⟩ := hi
          have := same cl' own' h1 h2
          subst this
          exact hq3.steps k h3 h4
        refine ⟨⟨hA3.ext.up _ HM2.out, fun _ cl' own' t h1 h2 h3 h4 => ?_, fun _ cl' own' t h1 h2 h3 h4 => ?_, fun _ i A hi h1 h2 h3 => ?_, fun _ i A hi h1 h2 h3 => ?_, fun _ i A hi h1 h2 h3 => ?_, fun e => ?_, fun e => ?_, fun e => ?_⟩, fun e => ?_, fun e => ?_⟩
        · have := same cl' own' h1 h2; subst this; rw [← h3]; exact hq3.gives (by omega) (by omega)
        · have := same cl' own' h1 h2; subst this; exact hq3.args _ h3 (by omega) (by omega)
        · rw [← h2]; exact (stp i hi).new h1 (by omega) (by omega)
        · rw [← h2]; exact (stp i hi).fld h1 (by omega) (by omega)
        · rw [← h2]; exact (stp i hi).call h1 (by omega) (by omega)
        all_goals simp at e
      clear hcall hA3 hq3 HA2 FC2 FF2 HM2 HFS2 q0 q1 q2
      go_wp2
      go_end0
      first | exact ⟨rfl, v3, F3, T3, HA3.out, HQ3.out⟩ | exact ⟨rfl, v3, F3, ⟨T3, HA3.out⟩, HQ3.out⟩
    · by_cases h2 : wh = 2
      · subst h2
        obtain ⟨c', n', i, hr, hi, h17, hA, hB⟩ := HF.out.call rfl
        dsimp only at hA hB
        have hcall := followCall_at Bp p hok hsp w0 sb mb cap a HSK.out v2 F2 T2 c hc n w2 hb2 HA2.out.st hn HFS2.out (fun s hs => by
          obtain ⟨_, _, hs1, _⟩ := sel_there hs
          refine sndF_live ?_ (List.getElem?_eq_some_iff.1 hs1).1
          rw [← hB]
          exact .call hr hi h17 hA hc (by rw [hB]; exact hs)) (fun d s hd hu hs => by
          obtain ⟨_, _, hs1, _⟩ := sel_there hs
          refine sndF_live ?_ (List.getElem?_eq_some_iff.1 hs1).1
          rw [← hB]
          exact .meet hr hi h17 hA hc hd hu (by rw [hB]; exact hs))
        go_wp2_with fail
        refine hcall.mono ?_
        rintro e w3 ⟨rfl, v3, F3, T3, hA3, hq3⟩
        have HA3 : Hid (Adds w0.heap.size sb mb (.slice a p.length cap) w v F T (SndF p) w3 v3 F3 T3) := HA2.out.trans hA3
        have HQ3 : Hid (FolQ p F F3 2 c n) := by
          refine ⟨⟨hA3.ext.up _ HM2.out, fun e => ?_, fun e => ?_, fun e => ?_, fun e => ?_, fun e => ?_, fun _ s hs => hq3.out.1 s hs, fun e => ?_, fun e => ?_⟩, fun e => ?_, fun _ d s hd hu hs => hq3.out.2 d s (HA2.out.ext.up _ hd) hu hs⟩
          all_goals simp at e
        clear hcall hA3 hq3 HA2 FC2 FF2 HM2 HFS2 q0 q1 q2
        go_wp2
        go_end0
        first | exact ⟨rfl, v3, F3, T3, HA3.out, HQ3.out⟩ | exact ⟨rfl, v3, F3, ⟨T3, HA3.out⟩, HQ3.out⟩
      · have h3 : wh = 3 := by
          rcases HF.out.what with e | e | e | e <;> dsimp only at e <;> omega
        subst h3
        have hcl2 : p[c]? = some p[c] := List.getElem?_eq_getElem hc
        have HNS : Hid (0 ≤ p[c].super → p[c].super < (p.length : Int) → SndF p (3, p[c].super, 0)) := fun h0 h1 => sndF_need h0 h1 (.sup hnc hcl2 (s := p[c].super.toNat) (by omega) (by omega))
        have HNF : Hid (∀ t ∈ p[c].fields, 0 ≤ t → t < (p.length : Int) → SndF p (3, t, 0)) := fun t ht h0 h1 => sndF_need h0 h1 (.field hnc hcl2 (t := t.toNat) (by rw [show ((t.toNat : Nat) : Int) = t by omega]; exact ht) (by omega))
        have hfl : p[c].fields.length ≤ 1048576 := (hsp.2 _ (List.getElem_mem hc)).1
        have HCL : Hid (p[c]? = some p[c]) := hcl2
        have hci : (c : Int) < (p.length : Int) := by omega
        have hc0 : (0 : Int) ≤ (c : Int) := by omega
        obtain ⟨b, o, rfl, _, vf, vm, d0, d1, d2, hcv⟩ := HSK.out.get hc
        obtain ⟨z1, t1, rfl⟩ := hcv.1.form
        have HFL : Hid (SI true Bp w0 (.slice z1 p[c].fields.length t1) p[c].fields) := hcv.1
        have l0 : b < w0.heap.size := cell_lt d0
        clear hcv d2 hcl2
        generalize p[c] = cl at *
        have HK : Hid (∀ X v' F' T', Adds w0.heap.size sb mb (.slice (some ⟨b, o, none⟩) p.length cap) w2 v2 F2 T2 (SndF p) X v' F' T' → X.cell? ⟨sb, 0, none⟩ = some (.slice (some ⟨b, o, none⟩) p.length cap) ∧ X.cell? ⟨M, 1, none⟩ = some (.int .i64 (c : Int)) ∧ X.cell? ⟨b, o + c * 3, none⟩ = some (.int .i64 cl.super) ∧ X.cell? ⟨b, o + c * 3 + 1, none⟩ = some (.slice z1 cl.fields.length t1)) := fun X v' F' T' h => by
          have hb := hb2.trans (h.below HA2.out.st)
          exact ⟨h.st.cells.g0.1, FF2.out.cell h.fr q1, (hb.cell l0).trans d0, (hb.cell l0).trans d1⟩
        have KD := HK.out w2.drew v2 F2 T2 (Adds.start HA2.out.st (Below.refl _ _).drew)
        have KA := fun (l : Array Value) (t : TypeId) => HK.out (w2.alloc (.cells l t)).drew v2 F2 T2 (Adds.start HA2.out.st ((Below.refl _ _).alloc (Nat.le_refl _) _).drew)
        have HN1 : Hid (∀ X t, X = (w2.alloc (.cells #[.int .i64 cl.super] t)).drew → Calls Tryz.prog 78 #[.pointer (some ⟨sb, 0, none⟩), .slice (some ⟨w2.heap.size, 0, none⟩) 1 1] X fun e w' => e = .returned (.tuple #[]) ∧ ∃ v' F' T', Adds w0.heap.size sb mb (.slice (some ⟨b, o, none⟩) p.length cap) w2 v2 F2 T2 (SndF p) w' v' F' T' ∧ (0 ≤ cl.super → cl.super < (p.length : Int) → ((3, cl.super, 0) : Fd) ∈ F')) := fun X t hX => by
          subst hX
          exact need_oneX p hok w0.heap.size sb mb cap (some ⟨b, o, none⟩) v2 F2 T2 cl.super w2 _ ((Below.refl _ _).alloc (Nat.le_refl _) _).drew (irow_one w2 cl.super t) hb2.size HA2.out.st HNS.out
        go_upto_region 10 with fail
        go_region_held3 (fun X => X.cell? ⟨sb, 0, none⟩ = some (.slice (some ⟨b, o, none⟩) p.length cap) ∧ X.cell? ⟨M, 1, none⟩ = some (.int .i64 (c : Int)) ∧ X.cell? ⟨b, o + c * 3, none⟩ = some (.int .i64 cl.super) ∧ X.cell? ⟨b, o + c * 3 + 1, none⟩ = some (.slice z1 cl.fields.length t1))
          (first | exact KD | exact KA _ _ | assumption)
          (first
            | (go_at_call 78; refine (HN1.out _ _ rfl).mono ?_; rintro e w3 ⟨rfl, v3, F3, T3, hA3, hm3⟩; have K3 := HK.out w3 v3 F3 T3 hA3))
        have HA3 : Hid (Adds w0.heap.size sb mb (.slice (some ⟨b, o, none⟩) p.length cap) w2 v2 F2 T2 (SndF p) w3 v3 F3 T3) := hA3
        have HM3 : Hid (0 ≤ cl.super → cl.super < (p.length : Int) → ((3, cl.super, 0) : Fd) ∈ F3) := hm3
        have K4 := HK.out w3.drew v3 F3 T3 (HA3.out.on (Below.refl _ _).drew)
        have hb3 : Below w0.heap.size w0 w3 := hb2.trans (HA3.out.below HA2.out.st)
        have HN2 : Hid (∀ X, X = w3.drew → Calls Tryz.prog 78 #[.pointer (some ⟨sb, 0, none⟩), .slice z1 cl.fields.length t1] X fun e w' => e = .returned (.tuple #[]) ∧ ∃ v' F' T', Adds w0.heap.size sb mb (.slice (some ⟨b, o, none⟩) p.length cap) w2 v2 F2 T2 (SndF p) w' v' F' T' ∧ (∀ f ∈ F3, f ∈ F') ∧ ∀ t ∈ cl.fields, 0 ≤ t → t < (p.length : Int) → ((3, t, 0) : Fd) ∈ F') := fun X hX => by
          subst hX
          refine (need_at p hok w0.heap.size sb mb cap (some ⟨b, o, none⟩) v3 F3 T3 cl.fields z1 t1 hfl w3.drew hb3.size (HA3.out.st.on (Below.refl _ _).drew) (fun h => by
            obtain ⟨bb, oo, e, hi⟩ := HFL.out.rows h
            have hlt : bb < w0.heap.size := cell_lt (hi 0 _ (List.getElem?_eq_getElem h))
            exact ⟨bb, oo, e, hi.below (hb3.trans ((Below.refl _ _).drew.mono hb3.size)) hlt, FarS.low (HA3.out.st.on (Below.refl _ _).drew) hlt⟩) HNF.out).mono ?_
          rintro e w' ⟨rfl, v', F', T', h, hm⟩
          exact ⟨rfl, v', F', T', (HA3.out.on (Below.refl _ _).drew).trans h, h.ext.up, hm⟩
        clear hA3 hm3 K3 KD KA HN1 q0 q1 q2
        go_upto_region 11 with fail
        go_region_held3 (fun X => X.cell? ⟨sb, 0, none⟩ = some (.slice (some ⟨b, o, none⟩) p.length cap) ∧ X.cell? ⟨M, 1, none⟩ = some (.int .i64 (c : Int)) ∧ X.cell? ⟨b, o + c * 3, none⟩ = some (.int .i64 cl.super) ∧ X.cell? ⟨b, o + c * 3 + 1, none⟩ = some (.slice z1 cl.fields.length t1))
          (first | exact K4 | assumption)
          (first
            | (go_at_call 78; refine (HN2.out _ rfl).mono ?_; rintro e w5 ⟨rfl, v5, F5, T5, hA5, hu5, hm5⟩; have K5 := HK.out w5 v5 F5 T5 hA5))
        have HA5 : Hid (Adds w0.heap.size sb mb (.slice (some ⟨b, o, none⟩) p.length cap) w v F T (SndF p) w5 v5 F5 T5) := HA2.out.trans hA5
        have HQ5 : Hid (FolQ p F F5 3 c n) := by
          refine ⟨⟨?_, fun e => ?_, fun e => ?_, fun e => ?_, fun e => ?_, fun e => ?_, fun e => ?_, fun _ cl' s h1 h2 h3 => ?_, fun _ cl' t h1 h2 h3 => ?_⟩, fun e => ?_, fun e => ?_⟩
          · exact hA5.ext.up _ HM2.out
          · simp at e
          · simp at e
          · simp at e
          · simp at e
          · simp at e
          · simp at e
          · rw [HCL.out] at h1; injection h1 with h1; subst h1
            rw [← h2]; exact hu5 _ (HM3.out (by omega) (by omega))
          · rw [HCL.out] at h1; injection h1 with h1; subst h1
            exact hm5 _ h2 (by omega) (by omega)
          · simp at e
          · simp at e
        clear hA5 hu5 hm5 K4 K5 HN2 HK HA3 HA2 FC2 FF2 HM2 HFS2 d0 d1
        go_wp2
        go_end0
        first | exact ⟨rfl, v5, F5, T5, HA5.out, HQ5.out⟩ | exact ⟨rfl, v5, F5, ⟨T5, HA5.out⟩, HQ5.out⟩
end Pg
end Go.Proofs.YtinanjjhkddikaaGreat

/- The program's search, whole. -/
namespace Go.Proofs.YtinanjjhkddikaaGreat
namespace Pg
open Go.ChangeShapes Go.WideShapes Go.ChangeAt Go.RowKit St Wd
theorem nodup_sub : ∀ {l m : List Fd}, l.Nodup → (∀ x ∈ l, x ∈ m) → l.length ≤ m.length
  | [], _, _, _ => Nat.zero_le _
  | x :: l, m, hnd, hs => by
    obtain ⟨h1, h2⟩ := List.nodup_cons.1 hnd
    have hx := hs x (by simp)
    have := nodup_sub (l := l) (m := m.erase x) h2 (fun y hy => (List.mem_erase_of_ne (fun e => by subst e; exact h1 hy)).2 (hs y (by simp [hy])))
    rw [List.length_erase_of_mem hx] at this
    have hm : 0 < m.length := List.length_pos_of_mem hx
    simp only [List.length_cons]
    omega
/-- What a search has found. -/
structure Fnd (p : Prg) (F : List Fd) : Prop where
  made : ∀ c : Nat, ((0, (c : Int), 0) : Fd) ∈ F ↔ Rd p false c 0
  live : ∀ (c : Nat) n, ((1, (c : Int), n) : Fd) ∈ F ↔ Rd p true c n
  need : ∀ c : Nat, ((3, (c : Int), 0) : Fd) ∈ F ↔ Nd p c
set_option maxRecDepth 100000 in
set_option maxHeartbeats 1000000 in
theorem searched_at (Bp : Nat) (p : Prg) (hok : okP p = true) (hsp : SmallP p) (cap : Nat) (a : Option Addr) (w : World) (hsk : SK front Bp w (.slice a p.length cap) p) :
    Calls Tryz.prog 31 #[.agg #[.slice a p.length cap]] w fun e w' => ∃ sb mb v F, e = .returned (.pointer (some ⟨sb, 0, none⟩)) ∧ Srch w.heap.size sb mb (.slice a p.length cap) w' v F [] ∧ Fnd p F ∧ Below w.heap.size w w' := by
  have h0p : 0 < p.length := (okP_len hok).1
  have HSK : Hid (SK front Bp w (.slice a p.length cap) p) := hsk
  clear hsk
  obtain ⟨V, hV⟩ : ∃ V, V = ((w.alloc (.cells #[.slice a p.length cap] 30)).alloc (.map #[] 0)).alloc (.cells #[.slice a p.length cap, .map (some (w.heap.size + 1)), .slice none 0 0] 87) := ⟨_, rfl⟩
  have hwV : Below w.heap.size w V := by rw [hV]; exact (((Below.refl _ _).alloc (Nat.le_refl _) _).alloc (by simp) _).alloc (by simp; omega) _
  obtain ⟨A, hA⟩ : ∃ A, w.heap.size = A := ⟨_, rfl⟩
  have SC : Cells V (A + 1 + 1) [.slice a p.length cap, .map (some (A + 1)), .slice none 0 0] := by
    rw [hV, ← hA]
    exact Cells.new ((w.alloc _).alloc _) _ (by simp) _ _
  have MP : FM V (A + 1) [] := by
    have h0 := World.ownsMap_made (H := Unit) (w.alloc (.cells #[.slice a p.length cap] 30)) Tryz.prog 58 (unitElem (H := Unit))
    simp only [World.size_alloc] at h0
    refine ⟨.map [], ?_, repF_nil⟩
    rw [hV, ← hA]
    exact own600 (h0.alloc _) (by show (Maps.size (DataW.map [] : DataW Unit)) ≤ 600; exact Nat.zero_le _)
  have hSV : Srch w.heap.size (A + 1 + 1) (A + 1) (.slice a p.length cap) V (.slice none 0 0) [] [] :=
    ⟨SC, MP, ⟨rfl, .inl ⟨rfl, rfl⟩⟩, fun f hf => by simp at hf, List.nodup_nil, Nat.le_refl _, by omega, by omega, by omega, by simp [Value.ownBlock], by simp [Value.ownBlock]⟩
  have hmk := @run_makeMap Tryz.prog
  have hadd1 := add_at w.heap.size (A + 1 + 1) (A + 1) p.length cap a (.slice none 0 0) [] [] (0, 0, 0) (fun h0 h1 => ⟨by decide, by decide, by decide, by decide, by decide, by decide⟩) V hwV.size hSV
  go_enter Tryz.func31, Tryz.ntmps31
  go_wp2_with fail
  try simp only [hA]
  rw [hA] at hV
  rw [← hV]
  clear hV hmk
  refine hadd1.mono ?_
  rintro e w1 ⟨rfl, v1, F1, T1, hA1, hm1⟩
  have HA1 : Hid (Adds w.heap.size (A + 1 + 1) (A + 1) (.slice a p.length cap) V (.slice none 0 0) [] [] (fun g => g = (0, 0, 0) ∨ g = (1, 0, 0)) w1 v1 F1 T1) := hA1.imp fun g hg => .inl hg.1
  have HM1 : Hid (((0, 0, 0) : Fd) ∈ F1) := hm1 (by decide) (by omega)
  have hb1 : Below w.heap.size w w1 := hwV.trans (HA1.out.below hSV)
  have hadd2 := add_at w.heap.size (A + 1 + 1) (A + 1) p.length cap a v1 F1 T1 (1, 0, 0) (fun h0 h1 => ⟨by decide, by decide, by decide, by decide, by decide, by decide⟩) w1 hb1.size HA1.out.st
  clear hadd1 hA1 hm1
  go_wp2_with fail
  refine hadd2.mono ?_
  rintro e w2 ⟨rfl, v2, F2, T2, hA2, hm2⟩
  have HA2 : Hid (Adds w.heap.size (A + 1 + 1) (A + 1) (.slice a p.length cap) V (.slice none 0 0) [] [] (fun g => g = (0, 0, 0) ∨ g = (1, 0, 0)) w2 v2 F2 T2) := HA1.out.trans (hA2.imp fun g hg => .inr hg.1)
  have HSR : Hid (SrI p (fun f => f ∈ F2) (fun f => f ∈ T2)) := by
    have e1 : (fun f => f ∈ F2) = (fun f : Fd => f = (0, 0, 0) ∨ f = (1, 0, 0)) := funext fun f => propext ⟨fun h => by
      rcases HA2.out.new f h with k | k
      · simp at k
      · exact k, fun h => by
      rcases h with rfl | rfl
      · exact hA2.ext.up _ HM1.out
      · exact hm2 (by decide) (by omega)⟩
    have e2 : (fun f => f ∈ T2) = (fun f => f ∈ F2) := funext fun f => propext ⟨fun h => by
      rcases HA2.out.ext.sub f h with k | k
      · simp at k
      · exact k, fun h => HA2.out.ext.new f h (by simp)⟩
    show SrI p _ _
    rw [e2, e1]
    exact SrI.start h0p
  have hb2 : Below w.heap.size w w2 := hwV.trans (HA2.out.below hSV)
  have HS2 : Hid (Srch w.heap.size (A + 1 + 1) (A + 1) (.slice a p.length cap) w2 v2 F2 T2) := HA2.out.st
  clear hadd2 hA2 hm2 HA1 HM1 HA2 hSV SC MP hb1
  go_wp2
  go_loopg [] 2000 (fun n wr => ∃ (v : Value) (F T : List Fd), Hid (Srch w.heap.size (A + 1 + 1) (A + 1) (.slice a p.length cap) wr v F T) ∧ Hid (SrI p (fun f => f ∈ F) (fun f => f ∈ T)) ∧ Hid (960 + T.length ≤ 2 * F.length + n) ∧ Below w.heap.size w wr)
  case atStart => exact ⟨v2, F2, T2, HS2.out, HSR.out, by show _ ≤ _; have := HS2.out.tl; have := HS2.out.lenF; omega, hb2⟩
  case round =>
    clear HS2 HSR
    obtain ⟨v, F, T, hS, hI, hme, hb⟩ := hrel
    obtain ⟨xv, n', rfl⟩ := hS.out.row.form
    obtain ⟨s2, t2⟩ := hS.out.cells.g2
    have hF480 := hS.out.lenF
    have hTF := hS.out.tl
    by_cases h0 : T.length = 0
    · have hT : T = [] := List.length_eq_zero_iff.1 h0
      have hi0 : ¬ (0 : Int) < (T.length : Int) := by omega
      have hgt : ¬ (T.length : Int) > 0 := by omega
      have hE := hI.out.ends (fun f hf => by rw [hT] at hf; simp at hf)
      have HFN : Hid (Fnd p F) := ⟨hE.1, hE.2.1, hE.2.2⟩
      have HS' : Hid (Srch w.heap.size (A + 1 + 1) (A + 1) (.slice a p.length cap) wr (.slice xv T.length n') F []) := by
        have := hS.out
        rw [hT] at this ⊢
        exact this
      clear hI hme hE
      go_wp2_with fail
      refine (heapLen _ _ _ wr).mono ?_
      rintro e w3 ⟨rfl, rfl⟩
      go_wp2
      go_ret
      exact ⟨_, _, _, F, rfl, HS'.out, HFN.out, hb⟩
    · obtain ⟨m, hm⟩ : ∃ m, T.length = m + 1 := ⟨T.length - 1, by omega⟩
      obtain ⟨g, c, he, hg1, hg2, hg3, hg4⟩ := hS.out.row.some (by omega)
      injection he with he1 he2 he3
      subst he1 he3
      have hgs : A + 1 + 1 ≠ g := fun e => hS.out.o1 (by rw [e]; rfl)
      have hgm : A + 1 ≠ g := fun e => hS.out.o2 (by rw [e]; rfl)
      have hgt : (T.length : Int) > 0 := by omega
      have hcells := hS.out.cells
      have hrow := hS.out.row
      rw [hm] at hcells hrow s2 hgt
      have hpop := heapPop w.heap.size (A + 1 + 1) g n' m (.slice a p.length cap) (.map (some (A + 1))) T hm (by omega) hgs wr hcells hrow
      go_wp2_with fail
      refine (heapLen _ _ _ wr).mono ?_
      rintro e w3 ⟨rfl, rfl⟩
      go_wp2_with fail
      refine hpop.mono ?_
      rintro e w4 ⟨f, T', rfl, hp4, hl4, hs4, hr4, ht4⟩
      have hfT : f ∈ T := hp4.mem_iff.1 (by simp)
      have hfF := hI.out.sub f hfT
      have hsnd := hI.out.snd f hfF
      have HS4 : Hid (Srch w.heap.size (A + 1 + 1) (A + 1) (.slice a p.length cap) w4 (.slice (some ⟨g, 0, none⟩) m n') F T') :=
        ⟨hs4, hS.out.map.block (ht4.far _ hS.out.map.lt (by omega)), by rw [← hl4] at hr4 ⊢; exact hr4, hS.out.few, hS.out.nd, by omega, hS.out.b1, hS.out.b2, hS.out.ne, by simpa [Value.ownBlock] using fun e => hgs e.symm, by simpa [Value.ownBlock] using fun e => hgm e.symm⟩
      have hb4 : Below w.heap.size w w4 := hb.trans (ht4.below (by have := hb.size; omega) (fun k hk => by rcases hk with e | e <;> omega))
      have HPM : Hid ((f :: T').Perm T) := hp4
      obtain ⟨wh, cI, nn⟩ := f
      obtain ⟨cc, hcc, hccl⟩ := hsnd.at'
      dsimp only at hcc
      subst hcc
      have hta := ta_find (wh, (cc : Int), nn) w4
      have hfol := follow_at Bp p hok hsp w (A + 1 + 1) (A + 1) cap a HSK.out (.slice (some ⟨g, 0, none⟩) m n') F T' wh cc nn hsnd (fun f hf => hI.out.snd f hf) w4 hb4 HS4.out
      clear hpop hp4 hs4 hr4 ht4 hcells hrow s2 t2 hS
      go_wp2_with fail
      refine hfol.mono ?_
      rintro e w5 ⟨rfl, v5, F5, T5, hA5, hq5⟩
      have HS5 : Hid (Srch w.heap.size (A + 1 + 1) (A + 1) (.slice a p.length cap) w5 v5 F5 T5) := hA5.st
      have HI5 : Hid (SrI p (fun f => f ∈ F5) (fun f => f ∈ T5)) := by
        refine hI.out.follow (w := wh) (c := cc) (n := nn) hfT hA5.ext.up (fun g hg => (hA5.new g hg).elim (hI.out.snd g) id) (fun g hg => ?_) (fun g hg hne => ?_) hA5.ext.new hq5.done hq5.p1 hq5.p2
        · rcases hA5.ext.sub g hg with k | k
          · exact hA5.ext.up _ (hI.out.sub g (HPM.out.mem_iff.1 (List.mem_cons_of_mem _ k)))
          · exact k
        · rcases List.mem_cons.1 (HPM.out.mem_iff.2 hg) with k | k
          · exact absurd k hne
          · exact hA5.ext.tup _ k
      have HLE : Hid (F.length ≤ F5.length) := nodup_sub HS4.out.nd hA5.ext.up
      have HLN : Hid (T5.length + F.length = T'.length + F5.length) := hA5.ext.len
      have hb5 : Below w.heap.size w w5 := hb4.trans (hA5.below HS4.out)
      clear hA5 hq5 hfol hI HS4 hta
      go_wp2
      go_roundg (gk - 1)
      case rel => exact ⟨v5, F5, T5, HS5.out, HI5.out, by show _ ≤ _; have := hme.out; have := HLE.out; have := HLN.out; omega, hb5⟩
      case measure => have := hme.out; omega
end Pg
end Go.Proofs.YtinanjjhkddikaaGreat

/- The program's Made and Needed. -/
namespace Go.Proofs.YtinanjjhkddikaaGreat
namespace Pg
open Go.ChangeShapes Go.WideShapes Go.ChangeAt Go.RowKit St Wd
theorem risL_six {P : Nat → Bool} {n : Nat} (hn : n ≤ 6) (h : ∀ c, P c = true → c < n) : risL P n = risL P 6 := by
  refine rise_ext (risL_rise _ _) (risL_rise _ _) fun x => ?_
  rw [risL_mem, risL_mem]
  constructor
  · rintro ⟨j, hj, h1, h2⟩; exact ⟨j, by omega, h1, h2⟩
  · rintro ⟨j, hj, h1, h2⟩; exact ⟨j, h j h1, h1, h2⟩
/-- The answer, where the program is right. -/
def fndL (PB : Nat → Bool) (p : Prg) : List Int := if okP p = true then risL PB 6 else []
theorem Srch.grownG {B0 sb mb : Nat} {pv : Value} {X Y : World} {v : Value} {F T : List Fd} {row : Option Nat} (h : Srch B0 sb mb pv X v F T) (hg : X.grownBy Y row) (hr : ∀ r, row = some r → r ≠ sb ∧ r ≠ mb ∧ v.ownBlock ≠ some r) : Srch B0 sb mb pv Y v F T := by
  refine ⟨h.cells.grownF hg (fun e => (hr _ e).1 rfl), h.map.kept hg (fun e => (hr _ e.symm).2.1 rfl), h.row.kept hg ?_, h.few, h.nd, h.tl, h.b1, h.b2, h.ne, h.o1, h.o2⟩
  cases hq : row with
  | none => cases ho : v.ownBlock with
    | none => exact .inl rfl
    | some g => exact .inr (by simp)
  | some r => exact .inr (hr r hq).2.2
set_option maxRecDepth 100000 in
set_option maxHeartbeats 1000000 in
theorem classesFound_at (Bp : Nat) (p : Prg) (hsp : SmallP p) (cap : Nat) (a : Option Addr) (wh : Int) (h0 : 0 ≤ wh) (h4 : wh < 4) (PB : Nat → Bool) (hPB : okP p = true → ∀ F, Fnd p F → ∀ c : Nat, decide (((wh, (c : Int), 0) : Fd) ∈ F) = PB c) (hPL : okP p = true → ∀ c, PB c = true → c < p.length) (w : World) (hsk : SK front Bp w (.slice a p.length cap) p) :
    Calls Tryz.prog 27 #[.agg #[.slice a p.length cap], .int .i64 wh] w fun e w' => ∃ v, e = .returned v ∧ Grow w.heap.size w' v (fndL PB p) ∧ Below w.heap.size w w' := by
  obtain ⟨i0, hif, hz0, hz1, hz2⟩ := info_parts infoN
  have HSK : Hid (SK front Bp w (.slice a p.length cap) p) := hsk
  have HSP : Hid (SmallP p) := hsp
  clear hsk hsp
  obtain ⟨A, hA⟩ : ∃ A, w.heap.size = A := ⟨_, rfl⟩
  obtain ⟨W, hW⟩ : ∃ W, W = (w.alloc (.cells #[.slice a p.length cap] 30)).alloc (.cells #[] 2) := ⟨_, rfl⟩
  have hwW : Below w.heap.size w W := by rw [hW]; exact ((Below.refl _ _).alloc (Nat.le_refl _) _).alloc (by simp) _
  have PC : Hid (Cells W A [.slice a p.length cap]) := by rw [hW, ← hA]; exact (Cells.new w _ rfl _ _).alloc _
  have GW : Hid (Grow A W (.slice (some ⟨A + 1, 0, none⟩) 0 0) []) := by
    have h := (grow_start (w.alloc (.cells #[.slice a p.length cap] 30))).base' (B' := w.heap.size) (by simp)
    simp only [World.size_alloc] at h
    rw [hW, ← hA]; exact h
  have hWz : W.heap.size = A + 1 + 1 := by rw [hW, ← hA]; simp
  rw [hA]
  go_enter Tryz.func27, Tryz.ntmps27
  go_wp2_with fail
  try simp only [hA]
  rw [← hW]
  clear hW
  refine (implProgramOk Bp p a cap HSP.out _ (SK.on HSK.out (Keep.of hwW))).mono ?_
  rintro e w1 ⟨rfl, hb1⟩
  have hw1 : Below A w w1 := by rw [← hA]; exact below_over hwW hb1
  have P1 : Hid (Cells w1 A [.slice a p.length cap]) := PC.out.on hb1
  have G1 : Hid (Grow A w1 (.slice (some ⟨A + 1, 0, none⟩) 0 0) []) := GW.out.on hb1
  have hz1' := hb1.size
  clear PC GW hb1
  cases hok : okP p
  · have HG : Hid (Grow A w1 (.slice (some ⟨A + 1, 0, none⟩) 0 0) (fndL PB p)) := by show Grow _ _ _ _; unfold fndL; rw [hok]; exact G1.out
    clear hok
    go_wp2
    go_ret
    exact ⟨_, rfl, HG.out, hw1⟩
  · have HOK : Hid (okP p = true) := hok
    have h6 := (okP_len hok).2
    have p1 := P1.out.g0.1
    have hsr := searched_at Bp p hok HSP.out cap a w1 (SK.on HSK.out (Keep.of (by rw [hA]; exact hw1)))
    have HPB : Hid (∀ F, Fnd p F → ∀ c : Nat, decide (((wh, (c : Int), 0) : Fd) ∈ F) = PB c) := hPB hok
    have HSIX : Hid (risL PB p.length = fndL PB p) := by show _ = _; unfold fndL; rw [if_pos hok]; exact risL_six h6 (hPL hok)
    clear hok hPB hPL
    go_wp2_with fail
    refine hsr.mono ?_
    rintro e w2 ⟨sb, mb, v, F, rfl, hS, hF, hb2⟩
    have hw2 : Below A w w2 := hw1.trans (hb2.mono (by have := hw1.size; omega))
    have P2 : Hid (Cells w2 A [.slice a p.length cap]) := P1.out.on hb2
    have G2 : Hid (Grow A w2 (.slice (some ⟨A + 1, 0, none⟩) 0 0) []) := G1.out.on hb2
    have HS : Hid (Srch w1.heap.size sb mb (.slice a p.length cap) w2 v F []) := hS
    have HPF : Hid (∀ c : Nat, decide (((wh, (c : Int), 0) : Fd) ∈ F) = PB c) := HPB.out F hF
    have FG : Hid (FarS sb mb w2 v (A + 1)) := FarS.low hS (by omega)
    obtain ⟨p2, _⟩ := P2.out.g0
    clear hsr hS hF hb2 P1 G1 p1 HPB
    go_wp2
    go_loopw [5, 18] (fun x y wr => ∃ k : Nat, k ≤ p.length ∧ y = .int .i64 (k : Int) ∧ Hid (Grow A wr x (risL PB k)) ∧ Hid (Srch w1.heap.size sb mb (.slice a p.length cap) wr v F []) ∧ Hid (∀ g, x.ownBlock = some g → FarS sb mb wr v g) ∧ Below A w wr) (fun _ y _ => p.length - (intOf y).toNat)
    case atStart => exact ⟨0, Nat.zero_le _, rfl, G2.out, HS.out, fun g hg => by simp [Value.ownBlock] at hg; subst hg; exact FG.out, hw2⟩
    case round =>
      clear G2 HS FG p2 P2
      obtain ⟨k, hk, rfl, hg, hS, hfar, hb⟩ := hrel
      obtain ⟨ga, ca, rfl⟩ := hg.out.form
      by_cases hlt : k < p.length
      · have hki : (k : Int) < (p.length : Int) := by omega
        have hhas := has_at w1.heap.size sb mb (.slice a p.length cap) v F [] (wh, (k : Int), 0) (FewF.wf ⟨h0, h4, by dsimp only; omega, by dsimp only; omega, by dsimp only; omega, by dsimp only; omega⟩) wr hS.out
        rw [HPF.out k] at hhas
        have HLN : Hid ((risL PB k).length ≤ k) := risL_len PB k
        have HST : Hid (risL PB (k + 1) = risL PB k ++ (if PB k then [(k : Int)] else [])) := risL_succ PB k
        go_wp2_with fail
        refine hhas.mono ?_
        rintro e w3 ⟨rfl, hb3⟩
        have hg3 : Hid (Grow A w3 (.slice (some ⟨ga, 0, none⟩) (risL PB k).length ca) (risL PB k)) := hg.out.on hb3
        have hS3 : Hid (Srch w1.heap.size sb mb (.slice a p.length cap) w3 v F []) := hS.out.on hb3
        have hfar3 : Hid (FarS sb mb w3 v ga) := (hfar.out ga rfl).on hb3.size
        have hw3 : Below A w w3 := hb.trans (hb3.mono (by have := hb.size; omega))
        clear hhas hg hS hfar hb3
        generalize PB k = bq at *
        cases bq
        · have HG : Hid (Grow A w3 (.slice (some ⟨ga, 0, none⟩) (risL PB k).length ca) (risL PB (k + 1))) := by show Grow _ _ _ _; rw [HST.out]; simpa using hg3.out
          clear HST
          go_wp2
          go_roundw
          case rel => exact ⟨k + 1, by omega, by go_num, HG.out, hS3.out, fun g hg => by simp [Value.ownBlock] at hg; subst hg; exact hfar3.out, hw3⟩
          case measure => simp [intOf]; omega
        · have HB : Hid (A ≤ w3.heap.size) := by show _ ≤ _; have := hw3.size; omega
          go_wp2_with (at_builtin; refine wpList_append_own_at _ rfl _ _ 26 rfl A 2 i0 (.int .i64 0) 1 8 Tryz.underlying26 hif hz0 hz1 hz2 rfl (by decide) _ _ _ rfl (hg3.out.1.alloc _) ⟨w3.heap.size, 0, none⟩ 1 1 [.int .i64 (k : Int)] rfl rfl (cell_one_new _ _ _) (by simp [Value.oneCell']) (by have := HLN.out; unfold maxLen; omega) (by have := HLN.out; omega) (by have := HB.out; simp; omega) ?_)
          intro v1 w4 hown1 hgrow1 hnil1 hat1
          have hb4 : Below A w w4 := (hw3.alloc (by have := HB.out; omega) _).grown hgrow1 (by have := HB.out; simp; omega) (fun q hq => by simp [Value.ownBlock] at hq; subst hq; exact (hg3.out.1.lt ga rfl).1)
          have HG : Hid (Grow A w4 v1 (risL PB (k + 1))) := by
            show Grow _ _ _ _
            rw [HST.out]
            exact grow_next hown1 (fun h => by first | exact hnil1 h | exact absurd (hnil1.1 h).1 (by simp))
          have hbA : Below w3.heap.size w3 (w3.alloc (.cells #[.int .i64 (k : Int)] 2)) := (Below.refl _ _).alloc (Nat.le_refl _) _
          have HS4 : Hid (Srch w1.heap.size sb mb (.slice a p.length cap) w4 v F []) := (hS3.out.on hbA).grownG hgrow1 (fun r e => by simp [Value.ownBlock] at e; subst e; exact ⟨hfar3.out.s, hfar3.out.m, hfar3.out.v⟩)
          have HF4 : Hid (∀ g, v1.ownBlock = some g → FarS sb mb w4 v g) := fun g e => by
            have hl := (hown1.lt g e).2
            rcases hat1 with h | h
            · rw [h] at e; simp [Value.ownBlock] at e; subst e; exact ⟨hfar3.out.s, hfar3.out.m, hfar3.out.v, hl⟩
            · rw [h] at e
              have e' : (w3.alloc (.cells #[.int .i64 (k : Int)] 2)).heap.size = g := by simpa using e
              simp at e'
              exact hS3.out.far (by omega) hl
          clear hown1 hgrow1 hnil1 hat1 hg3 hS3 hfar3 HST hbA
          go_wp2
          go_roundw
          case rel => exact ⟨k + 1, by omega, by go_num, HG.out, HS4.out, HF4.out, hb4⟩
          case measure => simp [intOf]; omega
      · obtain rfl : k = p.length := by omega
        have HG : Hid (Grow A wr (.slice (some ⟨ga, 0, none⟩) (risL PB p.length).length ca) (fndL PB p)) := by show Grow _ _ _ _; rw [← HSIX.out]; exact hg.out
        go_wp2
        go_ret
        exact ⟨_, rfl, HG.out, hb⟩
end Pg
end Go.Proofs.YtinanjjhkddikaaGreat

/- The program's Made and Needed: the answers. -/
namespace Go.Proofs.YtinanjjhkddikaaGreat
namespace Pg
open Go.ChangeShapes Go.WideShapes Go.ChangeAt Go.RowKit St Wd
theorem madL_len (p : Prg) : (madL p).length ≤ 24 := by
  unfold madL
  split
  · have := risL_len (madB p) 6; omega
  · simp
theorem ndL_len (p : Prg) : (ndL p).length ≤ 24 := by
  unfold ndL
  split
  · have := risL_len (ndB p) 6; omega
  · simp
theorem livR_len (p : Prg) : (livR p).length ≤ 120 := by
  unfold livR
  split
  · exact risL_len (livB p) 120
  · simp
set_option maxHeartbeats 1000000 in
theorem implMade (Bp : Nat) (p : Prg) (a : Option Addr) (cap : Nat) (hsp : SmallP p) (w : World) (hp : SK front Bp w (.slice a p.length cap) p) :
    Calls Tryz.prog 10 #[.agg #[.slice a p.length cap]] w fun e w' => ∃ v, e = .returned v ∧ Grow w.heap.size w' v (madL p) ∧ Below w.heap.size w w' := by
  obtain ⟨W, hW⟩ : ∃ W, W = w.alloc (.cells #[.slice a p.length cap] 30) := ⟨_, rfl⟩
  have hwW : Below w.heap.size w W := by rw [hW]; exact (Below.refl _ _).alloc (Nat.le_refl _) _
  have hcall := classesFound_at Bp p hsp cap a 0 (by decide) (by decide) (madB p) (fun _ F hF c => by rw [Bool.eq_iff_iff, decide_eq_true_iff, madB_iff]; exact hF.made c) (fun hok c hc => (rd_there hok (madB_iff.1 hc)).1 rfl) W (SK.on hp (Keep.of hwW))
  have HE : Hid (fndL (madB p) p = madL p) := rfl
  have p0 : (w.alloc (.cells #[.slice a p.length cap] 30)).cell? ⟨w.heap.size, 0, none⟩ = some (.slice a p.length cap) := ((Cells.new w _ rfl [.slice a p.length cap] 30 : Cells _ w.heap.size _)).g0.1
  clear hp
  go_enter Tryz.func10, Tryz.ntmps10
  go_wp2_with fail
  rw [← hW]
  clear p0
  refine hcall.mono ?_
  rintro e w1 ⟨v, rfl, hg, hb⟩
  rw [HE.out] at hg
  have HG : Hid (Grow w.heap.size w1 v (madL p)) := hg.base' hwW.size
  have hw1 : Below w.heap.size w w1 := below_over hwW hb
  clear hg hb hcall hW
  go_wp2
  go_ret
  exact ⟨_, rfl, HG.out, hw1⟩
set_option maxHeartbeats 1000000 in
theorem implNeeded (Bp : Nat) (p : Prg) (a : Option Addr) (cap : Nat) (hsp : SmallP p) (w : World) (hp : SK front Bp w (.slice a p.length cap) p) :
    Calls Tryz.prog 19 #[.agg #[.slice a p.length cap]] w fun e w' => ∃ v, e = .returned v ∧ Grow w.heap.size w' v (ndL p) ∧ Below w.heap.size w w' := by
  obtain ⟨W, hW⟩ : ∃ W, W = w.alloc (.cells #[.slice a p.length cap] 30) := ⟨_, rfl⟩
  have hwW : Below w.heap.size w W := by rw [hW]; exact (Below.refl _ _).alloc (Nat.le_refl _) _
  have hcall := classesFound_at Bp p hsp cap a 3 (by decide) (by decide) (ndB p) (fun _ F hF c => by rw [Bool.eq_iff_iff, decide_eq_true_iff, ndB_iff]; exact hF.need c) (fun hok c hc => nd_there hok (ndB_iff.1 hc)) W (SK.on hp (Keep.of hwW))
  have HE : Hid (fndL (ndB p) p = ndL p) := rfl
  have p0 : (w.alloc (.cells #[.slice a p.length cap] 30)).cell? ⟨w.heap.size, 0, none⟩ = some (.slice a p.length cap) := ((Cells.new w _ rfl [.slice a p.length cap] 30 : Cells _ w.heap.size _)).g0.1
  clear hp
  go_enter Tryz.func19, Tryz.ntmps19
  go_wp2_with fail
  rw [← hW]
  clear p0
  refine hcall.mono ?_
  rintro e w1 ⟨v, rfl, hg, hb⟩
  rw [HE.out] at hg
  have HG : Hid (Grow w.heap.size w1 v (ndL p)) := hg.base' hwW.size
  have hw1 : Below w.heap.size w w1 := below_over hwW hb
  clear hg hb hcall hW
  go_wp2
  go_ret
  exact ⟨_, rfl, HG.out, hw1⟩
end Pg
end Go.Proofs.YtinanjjhkddikaaGreat
