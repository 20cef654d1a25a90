/- Contracts of both sides' account of the fields of a class. -/
import Derived.Test.YtinanjjhkddikaaGreatJLo0
import Derived.Test.YtinanjjhkddikaaGreatJSu0
import Derived.Deep.RegionLaw
import Derived.Test.YtinanjjhkddikaaGreatJPs0
import Derived.Test.YtinanjjhkddikaaGreatJPs1
import Derived.Test.YtinanjjhkddikaaGreatJHi0
import Derived.Maps.AppendAt
import Derived.Test.YtinanjjhkddikaaGreatJHi2
namespace Go.Proofs.YtinanjjhkddikaaGreat
namespace Pg
open Go.ChangeShapes Go.WideShapes Go.ChangeAt Go.RowKit St

end Pg
end Go.Proofs.YtinanjjhkddikaaGreat

/- Contracts of both sides' question whether a program and a class of it are right. -/
namespace Go.Proofs.YtinanjjhkddikaaGreat
namespace Pg
open Go.ChangeShapes Go.WideShapes Go.ChangeAt Go.RowKit St

def inB (p : Prg) (t : Int) : Bool := decide (0 ≤ t) && decide (t < (p.length : Int))
theorem okIn {p : Prg} {t : Int} (h : (okP p && inB p t) = true) : okP p = true ∧ 0 ≤ t ∧ t < (p.length : Int) := by
  simp only [Bool.and_eq_true, inB, decide_eq_true_eq] at h
  exact h
end Pg
end Go.Proofs.YtinanjjhkddikaaGreat

/- Contracts of the other side's questions about those above. -/
namespace Go.Proofs.YtinanjjhkddikaaGreat
namespace Pg
open Go.ChangeShapes Go.WideShapes Go.ChangeAt Go.RowKit St

set_option maxRecDepth 100000 in
set_option maxHeartbeats 1000000 in
theorem l5Above (B : Nat) (p : Prg) (a : Option Addr) (cap : Nat) (u0 : Int) (hu0 : -1 ≤ u0) (hu1 : u0 < (p.length : Int)) (h6 : p.length ≤ 6) (hsup : SupOk p p.length) (w : World) (hp : SK front B w (.slice a p.length cap) p) :
    Calls Tryz.prog 69 #[.agg #[.slice a p.length cap], .int .i64 u0] w fun e w' => ∃ v, e = .returned v ∧ Grow w.heap.size w' v (upL p u0) ∧ Below w.heap.size w w' := by
  obtain ⟨i0, hif, hz0, hz1, hz2⟩ := info_parts infoN
  have HP : Hid (SK front B w (.slice a p.length cap) p) := hp
  have HSUP : Hid (SupOk p p.length) := hsup
  clear hp hsup
  obtain ⟨W, hW⟩ : ∃ W, W = w.alloc (.cells #[.slice a p.length cap] 30) := ⟨_, rfl⟩
  have hwW : Below w.heap.size w W := by rw [hW]; exact (Below.refl _ _).alloc (Nat.le_refl _) _
  have P0 : Hid (Cells W w.heap.size [.slice a p.length cap]) := by rw [hW]; exact Cells.new w _ rfl _ _
  have G0 : Hid (Grow W.heap.size (W.alloc (.cells #[] 2)) (.slice (some ⟨W.heap.size, 0, none⟩) 0 0) []) := grow_start W
  have HSZ : Hid (W.heap.size = w.heap.size + 1) := by show _ = _; rw [hW]; simp
  go_enter Tryz.func69, Tryz.ntmps69
  go_wp2
  rw [← HSZ.out, ← hW]
  clear hW
  go_loopw [1, 5] (fun x y wr => ∃ (pre : List Int) (u : Int) (v0 : Value), x = .int .i64 u ∧ v0 = y ∧ -1 ≤ u ∧ u < (p.length : Int) ∧ Hid (upL p u0 = pre ++ upL p u) ∧ Hid (Grow W.heap.size wr v0 pre) ∧ Below W.heap.size W wr) (fun x _ _ => (intOf x + 1).toNat)
  case atStart => exact ⟨[], u0, _, rfl, rfl, hu0, hu1, by show _ = _; simp, G0.out, (Below.refl _ _).alloc (Nat.le_refl _) _⟩
  case round =>
    clear hu0 hu1 G0
    obtain ⟨pre, u, v0, rfl, rfl, hu0, hu1, hx, hg, hb⟩ := hrel
    have hwr : Below w.heap.size w wr := hwW.trans (hb.mono hwW.size)
    by_cases hneg : u = -1
    · have HE : Hid (upL p u0 = pre) := by
        show _ = _
        rw [hx.out, hneg, upL_neg p (by omega)]; simp
      obtain ⟨g, cp, rfl⟩ := hg.out.form
      have HG : Hid (Grow w.heap.size wr (.slice (some ⟨g, 0, none⟩) pre.length cp) (upL p u0)) := by
        rw [HE.out]; exact hg.out.base' (by have := HSZ.out; omega)
      subst hneg
      clear hx hg HE
      go_wp2
      go_ret
      exact ⟨_, rfl, HG.out, hwr⟩
    · obtain ⟨j, rfl⟩ := Int.eq_ofNat_of_zero_le (show 0 ≤ u by omega)
      have hjp : j < p.length := by omega
      have hji : (j : Int) < (p.length : Int) := by omega
      have hj0 : (0 : Int) ≤ (j : Int) := by omega
      have HST : Hid (upL p u0 = (pre ++ [(j : Int)]) ++ upL p p[j].super) := by
        show _ = _
        rw [hx.out, upL_step HSUP.out hjp (by omega) (List.getElem?_eq_getElem hjp)]; simp
      have hlen : pre.length < 6 := by
        have h1 := upL_len p u0
        rw [HST.out] at h1
        simp at h1
        omega
      obtain ⟨b, o, rfl, _, vf, vm, d0, d1, d2, hcv⟩ := HP.out.get hjp
      have l0 : b < w.heap.size := cell_lt d0
      have hsu := HSUP.out j _ hjp (List.getElem?_eq_getElem hjp)
      generalize p[j] = c at *
      have hsu1 := hsu.1
      have hsu2 := hsu.2
      clear hcv hsu d1 d2 hneg hx
      obtain ⟨g, cp, rfl⟩ := hg.out.form
      have hzr : W.heap.size ≤ wr.heap.size := hb.size
      go_wp2_with (at_builtin; refine wpList_append_own _ rfl _ _ 26 rfl W.heap.size 2 i0 (.int .i64 0) 1 8 Tryz.underlying26 hif hz0 hz1 hz2 rfl (by decide) _ _ _ rfl (hg.out.1.alloc _) ⟨wr.heap.size, 0, none⟩ 1 1 [.int .i64 (j : Int)] rfl rfl (cell_one_new _ _ _) (by simp [Value.oneCell']) (by unfold maxLen; omega) (by omega) (by simp; omega) ?_)
      intro v' w1 hown hgrow hnil
      have hb1 : Below W.heap.size W w1 := (hb.alloc hb.size _).grown hgrow (by simp; omega) (fun k hk => by simp [Value.ownBlock] at hk; subst hk; exact (hg.out.1.lt g rfl).1)
      have HG : Hid (Grow W.heap.size w1 v' (pre ++ [(j : Int)])) := grow_next hown (fun h => by first | exact hnil h | exact absurd (hnil.1 h).1 (by simp))
      clear hown hgrow hnil
      obtain ⟨p0, _⟩ := (cells_lowP P0.out hb1 (by have := HSZ.out; omega)).g0
      have hw1 : Below w.heap.size w w1 := hwW.trans (hb1.mono hwW.size)
      have c0 := (hw1.cell l0).trans d0
      clear hb hwr hg
      go_wp2
      go_roundw
      case rel => exact ⟨pre ++ [(j : Int)], c.super, v', rfl, rfl, hsu1, by omega, HST.out, HG.out, hb1⟩
      case measure => simp [intOf]; omega
set_option maxHeartbeats 1000000 in
theorem l5Under (B : Nat) (p : Prg) (a : Option Addr) (cap : Nat) (u0 b : Int) (hu0 : -1 ≤ u0) (hu1 : u0 < (p.length : Int)) (h6 : p.length ≤ 6) (hsup : SupOk p p.length) (w : World) (hp : SK front B w (.slice a p.length cap) p) :
    Calls Tryz.prog 47 #[.agg #[.slice a p.length cap], .int .i64 u0, .int .i64 b] w fun e w' => e = .returned (.bool (undB p u0 b)) ∧ Below w.heap.size w w' := by
  obtain ⟨W, hW⟩ : ∃ W, W = w.alloc (.cells #[.slice a p.length cap] 30) := ⟨_, rfl⟩
  have hwW : Below w.heap.size w W := by rw [hW]; exact (Below.refl _ _).alloc (Nat.le_refl _) _
  have HP : Hid (SK front B W (.slice a p.length cap) p) := SK.on hp (Keep.of hwW)
  have HSUP : Hid (SupOk p p.length) := hsup
  clear hp hsup
  go_enter Tryz.func47, Tryz.ntmps47
  go_wp2_with fail
  rw [← hW]
  clear hW
  refine (l5Above B p a cap u0 hu0 hu1 h6 HSUP.out _ HP.out).mono ?_
  rintro e w1 ⟨v, rfl, hg, hb1⟩
  obtain ⟨g, cp, rfl, _, _, hir, _⟩ := hg.gint
  have hw1 : Below w.heap.size w w1 := below_over hwW hb1
  have HI : Hid (IRow w1 g 0 (upL p u0)) := hir
  have hln := upL_len p u0
  clear hg hir hb1
  go_wp2_with fail
  refine (l1Has g cp (upL p u0) b (by omega) _ HI.out).mono ?_
  rintro e w2 ⟨rfl, rfl⟩
  go_wp2
  go_ret
  exact ⟨rfl, hw1⟩
theorem lowF_neg (p : Prg) {u : Int} (b : Int) (h : u < 0) : lowF p u b = -1 := by unfold lowF; rw [upL_neg p h]; rfl
theorem lowF_step {p : Prg} {n : Nat} (hs : SupOk p n) {u : Nat} (hu : u < n) (h6 : u < 6) {c : Cls} (hc : p[u]? = some c) (b : Int) : lowF p (u : Int) b = if undB p b (u : Int) then (u : Int) else lowF p c.super b := by
  unfold lowF
  rw [upL_step hs hu h6 hc, find_step]
  split <;> rfl
theorem selF_neg (p : Prg) {u : Int} (b : Int) (h : u < 0) : selF p u b = -1 := by unfold selF; rw [upL_neg p h]; rfl
theorem selF_step {p : Prg} {n : Nat} (hs : SupOk p n) {u : Nat} (hu : u < n) (h6 : u < 6) {c : Cls} (hc : p[u]? = some c) (b : Int) : selF p (u : Int) b = if (ownF c b).isSome then (u : Int) else selF p c.super b := by
  unfold selF
  rw [upL_step hs hu h6 hc, find_step]
  have : hasM p b (u : Int) = (ownF c b).isSome := by unfold hasM; rw [Int.toNat_natCast, hc]
  rw [this]
  split <;> rfl
theorem ownI_neg (c : Cls) (name : Int) : decide (ownI c name < 0) = !(ownF c name).isSome := by
  unfold ownI ownF
  cases h : c.meths.findIdx? (fun m => decide (m.name = name)) with
  | none =>
    have h2 : c.meths.find? (fun m => decide (m.name = name)) = none := by
      rw [List.find?_eq_none]
      intro m hm
      have := (List.findIdx?_eq_none_iff.1 h) m hm
      simpa using this
    rw [h2]; rfl
  | some k =>
    have h2 : (c.meths.find? (fun m => decide (m.name = name))).isSome = true := by
      rw [List.findIdx?_eq_some_iff_getElem] at h
      obtain ⟨hk, hp, _⟩ := h
      rw [List.find?_isSome]
      exact ⟨c.meths[k], List.getElem_mem hk, hp⟩
    rw [h2]
    simp
set_option maxRecDepth 100000 in
set_option maxHeartbeats 1000000 in
theorem l5Selected (B : Nat) (p : Prg) (a : Option Addr) (cap : Nat) (u0 b : Int) (hu0 : -1 ≤ u0) (hu1 : u0 < (p.length : Int)) (hsp : SmallP p) (h6 : p.length ≤ 6) (hsup : SupOk p p.length) (w : World) (hp : SK front B w (.slice a p.length cap) p) :
    Calls Tryz.prog 46 #[.agg #[.slice a p.length cap], .int .i64 u0, .int .i64 b] w fun e w' => e = .returned (.int .i64 (selF p u0 b)) ∧ Below w.heap.size w w' := by
  have HP : Hid (SK front B w (.slice a p.length cap) p) := hp
  have HSUP : Hid (SupOk p p.length) := hsup
  have HSP : Hid (SmallP p) := hsp
  clear hp hsup hsp
  obtain ⟨W, hW⟩ : ∃ W, W = w.alloc (.cells #[.slice a p.length cap] 30) := ⟨_, rfl⟩
  have hwW : Below w.heap.size w W := by rw [hW]; exact (Below.refl _ _).alloc (Nat.le_refl _) _
  have P0 : Hid (Cells W w.heap.size [.slice a p.length cap]) := by rw [hW]; exact Cells.new w _ rfl _ _
  go_enter Tryz.func46, Tryz.ntmps46
  go_wp2
  rw [← hW]
  clear hW
  go_loopw [1] (fun x wr => ∃ u : Int, x = .int .i64 u ∧ -1 ≤ u ∧ u < (p.length : Int) ∧ Hid (selF p u0 b = selF p u b) ∧ Below W.heap.size W wr) (fun x _ => (intOf x + 1).toNat)
  case atStart => exact ⟨u0, rfl, hu0, hu1, rfl, Below.refl _ _⟩
  case round =>
    clear hu0 hu1
    obtain ⟨u, rfl, hu0, hu1, hx, hb⟩ := hrel
    have hwr : Below w.heap.size w wr := below_over hwW hb
    by_cases hneg : u = -1
    · have HE : Hid (selF p u0 b = -1) := by show _ = _; rw [hx.out, hneg]; exact selF_neg p b (by omega)
      subst hneg
      go_wp2
      go_ret
      exact ⟨retI HE.out.symm, hwr⟩
    · obtain ⟨j, rfl⟩ := Int.eq_ofNat_of_zero_le (show 0 ≤ u by omega)
      have hjp : j < p.length := by omega
      have hji : (j : Int) < (p.length : Int) := by omega
      have hj0 : (0 : Int) ≤ (j : Int) := by omega
      have HST : Hid (selF p u0 b = if (ownF p[j] b).isSome then (j : Int) else selF p p[j].super b) := by
        show _ = _
        rw [hx.out, selF_step HSUP.out hjp (by omega) (List.getElem?_eq_getElem hjp)]
      obtain ⟨b', o, rfl, _, vf, vm, d0, d1, d2, hcv⟩ := HP.out.get hjp
      obtain ⟨z1, t1, rfl⟩ := hcv.1.form
      obtain ⟨z2, t2, rfl⟩ := hcv.2.form
      have l0 : b' < w.heap.size := cell_lt d0
      have hsu := HSUP.out j _ hjp (List.getElem?_eq_getElem hjp)
      have HSM : Hid (SM front B w (.slice z2 p[j].meths.length t2) p[j].meths) := hcv.2
      have hsm := HSP.out.2 _ (List.getElem_mem hjp)
      have hsl := hsm.2.1
      have k0 := (hwr.cell l0).trans d0
      have k1 := (hwr.cell l0).trans d1
      have k2 := (hwr.cell l0).trans d2
      generalize p[j] = c at *
      have hsu1 := hsu.1
      have hsu2 := hsu.2
      clear hcv hsu d1 d2 hneg hx hsm
      obtain ⟨p0, _⟩ := (P0.out.on hb).g0
      go_wp2_with fail
      refine (l4Own B c z1 z2 t2 c.fields.length t1 b hsl _ (SM.on HSM.out (Keep.of hwr))).mono ?_
      rintro e w1 ⟨rfl, hb1⟩
      have hw1 : Below w.heap.size w w1 := below_over hwr hb1
      have hW1 : Below W.heap.size W w1 := below_over hb hb1
      have c0 := (hw1.cell l0).trans d0
      clear p0 k0 k1 k2
      obtain ⟨p0, _⟩ := (P0.out.on hW1).g0
      clear hb1 hb hwr
      have HO1 : Hid (ownI c b < 0 → (ownF c b).isSome = false) := fun h => by have := ownI_neg c b; rw [decide_eq_true h] at this; simpa using this.symm
      have HO2 : Hid (¬ ownI c b < 0 → (ownF c b).isSome = true) := fun h => by have := ownI_neg c b; rw [decide_eq_false h] at this; simpa using this.symm
      generalize ownI c b = oi at *
      by_cases hq : oi < 0
      · have HE : Hid (selF p u0 b = selF p c.super b) := by
          show _ = _
          rw [HST.out, HO1.out hq]; rfl
        clear HST HO1 HO2
        go_wp2
        go_roundw
        case rel => exact ⟨c.super, rfl, hsu1, by omega, HE.out, hW1⟩
        case measure => simp [intOf]; omega
      · have HE : Hid (selF p u0 b = (j : Int)) := by
          show _ = _
          rw [HST.out, HO2.out hq]; rfl
        clear HST HO1 HO2
        go_wp2
        go_ret
        exact ⟨retI HE.out.symm, hw1⟩
end Pg
end Go.Proofs.YtinanjjhkddikaaGreat

/- Contracts of the program's lists of those above and below. -/
namespace Go.Proofs.YtinanjjhkddikaaGreat
namespace Pg
open Go.ChangeShapes Go.WideShapes Go.ChangeAt Go.RowKit Go.Shelf St
attribute [local go_sem] Oper.semAt_some

def upA (p : Prg) (c : Int) : List Int := if okP p && inB p c then upL p c else []
def downA (p : Prg) (c : Int) : List Int := if okP p && inB p c then downL p c else []
theorem upA_len (p : Prg) (c : Int) : (upA p c).length ≤ 24 := by
  unfold upA; split
  · have := upL_len p c; omega
  · simp
theorem downL_len (p : Prg) (c : Int) (h : p.length ≤ 6) : (downL p c).length ≤ 6 := by
  unfold downL
  have h1 := List.length_filter_le (fun i => undB p i c) (allC p)
  have h2 : (allC p).length = p.length := by simp [allC]
  omega
theorem downA_len (p : Prg) (c : Int) : (downA p c).length ≤ 24 := by
  unfold downA; split
  · rename_i h
    have := downL_len p c (okP_len (okIn h).1).2; omega
  · simp
/-- A list of the caller's own, in a box. -/
def BoxL (n₀ b : Nat) (W : World) (l : List Int) : Prop := ∃ v, Boxed W b 26 v ∧ Grow n₀ W v l
theorem nums_map (l : List Int) : nums l = l.map (Value.int .i64) := rfl
theorem boxL_own {β : Type} (n₀ b : Nat) (f : β → List Int) : Own (fun (s : β) W => BoxL n₀ b W (f s)) := fun s X Y row hs hg hr => by
  obtain ⟨v, h1, h2, h3⟩ := hs
  obtain ⟨v', k1, k2, k3⟩ := holdsRow_own (β := Unit) n₀ b 26 2 1 (fun _ => (f s).length) (fun _ => nums (f s)) (fun _ v => v ≠ .slice none 0 0) () X Y row ⟨v, h1, h2, h3⟩ hg hr
  exact ⟨v', k1, k2, k3⟩
theorem BoxL.below {n₀ b : Nat} {W W' : World} {l : List Int} (h : BoxL n₀ b W l) (hb : Below W.heap.size W W') : BoxL n₀ b W' l := by
  obtain ⟨v, h1, h2⟩ := h
  exact ⟨v, (hb.block b h1.lt).trans h1, h2.on hb⟩

/-- An append onto the caller's own list, in its box: what is kept of the others' boxes. -/
theorem kp_app {W w1 : World} {n₀ bA : Nat} {bs : List Nat} {v v' : Value} {k m : Nat} {xs ys : List Value} {tmp : Obj}
    (hv : Boxed W bA 26 v) (hrow : W.ownsRow n₀ 2 1 v k xs) (hn₀ : n₀ ≤ W.heap.size) (hB : n₀ ≤ bA) (hown' : w1.ownsRow n₀ 2 1 v' m ys) (hgrow : (W.alloc tmp).grownBy w1 v.ownBlock)
    (hbs : ∀ b ∈ bs, b ≠ bA ∧ b < W.heap.size ∧ some b ≠ v.ownBlock) : Kp n₀ bs W (w1.setCell ⟨bA, 0, none⟩ v') := by
  obtain ⟨_, _, _, _, hb2⟩ := hv.appended (by decide) hrow hn₀ hB hown' hgrow
  refine ⟨hb2, fun b hb hl => ?_⟩
  obtain ⟨h1, h2, h3⟩ := hbs b hb
  rw [Below.heap_setCell w1 ⟨bA, 0, none⟩ v' b h1, hgrow.block b (by simp; omega) h3]
  exact Below.heap_alloc W tmp b hl
theorem box_prog {W : World} {bx n₀ : Nat} {v : Value} {k : Nat} {xs : List Value} {o : Value} (h : Boxed W bx 30 o) (hrow : W.ownsRow n₀ 2 1 v k xs) : some bx ≠ v.ownBlock := h.not_row (by decide) hrow
/-- A box of one number is no row's block, where the row began later. -/
theorem box_off {n₀ bx : Nat} {W : World} {v : Value} {k : Nat} {xs : List Value} (hrow : W.ownsRow n₀ 2 1 v k xs) (hb : bx < n₀) : some bx ≠ v.ownBlock := fun e => by
  have := (hrow.lt bx e.symm).1
  omega

end Pg
end Go.Proofs.YtinanjjhkddikaaGreat
