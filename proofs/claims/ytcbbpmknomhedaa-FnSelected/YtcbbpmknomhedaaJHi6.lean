/- Contracts of both sides' question whether a program and a class of it are right. -/
import Derived.Test.YtcbbpmknomhedaaJPs0
import Derived.Test.YtcbbpmknomhedaaJPs1
import Derived.Test.YtcbbpmknomhedaaJPc0
import Derived.Test.YtcbbpmknomhedaaJHi0
import Derived.Maps.AppendAt
import Derived.Test.YtcbbpmknomhedaaJHi2
namespace Go.Proofs.Ytcbbpmknomhedaa
namespace Pg
open Go.ChangeShapes Go.WideShapes Go.ChangeAt Go.RowKit St

def inB (p : Prg) (t : Int) : Bool := decide (0 ≤ t) && decide (t < (p.length : Int))
theorem okIn {p : Prg} {t : Int} (h : (okP p && inB p t) = true) : okP p = true ∧ 0 ≤ t ∧ t < (p.length : Int) := by
  simp only [Bool.and_eq_true, inB, decide_eq_true_eq] at h
  exact h
set_option maxHeartbeats 1000000 in
theorem isRightClass (B : Nat) (p : Prg) (a : Option Addr) (cap : Nat) (t : Int) (hsp : SmallP p) (w : World) (hp : SK front B w (.slice a p.length cap) p) :
    Calls Try.prog 17 #[.agg #[.slice a p.length cap], .int .i64 t] w fun e w' => e = .returned (.bool (okP p && inB p t)) ∧ Below w.heap.size w w' := by
  have HSP : Hid (SmallP p) := hsp
  have HP : Hid (SK front B w (.slice a p.length cap) p) := hp
  clear hp hsp
  obtain ⟨W, hW⟩ : ∃ W, W = w.alloc (.cells #[.slice a p.length cap] 26) := ⟨_, rfl⟩
  have hwW : Below w.heap.size w W := by rw [hW]; exact (Below.refl _ _).alloc (Nat.le_refl _) _
  have P0 : Hid (Cells W w.heap.size [.slice a p.length cap]) := by rw [hW]; exact Cells.new w _ rfl _ _
  go_enter Try.func17, Try.ntmps17
  go_wp2_with fail
  rw [← hW]
  clear hW
  refine (implProgramOk B p a cap HSP.out _ (SK.on HP.out (Keep.of hwW))).mono ?_
  rintro e w1 ⟨rfl, hb1⟩
  have hw1 : Below w.heap.size w w1 := below_over hwW hb1
  obtain ⟨q0, _⟩ := (P0.out.on hb1).g0
  clear hb1 P0
  cases hok : okP p
  · have HN : Hid ((okP p && inB p t) = false) := by show _ = _; rw [hok]; rfl
    go_wp2
    go_ret
    exact ⟨retB HN.out.symm, hw1⟩
  · have HN : Hid ((okP p && inB p t) = (decide (0 ≤ t) && decide (t < (p.length : Int)))) := by show _ = _; rw [hok]; rfl
    go_wp2_with fail
    refine (hasClass a p.length cap t _).mono ?_
    rintro e w2 ⟨rfl, hb2⟩
    have hw2 : Below w.heap.size w w2 := below_over hw1 hb2
    clear hb2 q0 hok
    generalize (decide (0 ≤ t) && decide (t < (p.length : Int))) = q at *
    go_wp2
    go_ret
    exact ⟨retB HN.out.symm, hw2⟩
set_option maxHeartbeats 1000000 in
theorem l4In (B : Nat) (p : Prg) (a : Option Addr) (cap : Nat) (t : Int) (hsp : SmallP p) (w : World) (hp : SK front B w (.slice a p.length cap) p) :
    Calls Try.prog 22 #[.agg #[.slice a p.length cap], .int .i64 t] w fun e w' => e = .returned (.bool (okP p && inB p t)) ∧ Below w.heap.size w w' := by
  have HSP : Hid (SmallP p) := hsp
  have HP : Hid (SK front B w (.slice a p.length cap) p) := hp
  clear hp hsp
  obtain ⟨W, hW⟩ : ∃ W, W = w.alloc (.cells #[.slice a p.length cap] 26) := ⟨_, rfl⟩
  have hwW : Below w.heap.size w W := by rw [hW]; exact (Below.refl _ _).alloc (Nat.le_refl _) _
  have P0 : Hid (Cells W w.heap.size [.slice a p.length cap]) := by rw [hW]; exact Cells.new w _ rfl _ _
  go_enter Try.func22, Try.ntmps22
  go_wp2_with fail
  rw [← hW]
  clear hW
  refine (specProgramOk B p a cap HSP.out _ (SK.on HP.out (Keep.of hwW))).mono ?_
  rintro e w1 ⟨rfl, hb1⟩
  have hw1 : Below w.heap.size w w1 := below_over hwW hb1
  obtain ⟨q0, _⟩ := (P0.out.on hb1).g0
  clear hb1 P0
  cases hok : okP p
  · have HN : Hid ((okP p && inB p t) = false) := by show _ = _; rw [hok]; rfl
    go_wp2
    go_ret
    exact ⟨retB HN.out.symm, hw1⟩
  · by_cases h0 : 0 ≤ t
    · have HN : Hid ((okP p && inB p t) = decide (t < (p.length : Int))) := by show _ = _; rw [hok]; simp [inB, h0]
      by_cases h1 : t < (p.length : Int)
      · have HX : Hid ((okP p && inB p t) = true) := by show _ = _; rw [HN.out]; simp [h1]
        go_wp2
        go_ret
        exact ⟨retB HX.out.symm, hw1⟩
      · go_wp2
        go_ret
        exact ⟨retB HN.out.symm, hw1⟩
    · have HN : Hid (inB p t = false) := by show _ = _; simp [inB, h0]
      have HM : Hid ((okP p && inB p t) = false) := by show _ = _; rw [HN.out]; simp
      clear hok
      go_wp2
      go_ret
      exact ⟨retB HM.out.symm, hw1⟩

end Pg
end Go.Proofs.Ytcbbpmknomhedaa

/- Contracts of the other side's questions about those above. -/
namespace Go.Proofs.Ytcbbpmknomhedaa
namespace Pg
open Go.ChangeShapes Go.WideShapes Go.ChangeAt Go.RowKit St

set_option maxRecDepth 100000 in
set_option maxHeartbeats 1000000 in
theorem l5Above (B : Nat) (p : Prg) (a : Option Addr) (cap : Nat) (u0 : Int) (hu0 : -1 ≤ u0) (hu1 : u0 < (p.length : Int)) (h6 : p.length ≤ 6) (hsup : SupOk p p.length) (w : World) (hp : SK front B w (.slice a p.length cap) p) :
    Calls Try.prog 65 #[.agg #[.slice a p.length cap], .int .i64 u0] w fun e w' => ∃ v, e = .returned v ∧ Grow w.heap.size w' v (upL p u0) ∧ Below w.heap.size w w' := by
  obtain ⟨i0, hif, hz0, hz1, hz2⟩ := info_parts infoN
  have HP : Hid (SK front B w (.slice a p.length cap) p) := hp
  have HSUP : Hid (SupOk p p.length) := hsup
  clear hp hsup
  obtain ⟨W, hW⟩ : ∃ W, W = w.alloc (.cells #[.slice a p.length cap] 26) := ⟨_, rfl⟩
  have hwW : Below w.heap.size w W := by rw [hW]; exact (Below.refl _ _).alloc (Nat.le_refl _) _
  have P0 : Hid (Cells W w.heap.size [.slice a p.length cap]) := by rw [hW]; exact Cells.new w _ rfl _ _
  have G0 : Hid (Grow W.heap.size (W.alloc (.cells #[] 2)) (.slice (some ⟨W.heap.size, 0, none⟩) 0 0) []) := grow_start W
  have HSZ : Hid (W.heap.size = w.heap.size + 1) := by show _ = _; rw [hW]; simp
  go_enter Try.func65, Try.ntmps65
  go_wp2
  rw [← HSZ.out, ← hW]
  clear hW
  go_loopw [1, 5] (fun x y wr => ∃ (pre : List Int) (u : Int) (v0 : Value), x = .int .i64 u ∧ v0 = y ∧ -1 ≤ u ∧ u < (p.length : Int) ∧ Hid (upL p u0 = pre ++ upL p u) ∧ Hid (Grow W.heap.size wr v0 pre) ∧ Below W.heap.size W wr) (fun x _ _ => (intOf x + 1).toNat)
  case atStart => exact ⟨[], u0, _, rfl, rfl, hu0, hu1, by show _ = _; simp, G0.out, (Below.refl _ _).alloc (Nat.le_refl _) _⟩
  case round =>
    clear hu0 hu1 G0
    obtain ⟨pre, u, v0, rfl, rfl, hu0, hu1, hx, hg, hb⟩ := hrel
    have hwr : Below w.heap.size w wr := hwW.trans (hb.mono hwW.size)
    by_cases hneg : u = -1
    · have HE : Hid (upL p u0 = pre) := by
        show _ = _
        rw [hx.out, hneg, upL_neg p (by omega)]; simp
      obtain ⟨g, cp, rfl⟩ := hg.out.form
      have HG : Hid (Grow w.heap.size wr (.slice (some ⟨g, 0, none⟩) pre.length cp) (upL p u0)) := by
        rw [HE.out]; exact hg.out.base' (by have := HSZ.out; omega)
      subst hneg
      clear hx hg HE
      go_wp2
      go_ret
      exact ⟨_, rfl, HG.out, hwr⟩
    · obtain ⟨j, rfl⟩ := Int.eq_ofNat_of_zero_le (show 0 ≤ u by omega)
      have hjp : j < p.length := by omega
      have hji : (j : Int) < (p.length : Int) := by omega
      have hj0 : (0 : Int) ≤ (j : Int) := by omega
      have HST : Hid (upL p u0 = (pre ++ [(j : Int)]) ++ upL p p[j].super) := by
        show _ = _
        rw [hx.out, upL_step HSUP.out hjp (by omega) (List.getElem?_eq_getElem hjp)]; simp
      have hlen : pre.length < 6 := by
        have h1 := upL_len p u0
        rw [HST.out] at h1
        simp at h1
        omega
      obtain ⟨b, o, rfl, _, vf, vm, d0, d1, d2, hcv⟩ := HP.out.get hjp
      have l0 : b < w.heap.size := cell_lt d0
      have hsu := HSUP.out j _ hjp (List.getElem?_eq_getElem hjp)
      generalize p[j] = c at *
      have hsu1 := hsu.1
      have hsu2 := hsu.2
      clear hcv hsu d1 d2 hneg hx
      obtain ⟨g, cp, rfl⟩ := hg.out.form
      have hzr : W.heap.size ≤ wr.heap.size := hb.size
      go_wp2_with (at_builtin; refine wpList_append_own _ rfl _ _ 30 rfl W.heap.size 2 i0 (.int .i64 0) 1 8 Try.underlying30 hif hz0 hz1 hz2 rfl (by decide) _ _ _ rfl (hg.out.1.alloc _) ⟨wr.heap.size, 0, none⟩ 1 1 [.int .i64 (j : Int)] rfl rfl (cell_one_new _ _ _) (by simp [Value.oneCell']) (by unfold maxLen; omega) (by omega) (by simp; omega) ?_)
      intro v' w1 hown hgrow hnil
      have hb1 : Below W.heap.size W w1 := (hb.alloc hb.size _).grown hgrow (by simp; omega) (fun k hk => by simp [Value.ownBlock] at hk; subst hk; exact (hg.out.1.lt g rfl).1)
      have HG : Hid (Grow W.heap.size w1 v' (pre ++ [(j : Int)])) := grow_next hown (fun h => by first | exact hnil h | exact absurd (hnil.1 h).1 (by simp))
      clear hown hgrow hnil
      obtain ⟨p0, _⟩ := (cells_lowP P0.out hb1 (by have := HSZ.out; omega)).g0
      have hw1 : Below w.heap.size w w1 := hwW.trans (hb1.mono hwW.size)
      have c0 := (hw1.cell l0).trans d0
      clear hb hwr hg
      go_wp2
      go_roundw
      case rel => exact ⟨pre ++ [(j : Int)], c.super, v', rfl, rfl, hsu1, by omega, HST.out, HG.out, hb1⟩
      case measure => simp [intOf]; omega
set_option maxHeartbeats 1000000 in
theorem l5Under (B : Nat) (p : Prg) (a : Option Addr) (cap : Nat) (u0 b : Int) (hu0 : -1 ≤ u0) (hu1 : u0 < (p.length : Int)) (h6 : p.length ≤ 6) (hsup : SupOk p p.length) (w : World) (hp : SK front B w (.slice a p.length cap) p) :
    Calls Try.prog 40 #[.agg #[.slice a p.length cap], .int .i64 u0, .int .i64 b] w fun e w' => e = .returned (.bool (undB p u0 b)) ∧ Below w.heap.size w w' := by
  obtain ⟨W, hW⟩ : ∃ W, W = w.alloc (.cells #[.slice a p.length cap] 26) := ⟨_, rfl⟩
  have hwW : Below w.heap.size w W := by rw [hW]; exact (Below.refl _ _).alloc (Nat.le_refl _) _
  have HP : Hid (SK front B W (.slice a p.length cap) p) := SK.on hp (Keep.of hwW)
  have HSUP : Hid (SupOk p p.length) := hsup
  clear hp hsup
  go_enter Try.func40, Try.ntmps40
  go_wp2_with fail
  rw [← hW]
  clear hW
  refine (l5Above B p a cap u0 hu0 hu1 h6 HSUP.out _ HP.out).mono ?_
  rintro e w1 ⟨v, rfl, hg, hb1⟩
  obtain ⟨g, cp, rfl, _, _, hir, _⟩ := hg.gint
  have hw1 : Below w.heap.size w w1 := below_over hwW hb1
  have HI : Hid (IRow w1 g 0 (upL p u0)) := hir
  have hln := upL_len p u0
  clear hg hir hb1
  go_wp2_with fail
  refine (l1Has g cp (upL p u0) b (by omega) _ HI.out).mono ?_
  rintro e w2 ⟨rfl, rfl⟩
  go_wp2
  go_ret
  exact ⟨rfl, hw1⟩
theorem selF_neg (p : Prg) {u : Int} (b : Int) (h : u < 0) : selF p u b = -1 := by unfold selF; rw [upL_neg p h]; rfl
theorem selF_step {p : Prg} {n : Nat} (hs : SupOk p n) {u : Nat} (hu : u < n) (h6 : u < 6) {c : Cls} (hc : p[u]? = some c) (b : Int) : selF p (u : Int) b = if (ownF c b).isSome then (u : Int) else selF p c.super b := by
  unfold selF
  rw [upL_step hs hu h6 hc, find_step]
  have : hasM p b (u : Int) = (ownF c b).isSome := by unfold hasM; rw [Int.toNat_natCast, hc]
  rw [this]
  split <;> rfl
theorem ownI_neg (c : Cls) (name : Int) : decide (ownI c name < 0) = !(ownF c name).isSome := by
  unfold ownI ownF
  cases h : c.meths.findIdx? (fun m => decide (m.name = name)) with
  | none =>
    have h2 : c.meths.find? (fun m => decide (m.name = name)) = none := by
      rw [List.find?_eq_none]
      intro m hm
      have := (List.findIdx?_eq_none_iff.1 h) m hm
      simpa using this
    rw [h2]; rfl
  | some k =>
    have h2 : (c.meths.find? (fun m => decide (m.name = name))).isSome = true := by
      rw [List.findIdx?_eq_some_iff_getElem] at h
      obtain ⟨hk, hp, _⟩ := h
      rw [List.find?_isSome]
      exact ⟨c.meths[k], List.getElem_mem hk, hp⟩
    rw [h2]
    simp
set_option maxRecDepth 100000 in
set_option maxHeartbeats 1000000 in
theorem l5Selected (B : Nat) (p : Prg) (a : Option Addr) (cap : Nat) (u0 b : Int) (hu0 : -1 ≤ u0) (hu1 : u0 < (p.length : Int)) (hsp : SmallP p) (h6 : p.length ≤ 6) (hsup : SupOk p p.length) (w : World) (hp : SK front B w (.slice a p.length cap) p) :
    Calls Try.prog 23 #[.agg #[.slice a p.length cap], .int .i64 u0, .int .i64 b] w fun e w' => e = .returned (.int .i64 (selF p u0 b)) ∧ Below w.heap.size w w' := by
  have HP : Hid (SK front B w (.slice a p.length cap) p) := hp
  have HSUP : Hid (SupOk p p.length) := hsup
  have HSP : Hid (SmallP p) := hsp
  clear hp hsup hsp
  obtain ⟨W, hW⟩ : ∃ W, W = w.alloc (.cells #[.slice a p.length cap] 26) := ⟨_, rfl⟩
  have hwW : Below w.heap.size w W := by rw [hW]; exact (Below.refl _ _).alloc (Nat.le_refl _) _
  have P0 : Hid (Cells W w.heap.size [.slice a p.length cap]) := by rw [hW]; exact Cells.new w _ rfl _ _
  go_enter Try.func23, Try.ntmps23
  go_wp2
  rw [← hW]
  clear hW
  go_loopw [1] (fun x wr => ∃ u : Int, x = .int .i64 u ∧ -1 ≤ u ∧ u < (p.length : Int) ∧ Hid (selF p u0 b = selF p u b) ∧ Below W.heap.size W wr) (fun x _ => (intOf x + 1).toNat)
  case atStart => exact ⟨u0, rfl, hu0, hu1, rfl, Below.refl _ _⟩
  case round =>
    clear hu0 hu1
    obtain ⟨u, rfl, hu0, hu1, hx, hb⟩ := hrel
    have hwr : Below w.heap.size w wr := below_over hwW hb
    by_cases hneg : u = -1
    · have HE : Hid (selF p u0 b = -1) := by show _ = _; rw [hx.out, hneg]; exact selF_neg p b (by omega)
      subst hneg
      go_wp2
      go_ret
      exact ⟨retI HE.out.symm, hwr⟩
    · obtain ⟨j, rfl⟩ := Int.eq_ofNat_of_zero_le (show 0 ≤ u by omega)
      have hjp : j < p.length := by omega
      have hji : (j : Int) < (p.length : Int) := by omega
      have hj0 : (0 : Int) ≤ (j : Int) := by omega
      have HST : Hid (selF p u0 b = if (ownF p[j] b).isSome then (j : Int) else selF p p[j].super b) := by
        show _ = _
        rw [hx.out, selF_step HSUP.out hjp (by omega) (List.getElem?_eq_getElem hjp)]
      obtain ⟨b', o, rfl, _, vf, vm, d0, d1, d2, hcv⟩ := HP.out.get hjp
      obtain ⟨z1, t1, rfl⟩ := hcv.1.form
      obtain ⟨z2, t2, rfl⟩ := hcv.2.form
      have l0 : b' < w.heap.size := cell_lt d0
      have hsu := HSUP.out j _ hjp (List.getElem?_eq_getElem hjp)
      have HSM : Hid (SM front B w (.slice z2 p[j].meths.length t2) p[j].meths) := hcv.2
      have hsm := HSP.out.2 _ (List.getElem_mem hjp)
      have hsl := hsm.2.1
      have k0 := (hwr.cell l0).trans d0
      have k1 := (hwr.cell l0).trans d1
      have k2 := (hwr.cell l0).trans d2
      generalize p[j] = c at *
      have hsu1 := hsu.1
      have hsu2 := hsu.2
      clear hcv hsu d1 d2 hneg hx hsm
      obtain ⟨p0, _⟩ := (P0.out.on hb).g0
      go_wp2_with fail
      refine (l4Own B c z1 z2 t2 c.fields.length t1 b hsl _ (SM.on HSM.out (Keep.of hwr))).mono ?_
      rintro e w1 ⟨rfl, hb1⟩
      have hw1 : Below w.heap.size w w1 := below_over hwr hb1
      have hW1 : Below W.heap.size W w1 := below_over hb hb1
      have c0 := (hw1.cell l0).trans d0
      clear p0 k0 k1 k2
      obtain ⟨p0, _⟩ := (P0.out.on hW1).g0
      clear hb1 hb hwr
      have HO1 : Hid (ownI c b < 0 → (ownF c b).isSome = false) := fun h => by have := ownI_neg c b; rw [decide_eq_true h] at this; simpa using this.symm
      have HO2 : Hid (¬ ownI c b < 0 → (ownF c b).isSome = true) := fun h => by have := ownI_neg c b; rw [decide_eq_false h] at this; simpa using this.symm
      generalize ownI c b = oi at *
      by_cases hq : oi < 0
      · have HE : Hid (selF p u0 b = selF p c.super b) := by
          show _ = _
          rw [HST.out, HO1.out hq]; rfl
        clear HST HO1 HO2
        go_wp2
        go_roundw
        case rel => exact ⟨c.super, rfl, hsu1, by omega, HE.out, hW1⟩
        case measure => simp [intOf]; omega
      · have HE : Hid (selF p u0 b = (j : Int)) := by
          show _ = _
          rw [HST.out, HO2.out hq]; rfl
        clear HST HO1 HO2
        go_wp2
        go_ret
        exact ⟨retI HE.out.symm, hw1⟩
end Pg
end Go.Proofs.Ytcbbpmknomhedaa

/- Contracts of the program's lists of those above and below. -/
namespace Go.Proofs.Ytcbbpmknomhedaa
namespace Pg
open Go.ChangeShapes Go.WideShapes Go.ChangeAt Go.RowKit Go.Shelf St
attribute [local go_sem] Oper.semAt_some

def upA (p : Prg) (c : Int) : List Int := if okP p && inB p c then upL p c else []
def downA (p : Prg) (c : Int) : List Int := if okP p && inB p c then downL p c else []
theorem upA_len (p : Prg) (c : Int) : (upA p c).length ≤ 24 := by
  unfold upA; split
  · have := upL_len p c; omega
  · simp
theorem downL_len (p : Prg) (c : Int) (h : p.length ≤ 6) : (downL p c).length ≤ 6 := by
  unfold downL
  have h1 := List.length_filter_le (fun i => undB p i c) (allC p)
  have h2 : (allC p).length = p.length := by simp [allC]
  omega
theorem downA_len (p : Prg) (c : Int) : (downA p c).length ≤ 24 := by
  unfold downA; split
  · rename_i h
    have := downL_len p c (okP_len (okIn h).1).2; omega
  · simp
/-- A list of the caller's own, in a box. -/
def BoxL (n₀ b : Nat) (W : World) (l : List Int) : Prop := ∃ v, Boxed W b 30 v ∧ Grow n₀ W v l
theorem boxL_own {β : Type} (n₀ b : Nat) (f : β → List Int) : Own (fun (s : β) W => BoxL n₀ b W (f s)) := fun s X Y row hs hg hr => by
  obtain ⟨v, h1, h2, h3⟩ := hs
  obtain ⟨v', k1, k2, k3⟩ := holdsRow_own (β := Unit) n₀ b 30 2 1 (fun _ => (f s).length) (fun _ => nums (f s)) (fun _ v => v ≠ .slice none 0 0) () X Y row ⟨v, h1, h2, h3⟩ hg hr
  exact ⟨v', k1, k2, k3⟩
theorem BoxL.below {n₀ b : Nat} {W W' : World} {l : List Int} (h : BoxL n₀ b W l) (hb : Below W.heap.size W W') : BoxL n₀ b W' l := by
  obtain ⟨v, h1, h2⟩ := h
  exact ⟨v, (hb.block b h1.lt).trans h1, h2.on hb⟩

/-- An append onto the caller's own list, in its box: what is kept of the others' boxes. -/
theorem kp_app {W w1 : World} {n₀ bA : Nat} {bs : List Nat} {v v' : Value} {k m : Nat} {xs ys : List Value} {tmp : Obj}
    (hv : Boxed W bA 30 v) (hrow : W.ownsRow n₀ 2 1 v k xs) (hn₀ : n₀ ≤ W.heap.size) (hB : n₀ ≤ bA) (hown' : w1.ownsRow n₀ 2 1 v' m ys) (hgrow : (W.alloc tmp).grownBy w1 v.ownBlock)
    (hbs : ∀ b ∈ bs, b ≠ bA ∧ b < W.heap.size ∧ some b ≠ v.ownBlock) : Kp n₀ bs W (w1.setCell ⟨bA, 0, none⟩ v') := by
  obtain ⟨_, _, _, _, hb2⟩ := hv.appended (by decide) hrow hn₀ hB hown' hgrow
  refine ⟨hb2, fun b hb hl => ?_⟩
  obtain ⟨h1, h2, h3⟩ := hbs b hb
  rw [Below.heap_setCell w1 ⟨bA, 0, none⟩ v' b h1, hgrow.block b (by simp; omega) h3]
  exact Below.heap_alloc W tmp b hl
theorem box_prog {W : World} {bx n₀ : Nat} {v : Value} {k : Nat} {xs : List Value} {o : Value} (h : Boxed W bx 26 o) (hrow : W.ownsRow n₀ 2 1 v k xs) : some bx ≠ v.ownBlock := h.not_row (by decide) hrow
set_option maxRecDepth 100000 in
set_option maxHeartbeats 2000000 in
theorem implAboveOf (B : Nat) (p : Prg) (a : Option Addr) (cap : Nat) (t : Int) (hsp : SmallP p) (w : World) (hp : SK front B w (.slice a p.length cap) p) :
    Calls Try.prog 15 #[.agg #[.slice a p.length cap], .int .i64 t] w fun e w' => ∃ v, e = .returned v ∧ Grow w.heap.size w' v (upA p t) ∧ Below w.heap.size w w' := by
  obtain ⟨i0, hif, hz0, hz1, hz2⟩ := info_parts infoN
  have HP : Hid (SK front B w (.slice a p.length cap) p) := hp
  have HSP : Hid (SmallP p) := hsp
  clear hp hsp
  obtain ⟨V, hV⟩ : ∃ V, V = (w.alloc (.cells #[.slice a p.length cap] 26)).alloc (.cells #[] 2) := ⟨_, rfl⟩
  have GV : Hid (Grow w.heap.size V (.slice (some ⟨w.heap.size + 1, 0, none⟩) 0 0) []) := by
    have h := (grow_start (w.alloc (.cells #[.slice a p.length cap] 26))).base' (B' := w.heap.size) (by simp)
    simp only [World.size_alloc] at h
    rw [hV]; exact h
  have HZV : Hid (V.heap.size = w.heap.size + 1 + 1) := by show _ = _; rw [hV]; simp
  obtain ⟨Y, hY⟩ : ∃ Y, Y = V.alloc (.cells #[.slice (some ⟨w.heap.size + 1, 0, none⟩) 0 0] 30) := ⟨_, rfl⟩
  have hwY : Below w.heap.size w Y := by rw [hY, hV]; exact (((Below.refl _ w).alloc (Nat.le_refl _) _).alloc (by simp) _).alloc (by simp; omega) _
  have PY : Hid (Boxed Y w.heap.size 26 (.slice a p.length cap)) := by rw [hY, hV]; exact ((Boxed.new w _ _).alloc _).alloc _
  have AY : Hid (BoxL w.heap.size (w.heap.size + 1 + 1) Y []) := by
    rw [hY]
    refine ⟨_, ?_, GV.out.on ((Below.refl _ _).alloc (Nat.le_refl _) _)⟩
    have h := Boxed.new V 30 (.slice (some ⟨w.heap.size + 1, 0, none⟩) 0 0)
    rw [HZV.out] at h
    exact h
  refine (callsIn_wide (n := 4)).1 ?_
  refine callsIn_of_wp_marks Try.func15 rfl trivial ?_ rfl
  simp only [Try.ntmps15, List.size_toArray, List.length_cons, List.length_nil, Nat.reduceAdd, Nat.reduceSub, Array.replicate_succ, Array.replicate_zero, List.push_toArray, List.append_toArray, List.nil_append, List.cons_append]
  gi_wp2_with fail
  rw [← hV, ← hY]
  clear hV hY GV HZV
  refine ⟨trivial, ?_⟩
  refine (callsIn_wide.2 (isRightClass B p a cap t HSP.out Y (SK.on HP.out (Keep.of hwY)))).mono ?_
  rintro e w1 ⟨rfl, hb1⟩
  have hw1 : Below w.heap.size w w1 := below_over hwY hb1
  have P1 : Hid (Boxed w1 w.heap.size 26 (.slice a p.length cap)) := (hb1.block _ PY.out.lt).trans PY.out
  have A1 : Hid (BoxL w.heap.size (w.heap.size + 1 + 1) w1 []) := AY.out.below hb1
  have p1 := P1.out.cell
  clear PY AY hb1 hwY
  cases hok : (okP p && inB p t)
  · have HN : Hid (upA p t = []) := by show _ = _; unfold upA; rw [hok]; rfl
    obtain ⟨v, hv, hg⟩ := A1.out
    have c1 := hv.cell
    have HG : Hid (Grow w.heap.size w1 v []) := hg
    clear hg
    gi_wp2
    refine ⟨_, results_tmp rfl _ _ _, v, rfl, by rw [HN.out]; exact HG.out, hw1⟩
  · have HN : Hid (upA p t = upL p t) := by show _ = _; unfold upA; rw [hok]; rfl
    obtain ⟨hk, h0, h1⟩ := okIn hok
    have h6 := (okP_len hk).2
    have HSU : Hid (SupOk p p.length) := okP_sup hk
    clear hk hok
    have hlw : w.heap.size + 1 + 1 < w1.heap.size := by obtain ⟨v, hv, _⟩ := A1.out; exact hv.lt
    gi_wp2_with (refine ⟨trivial, ?_⟩; gi_at_call 28; refine (upFrom_in _ a p.length cap t _).mono ?_; rintro e w' ⟨rfl, rfl⟩)
    have b3 := Boxed.new w1 26 (.slice a p.length cap)
    have b4 := Boxed.new (w1.alloc (.cells #[.slice a p.length cap] 26)) 2 (.int .i64 t)
    simp only [World.size_alloc] at b4
    have hbZ : Below w1.heap.size w1 ((w1.alloc (.cells #[.slice a p.length cap] 26)).alloc (.cells #[.int .i64 t] 2)) := ((Below.refl _ w1).alloc (Nat.le_refl _) _).alloc (by simp) _
    have hB0 : Below w.heap.size w ((w1.alloc (.cells #[.slice a p.length cap] 26)).alloc (.cells #[.int .i64 t] 2)) := below_over hw1 hbZ
    have A2 : Hid (BoxL w.heap.size (w.heap.size + 1 + 1) ((w1.alloc (.cells #[.slice a p.length cap] 26)).alloc (.cells #[.int .i64 t] 2)) []) := A1.out.below hbZ
    have hzw := hw1.size
    refine wpIn_rangeFunc_ownF rfl (show 1 ≤ 4 by omega) (gf := 43) (lb := #[.pointer (some ⟨w1.heap.size + 1, 0, none⟩), .pointer (some ⟨w1.heap.size, 0, none⟩)]) rfl trivial (enters_of Try.func43 (by kernel_rfl) rfl)
      (up_stops _ (by omega) (w1.heap.size + 1) w1.heap.size B p a cap t (by omega) h1 h6 HSU.out w _ HP.out hB0 b4.cell (b3.alloc _)) kp_t (kp_b (by simp; omega) (by simp; omega)) (Below.refl _ _) (fun _ => rfl)
      (fun pre W => (BoxL w.heap.size (w.heap.size + 1 + 1) W pre ∧ Boxed W w1.heap.size 26 (.slice a p.length cap)) ∧ Below w.heap.size w W)
      (fun _ _ _ => False)
      (OwnFrom.and (Own.from (fun s X Y row hs hg hr => ⟨boxL_own w.heap.size (w.heap.size + 1 + 1) (fun x : List Int => x) s X Y row hs.1 hg hr, boxed_own w1.heap.size 26 (fun _ : List Int => .slice a p.length cap) s X Y row hs.2 hg hr⟩) _) (ownFrom_below (Nat.le_refl _) (by simp; omega)))
      (fun _ _ _ _ _ hs _ _ => hs)
      ⟨⟨A2.out, b3.alloc _⟩, hB0⟩
      (fun x => { tmps := #[.agg #[.slice a p.length cap], .int .i64 t, .pointer (some ⟨w.heap.size, 0, none⟩), undef, .slice none 0 0, .pointer (some ⟨w.heap.size + 1 + 1, 0, none⟩), .int .i64 x, .slice (some ⟨w.heap.size + 1, 0, none⟩) 0 0, .agg #[.slice a p.length cap], .int .i64 t, .bool true, .bool false, undef, .agg #[.slice a p.length cap], .int .i64 t, .func (.func 43) #[] #[.pointer (some ⟨w1.heap.size + 1, 0, none⟩), .pointer (some ⟨w1.heap.size, 0, none⟩)], .int .i64 x, undef, undef, undef, undef, undef], defers := [] }) ?assign ?body ?done ?stop
    case assign =>
      intro l x W K hK
      gi_wp2
      exact hK
    case body =>
      rintro l pre x W ⟨⟨⟨v, hv, hg⟩, hbx⟩, hB⟩ hlt
      obtain ⟨g, cp, rfl⟩ := hg.form
      have hc := hv.cell
      gi_wp2_with (gi_at_builtin; refine wpListIn_append_own _ rfl _ _ 30 rfl w.heap.size 2 i0 (.int .i64 0) 1 8 Try.underlying30 hif hz0 hz1 hz2 rfl (by decide) _ _ _ rfl (hg.1.alloc _) ⟨W.heap.size, 0, none⟩ 1 1 [.int .i64 x] rfl rfl (cell_one_new _ _ _) (by simp [Value.oneCell']) (by unfold maxLen; omega) (by omega) (by have := hB.size; simp; omega) ?_; intro v' w2 hown' hgrow hnil; obtain ⟨g', cap', rfl⟩ := ownsRow_succ hown'; obtain ⟨hv1, hv2, hr2, hk2, hb2⟩ := hv.appended (by decide) hg.1 hB.size (by omega) hown' hgrow; have hc1 := hv1.cell; have hf1 := hv1.frozen)
      exact ⟨hk2, kp_app hv hg.1 hB.size (by omega) hown' hgrow (by simp; exact ⟨by omega, hbx.lt, box_prog hbx hg.1⟩), ⟨⟨_, hv2, grow_next hr2 (by simp)⟩, ((kp_app (bs := [w1.heap.size]) hv hg.1 hB.size (by omega) hown' hgrow (by simp; exact ⟨by omega, hbx.lt, box_prog hbx hg.1⟩)).boxed (by simp) hbx)⟩, hB.trans hb2⟩
    case done =>
      rintro D ys W hD hys ⟨⟨⟨v, hv, hg⟩, _⟩, hB⟩ hK
      have hc := hv.cell
      gi_wp2
      refine ⟨by simp, .inl ⟨_, _, rfl, run_takeDeferred hK, ?_⟩⟩
      refine ⟨_, results_tmp rfl _ _ _, v, rfl, ?_, hB.trans (belowK_b (w := w) (Nat.le_refl _) W D _ _ (by simp at hD; omega) hK rfl rfl)⟩
      rw [HN.out, ← hys]
      exact ⟨ownsRow_putObj hg.1 _ hK rfl, hg.2⟩
    case stop =>
      rintro D c pre W _ _ h _
      exact h.elim
end Pg
end Go.Proofs.Ytcbbpmknomhedaa
