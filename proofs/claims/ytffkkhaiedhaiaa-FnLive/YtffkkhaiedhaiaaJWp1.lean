/- The contract of the draw of any code. -/
import Derived.Test.YtffkkhaiedhaiaaJDr5
import Derived.Deep.LoopGhost
import Derived.WalkMore
import Derived.Test.YtffkkhaiedhaiaaJLay
import Derived.Lib.QuietBelow
import Derived.Test.YtffkkhaiedhaiaaJRn0
namespace Go.Proofs.Ytffkkhaiedhaiaa
namespace Cu
open Go.ChangeShapes Go.WideShapes Go.ChangeAt Go.RowKit St

/-- Three cells of a step written anew. -/
theorem row_set {w : World} {g k : Nat} {l : List Tx.Ins} (x : Tx.Ins) (hk : k < l.length) (hroom : Room w g (l.length * 3)) (hr : Row w g 0 l) :
    Row (((w.setCell ⟨g, k * 3, none⟩ (.int .i64 x.1)).setCell ⟨g, k * 3 + 1, none⟩ (.int .i64 x.2.1)).setCell ⟨g, k * 3 + 2, none⟩ (.int .i64 x.2.2)) g 0 (l.set k x) := by
  have ne : ∀ a b : Nat, a ≠ b → (⟨g, a, none⟩ : Addr) ≠ ⟨g, b, none⟩ := fun a b h e => h (congrArg Addr.off e)
  obtain ⟨⟨x0, h0⟩, _⟩ := hroom (k * 3) (by omega)
  obtain ⟨⟨x1, h1⟩, _⟩ := hroom (k * 3 + 1) (by omega)
  obtain ⟨⟨x2, h2⟩, _⟩ := hroom (k * 3 + 2) (by omega)
  have far : ∀ i, i < k * 3 ∨ k * 3 + 2 < i → ∀ u, w.cell? ⟨g, i, none⟩ = some u → (((w.setCell ⟨g, k * 3, none⟩ (.int .i64 x.1)).setCell ⟨g, k * 3 + 1, none⟩ (.int .i64 x.2.1)).setCell ⟨g, k * 3 + 2, none⟩ (.int .i64 x.2.2)).cell? ⟨g, i, none⟩ = some u := by
    intro i hi u hu
    rw [World.cell?_setCell_other _ _ _ _ (ne _ _ (by omega)), World.cell?_setCell_other _ _ _ _ (ne _ _ (by omega)), World.cell?_setCell_other _ _ _ _ (ne _ _ (by omega))]
    exact hu
  have g1 : (w.setCell ⟨g, k * 3, none⟩ (.int .i64 x.1)).cell? ⟨g, k * 3 + 1, none⟩ = some x1 := (World.cell?_setCell_other _ _ _ _ (ne _ _ (by omega))).trans h1
  have g2 : ((w.setCell ⟨g, k * 3, none⟩ (.int .i64 x.1)).setCell ⟨g, k * 3 + 1, none⟩ (.int .i64 x.2.1)).cell? ⟨g, k * 3 + 2, none⟩ = some x2 := by
    rw [World.cell?_setCell_other _ _ _ _ (ne _ _ (by omega)), World.cell?_setCell_other _ _ _ _ (ne _ _ (by omega))]
    exact h2
  intro j y hj
  rw [List.getElem?_set] at hj
  split at hj
  · rename_i e
    subst e
    simp at hj
    subst hj
    rw [Nat.zero_add]
    refine ⟨?_, ?_, ?_⟩
    · rw [World.cell?_setCell_other _ _ _ _ (ne _ _ (by omega)), World.cell?_setCell_other _ _ _ _ (ne _ _ (by omega))]
      exact World.cell?_setCell_same _ _ _ h0
    · rw [World.cell?_setCell_other _ _ _ _ (ne _ _ (by omega))]
      exact World.cell?_setCell_same _ _ _ g1
    · exact World.cell?_setCell_same _ _ _ g2
  · rename_i e
    obtain ⟨a0, a1, a2⟩ := hr j y hj
    rw [Nat.zero_add] at a0 a1 a2 ⊢
    exact ⟨far _ (by omega) _ a0, far _ (by omega) _ a1, far _ (by omega) _ a2⟩
theorem got_set {B k : Nat} {w : World} {g cp : Nat} {l : List Tx.Ins} (x : Tx.Ins) (hk : k < l.length) (hroom : Room w g (l.length * 3)) (hr : Row w g 0 l) (hB : B ≤ g) (hg : g < w.heap.size) :
    Got B (((w.setCell ⟨g, k * 3, none⟩ (.int .i64 x.1)).setCell ⟨g, k * 3 + 1, none⟩ (.int .i64 x.2.1)).setCell ⟨g, k * 3 + 2, none⟩ (.int .i64 x.2.2)) (.slice (some ⟨g, 0, none⟩) l.length cp) (l.set k x) := by
  refine ⟨g, cp, by rw [List.length_set], hB, ?_, row_set x hk hroom hr, ?_⟩
  · have := (((Below.refl 0 w).setCell (p := ⟨g, k * 3, none⟩) (Nat.zero_le _) (.int .i64 x.1)).setCell (p := ⟨g, k * 3 + 1, none⟩) (Nat.zero_le _) (.int .i64 x.2.1)).setCell (p := ⟨g, k * 3 + 2, none⟩) (Nat.zero_le _) (.int .i64 x.2.2)
    exact Nat.lt_of_lt_of_le hg this.size
  · rw [List.length_set]
    exact ((hroom.set _ _).set _ _).set _ _

set_option maxRecDepth 100000 in
set_option maxHeartbeats 4000000 in
theorem drawAnyC_cur (B c : Nat) (w : World) (a : Option Addr) (len cap : Nat) (h : Cur B w c a len cap) :
    Calls Try.prog 35 #[.pointer (some ⟨c, 0, none⟩)] w fun e w' => DrewC B w w c a len cap 41 e w' := by
  obtain ⟨i0, hi, hz0, hz1, hz2⟩ := info_parts infoI
  have hcw : c < w.heap.size := h.2.1
  have hBc : B ≤ c := h.1
  have H : Hid (Cur B w c a len cap) := h
  clear h
  go_enter Try.func35, Try.ntmps35
  go_wp2_with fail
  refine (once_at B c _ _ a len cap _ (At.start H.out)).mono ?_
  rintro e w1 ⟨q, rfl, h1⟩
  have H1 : Hid (At B w w1 c a len cap) := h1
  clear h1 H
  cases q
  · go_wp2_with fail
    refine (drawCode_cur B c _ a len cap H1.out.2).mono ?_
    rintro e w2 ⟨x, l, rfl, hg, hl, hf, h2⟩
    have HF : Hid (Fits l) := hf
    clear hf
    have HG : Hid (Got w1.heap.size w2 x l) := hg
    have H2 : Hid (At B w w2 c a len cap) := H1.out.step h2
    clear hg h2
    go_wp2
    go_ret
    exact ⟨_, l, rfl, HG.out.base H1.out.size, by omega, HF.out, H2.out⟩
  · go_wp2_with fail
    refine (below_at B c w _ a len cap _ H1.out).mono ?_
    rintro e w2 ⟨r, rfl, hr0, _, hr2, _, h2⟩
    have hr := hr2 (by omega)
    have H2 : Hid (At B w w2 c a len cap) := h2
    have hs2 : w.heap.size ≤ w2.heap.size := H2.out.size
    clear h2 hr2 H1
    go_wp2
    go_loopw [4, 5] (fun v i wr => ∃ (k : Nat) (v0 : Value) (lk : List Tx.Ins), (k : Int) ≤ 1 + r ∧ i = .int .i64 k ∧ v0 = v ∧ Hid (lk.length = k) ∧ Hid (Fits lk) ∧ Hid (wr.ownsRow w.heap.size 76 3 v0 lk.length (flat lk)) ∧ Hid (v0 ≠ .slice none 0 0) ∧ Hid (At B w wr c a len cap)) (fun _ i _ => (1 + r).toNat - (intOf i).toNat)
    case atStart => exact ⟨0, _, [], by omega, rfl, rfl, rfl, trivial, own_base (World.ownsRow_made w2 #[] 0 (Nat.le_refl _) (by decide) (by simp)) hs2, by show _ ≠ _; simp, H2.out.alloc _⟩
    case round =>
      obtain ⟨k, v, lk, hk, rfl, rfl, hlk, hfit, hown, hvn, hat⟩ := hrel
      clear H2
      by_cases hlt : (k : Int) < 1 + r
      · go_wp2_with fail
        refine (drawInsn_at B c _ _ a len cap _ (At.start hat.out.2)).mono ?_
        rintro e w3 ⟨op, x, y, rfl, bo, bx, by', h3⟩
        have HFX : Hid (Fits (lk ++ [(op, x, y)])) := hfit.out.append ⟨⟨bx, by'⟩, trivial⟩
        have HO3 : Hid (w3.ownsRow w.heap.size 76 3 v lk.length (flat lk)) := own_touch hown.out h3.1 hcw
        have HA3 : Hid (At B w w3 c a len cap) := hat.out.step h3
        have hs3 : w.heap.size ≤ w3.heap.size := HA3.out.size
        clear h3 hown hat
        have hlk8 : lk.length ≤ 10 := by have := hlk.out; omega
        go_wp2_with (at_builtin; refine wpList_append_own _ rfl _ _ 24 rfl w.heap.size 76 i0 (.agg #[.int .i64 0, .int .i64 0, .int .i64 0]) 3 24 Try.underlying24 hi hz0 hz1 hz2 rfl (by decide) _ _ _ rfl (HO3.out.alloc _) ⟨w3.heap.size, 0, none⟩ 1 1 (flat [(op, x, y)]) rfl rfl (lit_flat w3 [(op, x, y)] _ _ rfl) (flat_one _) (by unfold maxLen; omega) (by omega) (by simp; omega) ?_)
        intro v' w4 hown' hgrow hnil
        have hb4 : Below w.heap.size w3 w4 := ((Below.refl _ _).alloc hs3 _).grown hgrow (by simp; omega) (fun g hg => (HO3.out.lt g hg).1)
        have HA4 : Hid (At B w w4 c a len cap) := HA3.out.low hcw hb4
        have HV : Hid (v' ≠ .slice none 0 0) := fun h => by first | exact hnil h | exact absurd (hnil.1 h).1 (by simp)
        have HW : Hid (w4.ownsRow w.heap.size 76 3 v' (lk.length + 1) (flat lk ++ flat [(op, x, y)])) := hown'
        clear hown' hgrow hnil HO3 HA3 hb4
        go_wp2
        go_roundw
        case rel =>
          refine ⟨k + 1, v', lk ++ [(op, x, y)], by omega, by go_num, rfl, ?_, HFX.out, ?_, HV.out, HA4.out⟩
          · show _ = _
            have := hlk.out
            simp only [List.length_append, List.length_cons, List.length_nil]
            omega
          · show w4.ownsRow _ _ _ _ _ _
            rw [flat_append, List.length_append]; exact HW.out
        case measure => simp [intOf]; omega
      · have hlkr : Hid ((lk.length : Int) = 1 + r) := by
          show _ = _
          have := hlk.out
          omega
        have hlk10 : lk.length ≤ 10 := by have := hlk.out; omega
        clear hlk
        go_wp2_with fail
        refine (once_at B c _ _ a len cap _ (At.start hat.out.2)).mono ?_
        rintro e w3 ⟨q2, rfl, h3⟩
        have HG3 : Hid (Got w.heap.size w3 v lk) := got_of (own_touch hown.out h3.1 hcw) hvn.out
        have HA3 : Hid (At B w w3 c a len cap) := hat.out.step h3
        clear h3 hown hat hvn
        cases q2
        · have HGT := HG3
          have HAT := HA3
          clear HG3 HA3
          go_wp2_with fail
          refine (once_at B c _ _ a len cap _ (At.start HAT.out.2)).mono ?_
          rintro e w6 ⟨q3, rfl, h6⟩
          have HG6 : Hid (Got w.heap.size w6 v lk) := got_touch HGT.out h6.1 hcw
          have HA6 : Hid (At B w w6 c a len cap) := HAT.out.step h6
          have hs6 : w.heap.size ≤ w6.heap.size := HA6.out.size
          clear h6 HGT HAT
          cases q3
          · go_wp2
            go_ret
            exact ⟨_, lk, rfl, HG6.out, by omega, hfit.out, HA6.out⟩
          · clear HG6
            go_wp2_with (at_make; refine wpList_make_full _ rfl _ _ 24 rfl w6.heap.size 76 i0 (.agg #[.int .i64 0, .int .i64 0, .int .i64 0]) 3 Try.underlying24 hi hz0 hz1 .i64 .i64 _ _ 0 rfl rfl rfl rfl (by omega) (by unfold maxLen; omega) (Nat.le_refl _) ?_; intro w7 hown7 hgrow7)
            have hb7 : Below w.heap.size w6 w7 := (Below.refl _ _).grown hgrow7 hs6 (fun _ h => by simp at h)
            have HA7 : Hid (At B w w7 c a len cap) := HA6.out.low hcw hb7
            have HO7 : Hid (w7.ownsRow w.heap.size 76 3 (.slice (some ⟨w6.heap.size, 0, none⟩) 0 0) ([] : List Tx.Ins).length (flat [])) := by
              show World.ownsRow _ _ _ _ _ _ _
              refine own_base ?_ hs6
              simpa [madeCells, flat] using hown7
            clear hown7 hgrow7 hb7 HA6
            generalize w6.heap.size = g7 at *
            go_wp2_with fail
            go_loopg [4] 41 (fun n v wr => ∃ (v0 : Value) (lk : List Tx.Ins), v0 = v ∧ Hid (lk.length + n = 41) ∧ Hid (Fits lk) ∧ Hid (wr.ownsRow w.heap.size 76 3 v0 lk.length (flat lk)) ∧ Hid (v0 ≠ .slice none 0 0) ∧ Hid (At B w wr c a len cap))
            case atStart => exact ⟨_, [], rfl, rfl, trivial, HO7.out, by show _ ≠ _; simp, HA7.out⟩
            case round =>
              clear HO7 HA7
              obtain ⟨v, lk, rfl, hlk, hfit, hown, hvn, hat⟩ := hrel
              obtain ⟨gv, cv, rfl, hBv⟩ := own_shape hown.out hvn.out
              have hlk41 : lk.length ≤ 41 := by have := hlk.out; omega
              clear hvn
              go_wp2_with fail
              refine (below_at B c _ _ a len cap _ (At.start hat.out.2)).mono ?_
              rintro e w8 ⟨r8, rfl, h80, _, h82, _, h8⟩
              have hr8 := h82 (by omega)
              have HO8 : Hid (w8.ownsRow w.heap.size 76 3 (.slice (some ⟨gv, 0, none⟩) lk.length cv) lk.length (flat lk)) := own_touch hown.out h8.1 hcw
              have HA8 : Hid (At B w w8 c a len cap) := hat.out.step h8
              have hs8 : w.heap.size ≤ w8.heap.size := HA8.out.size
              clear h8 h82 hown hat
              by_cases hlt : (lk.length : Int) < 40 + r8
              · go_wp2_with (at_builtin; refine wpList_append_own _ rfl _ _ 24 rfl w.heap.size 76 i0 (.agg #[.int .i64 0, .int .i64 0, .int .i64 0]) 3 24 Try.underlying24 hi hz0 hz1 hz2 rfl (by decide) _ _ _ rfl (HO8.out.alloc _) ⟨w8.heap.size, 0, none⟩ 1 1 (flat [(10, 0, 0)]) rfl rfl (lit_flat w8 [(10, 0, 0)] _ _ rfl) (flat_one _) (by unfold maxLen; omega) (by omega) (by simp; omega) ?_)
                intro v' w9 hown' hgrow hnil
                have hb9 : Below w.heap.size w8 w9 := ((Below.refl _ _).alloc hs8 _).grown hgrow (by simp; omega) (fun g hg => (HO8.out.lt g hg).1)
                have HA9 : Hid (At B w w9 c a len cap) := HA8.out.low hcw hb9
                have HV : Hid (v' ≠ .slice none 0 0) := fun h => by first | exact hnil h | exact absurd (hnil.1 h).1 (by simp)
                have HW : Hid (w9.ownsRow w.heap.size 76 3 v' (lk.length + 1) (flat lk ++ flat [(10, 0, 0)])) := hown'
                clear hown' hgrow hnil HO8 HA8 hb9
                go_wp2_with fail
                go_roundg (40 - lk.length)
                case measure => have := hlk.out; omega
                case rel =>
                  refine ⟨v', lk ++ [(10, 0, 0)], rfl, ?_, hfit.out.append (by simp only [Fits, FitsI, and_true]; omega), ?_, HV.out, HA9.out⟩
                  · show _ = _
                    have := hlk.out
                    simp only [List.length_append, List.length_cons, List.length_nil]
                    omega
                  · show w9.ownsRow _ _ _ _ _ _
                    rw [flat_append, List.length_append]; exact HW.out
              · go_wp2
                go_ret
                exact ⟨_, lk, rfl, got_of HO8.out (by simp), by omega, hfit.out, HA8.out⟩
        · go_wp2_with fail
          refine (below_at B c _ _ a len cap _ (At.start HA3.out.2)).mono ?_
          rintro e w4 ⟨r4, rfl, h40, _, h42, _, h4⟩
          have hr4 := h42 (by omega)
          have HG4 : Hid (Got w.heap.size w4 v lk) := got_touch HG3.out h4.1 hcw
          have HA4 : Hid (At B w w4 c a len cap) := HA3.out.step h4
          clear h4 h42 HG3 HA3
          go_wp2_with fail
          refine (drawAnyI_at B c _ _ a len cap (At.start HA4.out.2)).mono ?_
          rintro e w5 ⟨op, x, y, rfl, bo, bx, by', h5⟩
          have HFB : Hid (FitsI (op, x, y)) := ⟨bx, by'⟩
          obtain ⟨gv, cv, rfl, hBv, hgl, hrow, hroom⟩ := got_touch HG4.out h5.1 hcw
          have HA5 : Hid (At B w w5 c a len cap) := HA4.out.step h5
          clear h5 HG4 HA4
          obtain ⟨k4, rfl⟩ := Int.eq_ofNat_of_zero_le h40
          have hk4 : k4 < lk.length := by have := hlkr.out; omega
          have hk4i : (k4 : Int) < (lk.length : Int) := by omega
          obtain ⟨⟨x0, d0⟩, f0⟩ := hroom (k4 * 3) (by omega)
          obtain ⟨⟨x1, d1⟩, f1⟩ := hroom (k4 * 3 + 1) (by omega)
          obtain ⟨⟨x2, d2⟩, f2⟩ := hroom (k4 * 3 + 2) (by omega)
          have HGT : Hid (Got w.heap.size (((w5.setCell ⟨gv, k4 * 3, none⟩ (.int .i64 op)).setCell ⟨gv, k4 * 3 + 1, none⟩ (.int .i64 x)).setCell ⟨gv, k4 * 3 + 2, none⟩ (.int .i64 y)) (.slice (some ⟨gv, 0, none⟩) lk.length cv) (lk.set k4 (op, x, y))) := got_set (op, x, y) hk4 hroom hrow hBv hgl
          have HAT : Hid (At B w (((w5.setCell ⟨gv, k4 * 3, none⟩ (.int .i64 op)).setCell ⟨gv, k4 * 3 + 1, none⟩ (.int .i64 x)).setCell ⟨gv, k4 * 3 + 2, none⟩ (.int .i64 y)) c a len cap) :=
            ⟨((HA5.out.1.setNew (p := ⟨gv, k4 * 3, none⟩) hBv _).setNew (p := ⟨gv, k4 * 3 + 1, none⟩) hBv _).setNew (p := ⟨gv, k4 * 3 + 2, none⟩) hBv _, ((HA5.out.2.setFar (p := ⟨gv, k4 * 3, none⟩) (by simp; omega) (by simp; omega) _).setFar (p := ⟨gv, k4 * 3 + 1, none⟩) (by simp; omega) (by simp; omega) _).setFar (p := ⟨gv, k4 * 3 + 2, none⟩) (by simp; omega) (by simp; omega) _⟩
          clear HA5 hrow hroom
          have HFS : Hid (Fits (lk.set k4 (op, x, y))) := hfit.out.set k4 HFB.out
          have hset : (lk.set k4 (op, x, y)).length = lk.length := List.length_set
          have HSET : Hid (lk.length = (lk.set k4 (op, x, y)).length) := hset.symm
          clear hset
          go_wp2_with fail
          refine (once_at B c _ _ a len cap _ (At.start HAT.out.2)).mono ?_
          rintro e w6 ⟨q3, rfl, h6⟩
          have HG6 : Hid (Got w.heap.size w6 (.slice (some ⟨gv, 0, none⟩) lk.length cv) (lk.set k4 (op, x, y))) := got_touch HGT.out h6.1 hcw
          have HA6 : Hid (At B w w6 c a len cap) := HAT.out.step h6
          have hs6 : w.heap.size ≤ w6.heap.size := HA6.out.size
          clear h6 HGT HAT
          cases q3
          · go_wp2
            go_ret
            exact ⟨_, _, rfl, HG6.out, by rw [← HSET.out]; omega, HFS.out, HA6.out⟩
          · clear HG6
            go_wp2_with (at_make; refine wpList_make_full _ rfl _ _ 24 rfl w6.heap.size 76 i0 (.agg #[.int .i64 0, .int .i64 0, .int .i64 0]) 3 Try.underlying24 hi hz0 hz1 .i64 .i64 _ _ 0 rfl rfl rfl rfl (by omega) (by unfold maxLen; omega) (Nat.le_refl _) ?_; intro w7 hown7 hgrow7)
            have hb7 : Below w.heap.size w6 w7 := (Below.refl _ _).grown hgrow7 hs6 (fun _ h => by simp at h)
            have HA7 : Hid (At B w w7 c a len cap) := HA6.out.low hcw hb7
            have HO7 : Hid (w7.ownsRow w.heap.size 76 3 (.slice (some ⟨w6.heap.size, 0, none⟩) 0 0) ([] : List Tx.Ins).length (flat [])) := by
              show World.ownsRow _ _ _ _ _ _ _
              refine own_base ?_ hs6
              simpa [madeCells, flat] using hown7
            clear hown7 hgrow7 hb7 HA6
            generalize w6.heap.size = g7 at *
            go_wp2_with fail
            go_loopg [4] 41 (fun n v wr => ∃ (v0 : Value) (lk : List Tx.Ins), v0 = v ∧ Hid (lk.length + n = 41) ∧ Hid (Fits lk) ∧ Hid (wr.ownsRow w.heap.size 76 3 v0 lk.length (flat lk)) ∧ Hid (v0 ≠ .slice none 0 0) ∧ Hid (At B w wr c a len cap))
            case atStart => exact ⟨_, [], rfl, rfl, trivial, HO7.out, by show _ ≠ _; simp, HA7.out⟩
            case round =>
              clear HO7 HA7
              clear HSET HFS HFB hfit hlkr hk4 hk4i d0 d1 d2 f0 f1 f2
              clear hlk10 hgl
              obtain ⟨v, lk, rfl, hlk, hfit, hown, hvn, hat⟩ := hrel
              obtain ⟨gz, cz, rfl, hBz⟩ := own_shape hown.out hvn.out
              have hlk41 : lk.length ≤ 41 := by have := hlk.out; omega
              clear hvn
              go_wp2_with fail
              refine (below_at B c _ _ a len cap _ (At.start hat.out.2)).mono ?_
              rintro e w8 ⟨r8, rfl, h80, _, h82, _, h8⟩
              have hr8 := h82 (by omega)
              have HO8 : Hid (w8.ownsRow w.heap.size 76 3 (.slice (some ⟨gz, 0, none⟩) lk.length cz) lk.length (flat lk)) := own_touch hown.out h8.1 hcw
              have HA8 : Hid (At B w w8 c a len cap) := hat.out.step h8
              have hs8 : w.heap.size ≤ w8.heap.size := HA8.out.size
              clear h8 h82 hown hat
              by_cases hlt : (lk.length : Int) < 40 + r8
              · go_wp2_with (at_builtin; refine wpList_append_own _ rfl _ _ 24 rfl w.heap.size 76 i0 (.agg #[.int .i64 0, .int .i64 0, .int .i64 0]) 3 24 Try.underlying24 hi hz0 hz1 hz2 rfl (by decide) _ _ _ rfl (HO8.out.alloc _) ⟨w8.heap.size, 0, none⟩ 1 1 (flat [(10, 0, 0)]) rfl rfl (lit_flat w8 [(10, 0, 0)] _ _ rfl) (flat_one _) (by unfold maxLen; omega) (by omega) (by simp; omega) ?_)
                intro v' w9 hown' hgrow hnil
                have hb9 : Below w.heap.size w8 w9 := ((Below.refl _ _).alloc hs8 _).grown hgrow (by simp; omega) (fun g hg => (HO8.out.lt g hg).1)
                have HA9 : Hid (At B w w9 c a len cap) := HA8.out.low hcw hb9
                have HV : Hid (v' ≠ .slice none 0 0) := fun h => by first | exact hnil h | exact absurd (hnil.1 h).1 (by simp)
                have HW : Hid (w9.ownsRow w.heap.size 76 3 v' (lk.length + 1) (flat lk ++ flat [(10, 0, 0)])) := hown'
                clear hown' hgrow hnil HO8 HA8 hb9
                go_wp2_with fail
                go_roundg (40 - lk.length)
                case measure => have := hlk.out; omega
                case rel =>
                  refine ⟨v', lk ++ [(10, 0, 0)], rfl, ?_, hfit.out.append (by simp only [Fits, FitsI, and_true]; omega), ?_, HV.out, HA9.out⟩
                  · show _ = _
                    have := hlk.out
                    simp only [List.length_append, List.length_cons, List.length_nil]
                    omega
                  · show w9.ownsRow _ _ _ _ _ _
                    rw [flat_append, List.length_append]; exact HW.out
              · go_wp2
                go_ret
                exact ⟨_, lk, rfl, got_of HO8.out (by simp), by omega, hfit.out, HA8.out⟩
end Cu
end Go.Proofs.Ytffkkhaiedhaiaa

/- The laws' own has and rises over rows of numbers. -/
namespace Go.Proofs.Ytffkkhaiedhaiaa
namespace St
open Go.ChangeShapes Go.WideShapes Go.ChangeAt Go.RowKit

end St
end Go.Proofs.Ytffkkhaiedhaiaa

/- Contracts: the draws of the law of the ways, and the program of one code. -/
namespace Go.Proofs.Ytffkkhaiedhaiaa
namespace Pg
open Go.ChangeShapes Go.WideShapes Go.ChangeAt Go.RowKit St

set_option maxHeartbeats 800000 in
theorem drawCodeW_at (B : Nat) (w : World) (a : Option Addr) (len cap : Nat) (hB : Cu.Bytes B w a len) (hs : B ≤ w.heap.size) :
    Calls Try.prog 41 #[.slice a len cap] w fun e w' => ∃ g cl l, e = .returned (.slice (some ⟨g, 0, none⟩) l.length cl) ∧ Row w' g 0 l ∧ Room w' g (l.length * 3) ∧ g < w'.heap.size ∧ l.length ≤ 41 ∧ Below w.heap.size w w' := by
  go_enter Try.func41, Try.ntmps41
  go_wp2_with fail
  refine (Cu.new_at B _ a len cap hB hs).mono ?_
  rintro e w1 ⟨c, rfl, hc, hb1, h1⟩
  have H1 : Hid (Cu.Cur B w1 c a len cap) := h1
  clear h1 hB
  go_wp2_with fail
  refine (Cu.drawAnyC_cur B c _ a len cap H1.out).mono ?_
  rintro e w2 ⟨x, l, rfl, ⟨g, cl, rfl, hg1, hg2, hr2, hm2⟩, hl, hf, h2⟩
  have H2 : Hid (Cu.At B w1 w2 c a len cap) := h2
  have HR2 : Hid (Row w2 g 0 l) := hr2
  have HM2 : Hid (Room w2 g (l.length * 3)) := hm2
  clear hr2 h2 hf hm2
  go_wp2
  go_ret
  exact ⟨g, cl, l, rfl, HR2.out, HM2.out, hg2, hl, H2.out.below hb1 hc⟩
set_option maxRecDepth 100000 in
set_option maxHeartbeats 1000000 in
theorem withMain_at (g cl : Nat) (l : List Tx.Ins) (w : World) (hr : Row w g 0 l) (hm : Room w g (l.length * 3)) (hg : g < w.heap.size) :
    Calls Try.prog 21 #[.slice (some ⟨g, 0, none⟩) l.length cl] w fun e w' => ∃ b, e = .returned (.agg #[.slice (some ⟨b, 0, none⟩) 1 1]) ∧ SK front 0 w' (.slice (some ⟨b, 0, none⟩) (mainP l).length 1) (mainP l) ∧ Below w.heap.size w w' := by
  have HR : Hid (Row w g 0 l) := hr
  have HM : Hid (Room w g (l.length * 3)) := hm
  clear hr hm
  go_enter Try.func21, Try.ntmps21
  go_wp2
  obtain ⟨V, hV⟩ : ∃ V, V = (((w.alloc (.cells #[.slice (some ⟨w.heap.size + 1 + 1 + 1, 0, none⟩) 1 1] 39)).alloc (.cells #[.int .i64 (-1)] 2)).alloc (.cells #[.int .i64 0, .slice none 0 0, .int .i64 (-1), .slice (some ⟨g, 0, none⟩) l.length cl] 78)).alloc (.cells #[.int .i64 (-1), .slice (some ⟨w.heap.size + 1, 0, none⟩) 1 1, .slice (some ⟨w.heap.size + 1 + 1, 0, none⟩) 1 1] 81) := ⟨_, rfl⟩
  have hwV : Below w.heap.size w V := by rw [hV]; exact ((((Below.refl _ w).alloc (Nat.le_refl _) _).alloc (by simp) _).alloc (by simp; omega) _).alloc (by simp; omega) _
  have C0 : Cells V w.heap.size [.slice (some ⟨w.heap.size + 1 + 1 + 1, 0, none⟩) 1 1] := by rw [hV]; exact (((Cells.new w _ rfl _ _).alloc _).alloc _).alloc _
  have C1 : Cells V (w.heap.size + 1) [.int .i64 (-1)] := by rw [hV]; exact ((Cells.new (w.alloc _) _ (by simp) _ _).alloc _).alloc _
  have C2 : Cells V (w.heap.size + 1 + 1) [.int .i64 0, .slice none 0 0, .int .i64 (-1), .slice (some ⟨g, 0, none⟩) l.length cl] := by rw [hV]; exact (Cells.new ((w.alloc _).alloc _) _ (by simp) _ _).alloc _
  have C3 : Cells V (w.heap.size + 1 + 1 + 1) [.int .i64 (-1), .slice (some ⟨w.heap.size + 1, 0, none⟩) 1 1, .slice (some ⟨w.heap.size + 1 + 1, 0, none⟩) 1 1] := by rw [hV]; exact Cells.new (((w.alloc _).alloc _).alloc _) _ (by simp) _ _
  rw [← hV]
  clear hV
  obtain ⟨e0, _⟩ := C0.g0
  refine bodyPost_ret (v := .agg #[.slice (some ⟨w.heap.size + 1 + 1 + 1, 0, none⟩) 1 1]) (by simp [results, Try.results21, go_sem, e0]) rfl ?_
  refine ⟨w.heap.size + 1 + 1 + 1, rfl, ?_, hwV⟩
  have hI : SI true 0 V (.slice (some ⟨w.heap.size + 1, 0, none⟩) ([-1] : List Int).length 1) [-1] := SI.row (Nat.zero_le _) (cell_lt C1.g0.1) (fun j x hj => by
    match j, hj with
    | 0, hj => simp at hj; subst hj; exact C1.g0.1
    | j + 1, hj => simp at hj) (fun j hj => by
    match j, hj with
    | 0, _ => exact ⟨⟨_, C1.g0.1⟩, C1.g0.2⟩
    | j + 1, hj => simp at hj)
  have hC : CS 0 V (.slice (some ⟨g, 0, none⟩) l.length cl) l := ⟨g, cl, rfl, Nat.zero_le _, Nat.lt_of_lt_of_le hg hwV.size, HR.out.on hwV, HM.out.on hwV⟩
  have hM : SM front 0 V (.slice (some ⟨w.heap.size + 1 + 1, 0, none⟩) ([⟨0, [], -1, l⟩] : List Meth).length 1) [⟨0, [], -1, l⟩] := by
    refine ⟨_, 1, rfl, fun _ h => by simp at h, fun _ => ⟨w.heap.size + 1 + 1, 0, rfl, Nat.zero_le _, ⟨cell_lt C2.g0.1, fun _ j hj => ?_⟩, fun j x hj => ?_⟩⟩
    · match j, hj with
      | 0, _ => exact C2.g0.2
      | 1, _ => exact C2.g1.2
      | 2, _ => exact C2.g2.2
      | 3, _ => exact C2.g3.2
      | j + 4, hj => simp at hj; omega
    · match j, hj with
      | 0, hj =>
        simp at hj; subst hj
        exact ⟨_, _, C2.g0.1, C2.g1.1, C2.g2.1, C2.g3.1, SI.nil _ _ _, hC⟩
      | j + 1, hj => simp at hj
  refine ⟨_, 1, rfl, fun _ h => by simp at h, fun _ => ⟨w.heap.size + 1 + 1 + 1, 0, rfl, Nat.zero_le _, ⟨cell_lt C3.g0.1, fun _ j hj => ?_⟩, fun j x hj => ?_⟩⟩
  · match j, hj with
    | 0, _ => exact C3.g0.2
    | 1, _ => exact C3.g1.2
    | 2, _ => exact C3.g2.2
    | j + 3, hj => simp [mainP] at hj; omega
  · match j, hj with
    | 0, hj =>
      simp [mainP] at hj; subst hj
      exact ⟨_, _, C3.g0.1, C3.g1.1, C3.g2.1, hI, hM⟩
    | j + 1, hj => simp [mainP] at hj
end Pg
end Go.Proofs.Ytffkkhaiedhaiaa
