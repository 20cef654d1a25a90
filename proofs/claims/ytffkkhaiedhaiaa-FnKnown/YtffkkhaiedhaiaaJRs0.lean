/- The contract of the draw of code that goes well. -/
import Derived.Test.YtffkkhaiedhaiaaJDr4
import Derived.Deep.LoopGhost
import Derived.WalkMore
import Derived.Test.YtffkkhaiedhaiaaJLay
import Derived.Lib.QuietBelow
namespace Go.Proofs.Ytffkkhaiedhaiaa
namespace Cu
open Go.ChangeShapes Go.WideShapes Go.ChangeAt Go.RowKit St

theorem At.low {B c : Nat} {u v w : World} {a : Option Addr} {len cap : Nat} (h : At B u v c a len cap) (hc : c < u.heap.size) (hb : Below u.heap.size v w) : At B u w c a len cap :=
  ⟨⟨hb.os.trans h.1.os, hb.tape.trans h.1.tape, hb.output.trans h.1.output, Nat.le_trans h.1.size hb.size, fun k hk hne => (hb.block k hk).trans (h.1.block k hk hne)⟩, h.2.later hb hc⟩
theorem At.size {B c : Nat} {u v : World} {a : Option Addr} {len cap : Nat} (h : At B u v c a len cap) : u.heap.size ≤ v.heap.size := h.1.size
theorem own_shape {w : World} {B n q : Nat} {e : TypeId} {v : Value} {xs : List Value} (h : w.ownsRow B e q v n xs) (hv : v ≠ .slice none 0 0) : ∃ g cap, v = .slice (some ⟨g, 0, none⟩) n cap ∧ B ≤ g := by
  obtain ⟨_, ⟨h, _⟩ | ⟨g, cap, cur, rfl, hB, _⟩⟩ := h
  · exact absurd h hv
  · exact ⟨g, cap, rfl, hB⟩
theorem lit_flat (w : World) (l : List Tx.Ins) (t : TypeId) (cs : Array Value) (hcs : cs = (flat l).toArray) : ∀ j u, (flat l)[j]? = some u → (w.alloc (.cells cs t)).cell? ((⟨w.heap.size, 0, none⟩ : Addr).add j) = some u := by
  subst hcs
  intro j u hu
  rw [Go.WideShapes.add_plain, Nat.zero_add]
  simp [go_sem, hu]

/-- Some code has been drawn, of at least two and at most m steps, in a row that is owned whole; and the cursor stands. -/
def DrewO (B : Nat) (w0 w : World) (c : Nat) (a : Option Addr) (len cap m : Nat) (e : Ending) (w' : World) : Prop :=
  ∃ x l, e = .returned x ∧ w'.ownsRow w.heap.size 76 3 x l.length (flat l) ∧ x ≠ .slice none 0 0 ∧ 2 ≤ l.length ∧ l.length ≤ m ∧ Fits l ∧ At B w0 w' c a len cap

set_option maxRecDepth 100000 in
set_option maxHeartbeats 4000000 in
theorem drawCode_own (B c : Nat) (w : World) (a : Option Addr) (len cap : Nat) (h : Cur B w c a len cap) :
    Calls Try.prog 66 #[.pointer (some ⟨c, 0, none⟩)] w fun e w' => DrewO B w w c a len cap 36 e w' := by
  obtain ⟨i0, hi, hz0, hz1, hz2⟩ := info_parts infoI
  have hcw : c < w.heap.size := h.2.1
  have H : Hid (Cur B w c a len cap) := h
  clear h
  go_enter Try.func66, Try.ntmps66
  go_wp2
  go_loopw [3, 4] (fun v i wr => ∃ (k : Nat) (v0 : Value) (lk : List Tx.Ins), 1 ≤ k ∧ k ≤ 4 ∧ i = .int .i64 k ∧ v0 = v ∧ Hid (lk.length + 2 = 2 * k) ∧ Hid (Fits lk) ∧ Hid (wr.ownsRow w.heap.size 76 3 v0 lk.length (flat lk)) ∧ Hid (v0 ≠ .slice none 0 0) ∧ Hid (At B w wr c a len cap)) (fun _ i _ => 4 - (intOf i).toNat)
  case atStart => exact ⟨1, _, [], by omega, by omega, rfl, rfl, rfl, trivial, World.ownsRow_made w #[] 0 (Nat.le_refl _) (by decide) (by simp), by show _ ≠ _; simp, (At.start H.out).alloc _⟩
  case round =>
    obtain ⟨k, v, lk, hk1, hk4, rfl, rfl, hlk, hfit, hown, hvn, hat⟩ := hrel
    by_cases hlt : k < 4
    · have hki : (k : Int) < 4 := by omega
      go_wp2_with fail
      refine (below_at B c _ _ a len cap _ (At.start hat.out.2)).mono ?_
      rintro e w2 ⟨r, rfl, hr0, _, hr2, _, h2⟩
      have hr := hr2 (by omega)
      have HO2 : Hid (w2.ownsRow w.heap.size 76 3 v lk.length (flat lk)) := own_touch hown.out h2.1 hcw
      have HA2 : Hid (At B w w2 c a len cap) := hat.out.step h2
      have hs2 : w.heap.size ≤ w2.heap.size := HA2.out.size
      clear h2 hr2 hown hat
      have hlk8 : lk.length ≤ 8 := by have := hlk.out; omega
      go_wp2_with (at_builtin; refine wpList_append_own _ rfl _ _ 24 rfl w.heap.size 76 i0 (.agg #[.int .i64 0, .int .i64 0, .int .i64 0]) 3 24 Try.underlying24 hi hz0 hz1 hz2 rfl (by decide) _ _ _ rfl (HO2.out.alloc _) ⟨w2.heap.size, 0, none⟩ 2 2 (flat [(1, _, 0), (3, _, 0)]) rfl rfl (lit_flat w2 [(1, _, 0), (3, _, 0)] _ _ rfl) (flat_one _) (by unfold maxLen; omega) (by omega) (by simp; omega) ?_)
      intro v' w3 hown' hgrow hnil
      have hb3 : Below w.heap.size w2 w3 := ((Below.refl _ _).alloc hs2 _).grown hgrow (by simp; omega) (fun g hg => (HO2.out.lt g hg).1)
      have HA3 : Hid (At B w w3 c a len cap) := HA2.out.low hcw hb3
      have HV : Hid (v' ≠ .slice none 0 0) := fun h => by first | exact hnil h | exact absurd (hnil.1 h).1 (by simp)
      have HW : Hid (w3.ownsRow w.heap.size 76 3 v' (lk.length + 2) (flat lk ++ flat [(1, 1 + r, 0), (3, (k : Int), 0)])) := by
        show World.ownsRow _ _ _ _ _ _ _
        first | exact hown' | simpa using hown'
      clear hown' hgrow hnil HO2 HA2 hb3
      go_wp2
      go_roundw
      case rel =>
        refine ⟨k + 1, v', lk ++ [(1, 1 + r, 0), (3, (k : Int), 0)], by omega, by omega, by go_num, rfl, ?_, hfit.out.append (by simp only [Fits, FitsI, and_true]; omega), ?_, HV.out, HA3.out⟩
        · show _ = _
          have := hlk.out
          simp only [List.length_append, List.length_cons, List.length_nil]
          omega
        · show w3.ownsRow _ _ _ _ _ _
          rw [flat_append, List.length_append]; exact HW.out
      case measure => simp [intOf]; omega
    · have hlk8 : Hid (lk.length ≤ 34) := by
        show _ ≤ _
        have := hlk.out
        omega
      clear hlk
      go_wp2_with fail
      refine (below_at B c _ _ a len cap _ (At.start hat.out.2)).mono ?_
      rintro e w2 ⟨r, rfl, hr0, _, hr2, _, h2⟩
      have hr := hr2 (by omega)
      have HO2 : Hid (w2.ownsRow w.heap.size 76 3 v lk.length (flat lk)) := own_touch hown.out h2.1 hcw
      have HA2 : Hid (At B w w2 c a len cap) := hat.out.step h2
      clear h2 hr2 hown hat
      go_wp2
      go_loopw [3, 5] (fun v i wr => ∃ (q : Int) (v0 : Value) (lk : List Tx.Ins), 0 ≤ q ∧ q ≤ 5 ∧ i = .int .i64 q ∧ v0 = v ∧ Hid (lk.length ≤ 34) ∧ Hid (Fits lk) ∧ Hid (wr.ownsRow w.heap.size 76 3 v0 lk.length (flat lk)) ∧ Hid (v0 ≠ .slice none 0 0) ∧ Hid (At B w wr c a len cap)) (fun _ i _ => (intOf i).toNat)
      case atStart => exact ⟨r, _, lk, hr0, by omega, rfl, rfl, hlk8.out, hfit.out, HO2.out, hvn.out, HA2.out⟩
      case round =>
        clear HO2 HA2 hvn hlk8 hr hr0 hk1 hk4 hlt hfit
        obtain ⟨q, v, lk, hq0, hq5, rfl, rfl, hlk, hfit, hown, hvn, hat⟩ := hrel
        obtain ⟨gv, cv, rfl, hBv⟩ := own_shape hown.out hvn.out
        have hlk34 : lk.length ≤ 34 := hlk.out
        clear hlk hvn
        by_cases hgo : 0 < q ∧ (lk.length : Int) < 28
        · obtain ⟨hq, hn⟩ := hgo
          go_wp2_with fail
          refine (drawPiece_cur B c _ a len cap _ (by omega) (by omega) hat.out.2).mono ?_
          rintro e w3 ⟨x, lp, rfl, ⟨g2, c2, rfl, hg1, hg2, hrow, hroom⟩, hlp, hfp, h3⟩
          have HFP : Hid (Fits (lk ++ lp)) := hfit.out.append hfp
          clear hfp
          have HO3 : Hid (w3.ownsRow w.heap.size 76 3 (.slice (some ⟨gv, 0, none⟩) lk.length cv) lk.length (flat lk)) := own_touch hown.out h3.1 hcw
          have HA3 : Hid (At B w w3 c a len cap) := hat.out.step h3
          have hs3 : w.heap.size ≤ w3.heap.size := HA3.out.size
          have HR3 : Hid (Row w3 g2 0 lp) := hrow
          clear h3 hown hat hrow hroom hg1 hg2
          go_wp2_with (at_builtin; refine wpList_append_own _ rfl _ _ 24 rfl w.heap.size 76 i0 (.agg #[.int .i64 0, .int .i64 0, .int .i64 0]) 3 24 Try.underlying24 hi hz0 hz1 hz2 rfl (by decide) _ _ _ rfl HO3.out ⟨g2, 0, none⟩ lp.length c2 (flat lp) rfl (flat_len lp) HR3.out.flat (flat_one _) (by unfold maxLen; omega) (by omega) hs3 ?_)
          intro v' w4 hown' hgrow hnil
          have hb4 : Below w.heap.size w3 w4 := (Below.refl _ _).grown hgrow hs3 (fun g hg => (HO3.out.lt g hg).1)
          have HA4 : Hid (At B w w4 c a len cap) := HA3.out.low hcw hb4
          have HV : Hid (v' ≠ .slice none 0 0) := fun h => by first | exact hnil h | exact absurd (hnil.1 h).1 (by simp)
          have HW : Hid (w4.ownsRow w.heap.size 76 3 v' (lk.length + lp.length) (flat lk ++ flat lp)) := hown'
          clear hown' hgrow hnil HO3 HA3 hb4 HR3
          go_wp2
          go_roundw
          case rel =>
            refine ⟨q - 1, v', lk ++ lp, by omega, by omega, by go_num, rfl, ?_, HFP.out, ?_, HV.out, HA4.out⟩
            · show _ ≤ _
              rw [List.length_append]
              omega
            · show w4.ownsRow _ _ _ _ _ _
              rw [flat_append, List.length_append]; exact HW.out
          case measure => simp [intOf]; omega
        · by_cases hq : 0 < q
          · have hn : ¬ (lk.length : Int) < 28 := fun h => hgo ⟨hq, h⟩
            clear hgo
            go_wp2_with fail
            refine (below_at B c _ _ a len cap _ (At.start hat.out.2)).mono ?_
            rintro e w3 ⟨r, rfl, hr0, _, hr2, _, h3⟩
            have hr := hr2 (by omega)
            have HO3 : Hid (w3.ownsRow w.heap.size 76 3 (.slice (some ⟨gv, 0, none⟩) lk.length cv) lk.length (flat lk)) := own_touch hown.out h3.1 hcw
            have HA3 : Hid (At B w w3 c a len cap) := hat.out.step h3
            have hs3 : w.heap.size ≤ w3.heap.size := HA3.out.size
            clear h3 hr2 hown hat
            go_wp2_with (at_builtin; refine wpList_append_own _ rfl _ _ 24 rfl w.heap.size 76 i0 (.agg #[.int .i64 0, .int .i64 0, .int .i64 0]) 3 24 Try.underlying24 hi hz0 hz1 hz2 rfl (by decide) _ _ _ rfl (HO3.out.alloc _) ⟨w3.heap.size, 0, none⟩ 2 2 (flat [(2, _, 0), (20, 0, 0)]) rfl rfl (lit_flat w3 [(2, _, 0), (20, 0, 0)] _ _ rfl) (flat_one _) (by unfold maxLen; omega) (by omega) (by simp; omega) ?_)
            intro v' w4 hown' hgrow hnil
            have hb4 : Below w.heap.size w3 w4 := ((Below.refl _ _).alloc hs3 _).grown hgrow (by simp; omega) (fun g hg => (HO3.out.lt g hg).1)
            have HA4 : Hid (At B w w4 c a len cap) := HA3.out.low hcw hb4
            have HV : Hid (v' ≠ .slice none 0 0) := fun h => by first | exact hnil h | exact absurd (hnil.1 h).1 (by simp)
            have HW := hown'
            rw [← flat_append] at HW
            go_wp2
            go_ret
            exact ⟨_, _, rfl, by rw [List.length_append]; exact HW, HV.out, by simp, by simp; omega, hfit.out.append (by simp only [Fits, FitsI, and_true]; omega), HA4.out⟩
          · clear hgo
            go_wp2_with fail
            refine (below_at B c _ _ a len cap _ (At.start hat.out.2)).mono ?_
            rintro e w3 ⟨r, rfl, hr0, _, hr2, _, h3⟩
            have hr := hr2 (by omega)
            have HO3 : Hid (w3.ownsRow w.heap.size 76 3 (.slice (some ⟨gv, 0, none⟩) lk.length cv) lk.length (flat lk)) := own_touch hown.out h3.1 hcw
            have HA3 : Hid (At B w w3 c a len cap) := hat.out.step h3
            have hs3 : w.heap.size ≤ w3.heap.size := HA3.out.size
            clear h3 hr2 hown hat
            go_wp2_with (at_builtin; refine wpList_append_own _ rfl _ _ 24 rfl w.heap.size 76 i0 (.agg #[.int .i64 0, .int .i64 0, .int .i64 0]) 3 24 Try.underlying24 hi hz0 hz1 hz2 rfl (by decide) _ _ _ rfl (HO3.out.alloc _) ⟨w3.heap.size, 0, none⟩ 2 2 (flat [(2, _, 0), (20, 0, 0)]) rfl rfl (lit_flat w3 [(2, _, 0), (20, 0, 0)] _ _ rfl) (flat_one _) (by unfold maxLen; omega) (by omega) (by simp; omega) ?_)
            intro v' w4 hown' hgrow hnil
            have hb4 : Below w.heap.size w3 w4 := ((Below.refl _ _).alloc hs3 _).grown hgrow (by simp; omega) (fun g hg => (HO3.out.lt g hg).1)
            have HA4 : Hid (At B w w4 c a len cap) := HA3.out.low hcw hb4
            have HV : Hid (v' ≠ .slice none 0 0) := fun h => by first | exact hnil h | exact absurd (hnil.1 h).1 (by simp)
            have HW := hown'
            rw [← flat_append] at HW
            go_wp2
            go_ret
            exact ⟨_, _, rfl, by rw [List.length_append]; exact HW, HV.out, by simp, by simp; omega, hfit.out.append (by simp only [Fits, FitsI, and_true]; omega), HA4.out⟩
theorem drawCode_cur (B c : Nat) (w : World) (a : Option Addr) (len cap : Nat) (h : Cur B w c a len cap) :
    Calls Try.prog 66 #[.pointer (some ⟨c, 0, none⟩)] w fun e w' => DrewC B w w c a len cap 36 e w' :=
  (drawCode_own B c w a len cap h).mono fun _ _ ⟨x, l, he, ho, hx, _, h2, hf, hat⟩ => ⟨x, l, he, got_of ho hx, h2, hf, hat⟩
end Cu
end Go.Proofs.Ytffkkhaiedhaiaa

/- The contract of the draw of any code. -/
namespace Go.Proofs.Ytffkkhaiedhaiaa
namespace Cu
open Go.ChangeShapes Go.WideShapes Go.ChangeAt Go.RowKit St

/-- Three cells of a step written anew. -/
theorem row_set {w : World} {g k : Nat} {l : List Tx.Ins} (x : Tx.Ins) (hk : k < l.length) (hroom : Room w g (l.length * 3)) (hr : Row w g 0 l) :
    Row (((w.setCell ⟨g, k * 3, none⟩ (.int .i64 x.1)).setCell ⟨g, k * 3 + 1, none⟩ (.int .i64 x.2.1)).setCell ⟨g, k * 3 + 2, none⟩ (.int .i64 x.2.2)) g 0 (l.set k x) := by
  have ne : ∀ a b : Nat, a ≠ b → (⟨g, a, none⟩ : Addr) ≠ ⟨g, b, none⟩ := fun a b h e => h (congrArg Addr.off e)
  obtain ⟨⟨x0, h0⟩, _⟩ := hroom (k * 3) (by omega)
  obtain ⟨⟨x1, h1⟩, _⟩ := hroom (k * 3 + 1) (by omega)
  obtain ⟨⟨x2, h2⟩, _⟩ := hroom (k * 3 + 2) (by omega)
  have far : ∀ i, i < k * 3 ∨ k * 3 + 2 < i → ∀ u, w.cell? ⟨g, i, none⟩ = some u → (((w.setCell ⟨g, k * 3, none⟩ (.int .i64 x.1)).setCell ⟨g, k * 3 + 1, none⟩ (.int .i64 x.2.1)).setCell ⟨g, k * 3 + 2, none⟩ (.int .i64 x.2.2)).cell? ⟨g, i, none⟩ = some u := by
    intro i hi u hu
    rw [World.cell?_setCell_other _ _ _ _ (ne _ _ (by omega)), World.cell?_setCell_other _ _ _ _ (ne _ _ (by omega)), World.cell?_setCell_other _ _ _ _ (ne _ _ (by omega))]
    exact hu
  have g1 : (w.setCell ⟨g, k * 3, none⟩ (.int .i64 x.1)).cell? ⟨g, k * 3 + 1, none⟩ = some x1 := (World.cell?_setCell_other _ _ _ _ (ne _ _ (by omega))).trans h1
  have g2 : ((w.setCell ⟨g, k * 3, none⟩ (.int .i64 x.1)).setCell ⟨g, k * 3 + 1, none⟩ (.int .i64 x.2.1)).cell? ⟨g, k * 3 + 2, none⟩ = some x2 := by
    rw [World.cell?_setCell_other _ _ _ _ (ne _ _ (by omega)), World.cell?_setCell_other _ _ _ _ (ne _ _ (by omega))]
    exact h2
  intro j y hj
  rw [List.getElem?_set] at hj
  split at hj
  · rename_i e
    subst e
    simp at hj
    subst hj
    rw [Nat.zero_add]
    refine ⟨?_, ?_, ?_⟩
    · rw [World.cell?_setCell_other _ _ _ _ (ne _ _ (by omega)), World.cell?_setCell_other _ _ _ _ (ne _ _ (by omega))]
      exact World.cell?_setCell_same _ _ _ h0
    · rw [World.cell?_setCell_other _ _ _ _ (ne _ _ (by omega))]
      exact World.cell?_setCell_same _ _ _ g1
    · exact World.cell?_setCell_same _ _ _ g2
  · rename_i e
    obtain ⟨a0, a1, a2⟩ := hr j y hj
    rw [Nat.zero_add] at a0 a1 a2 ⊢
    exact ⟨far _ (by omega) _ a0, far _ (by omega) _ a1, far _ (by omega) _ a2⟩
theorem got_set {B k : Nat} {w : World} {g cp : Nat} {l : List Tx.Ins} (x : Tx.Ins) (hk : k < l.length) (hroom : Room w g (l.length * 3)) (hr : Row w g 0 l) (hB : B ≤ g) (hg : g < w.heap.size) :
    Got B (((w.setCell ⟨g, k * 3, none⟩ (.int .i64 x.1)).setCell ⟨g, k * 3 + 1, none⟩ (.int .i64 x.2.1)).setCell ⟨g, k * 3 + 2, none⟩ (.int .i64 x.2.2)) (.slice (some ⟨g, 0, none⟩) l.length cp) (l.set k x) := by
  refine ⟨g, cp, by rw [List.length_set], hB, ?_, row_set x hk hroom hr, ?_⟩
  · have := (((Below.refl 0 w).setCell (p := ⟨g, k * 3, none⟩) (Nat.zero_le _) (.int .i64 x.1)).setCell (p := ⟨g, k * 3 + 1, none⟩) (Nat.zero_le _) (.int .i64 x.2.1)).setCell (p := ⟨g, k * 3 + 2, none⟩) (Nat.zero_le _) (.int .i64 x.2.2)
    exact Nat.lt_of_lt_of_le hg this.size
  · rw [List.length_set]
    exact ((hroom.set _ _).set _ _).set _ _

set_option maxRecDepth 100000 in
set_option maxHeartbeats 4000000 in
theorem drawAnyC_cur (B c : Nat) (w : World) (a : Option Addr) (len cap : Nat) (h : Cur B w c a len cap) :
    Calls Try.prog 35 #[.pointer (some ⟨c, 0, none⟩)] w fun e w' => DrewC B w w c a len cap 41 e w' := by
  obtain ⟨i0, hi, hz0, hz1, hz2⟩ := info_parts infoI
  have hcw : c < w.heap.size := h.2.1
  have hBc : B ≤ c := h.1
  have H : Hid (Cur B w c a len cap) := h
  clear h
  go_enter Try.func35, Try.ntmps35
  go_wp2_with fail
  refine (once_at B c _ _ a len cap _ (At.start H.out)).mono ?_
  rintro e w1 ⟨q, rfl, h1⟩
  have H1 : Hid (At B w w1 c a len cap) := h1
  clear h1 H
  cases q
  · go_wp2_with fail
    refine (drawCode_cur B c _ a len cap H1.out.2).mono ?_
    rintro e w2 ⟨x, l, rfl, hg, hl, hf, h2⟩
    have HF : Hid (Fits l) := hf
    clear hf
    have HG : Hid (Got w1.heap.size w2 x l) := hg
    have H2 : Hid (At B w w2 c a len cap) := H1.out.step h2
    clear hg h2
    go_wp2
    go_ret
    exact ⟨_, l, rfl, HG.out.base H1.out.size, by omega, HF.out, H2.out⟩
  · go_wp2_with fail
    refine (below_at B c w _ a len cap _ H1.out).mono ?_
    rintro e w2 ⟨r, rfl, hr0, _, hr2, _, h2⟩
    have hr := hr2 (by omega)
    have H2 : Hid (At B w w2 c a len cap) := h2
    have hs2 : w.heap.size ≤ w2.heap.size := H2.out.size
    clear h2 hr2 H1
    go_wp2
    go_loopw [4, 5] (fun v i wr => ∃ (k : Nat) (v0 : Value) (lk : List Tx.Ins), (k : Int) ≤ 1 + r ∧ i = .int .i64 k ∧ v0 = v ∧ Hid (lk.length = k) ∧ Hid (Fits lk) ∧ Hid (wr.ownsRow w.heap.size 76 3 v0 lk.length (flat lk)) ∧ Hid (v0 ≠ .slice none 0 0) ∧ Hid (At B w wr c a len cap)) (fun _ i _ => (1 + r).toNat - (intOf i).toNat)
    case atStart => exact ⟨0, _, [], by omega, rfl, rfl, rfl, trivial, own_base (World.ownsRow_made w2 #[] 0 (Nat.le_refl _) (by decide) (by simp)) hs2, by show _ ≠ _; simp, H2.out.alloc _⟩
    case round =>
      obtain ⟨k, v, lk, hk, rfl, rfl, hlk, hfit, hown, hvn, hat⟩ := hrel
      clear H2
      by_cases hlt : (k : Int) < 1 + r
      · go_wp2_with fail
        refine (drawInsn_at B c _ _ a len cap _ (At.start hat.out.2)).mono ?_
        rintro e w3 ⟨op, x, y, rfl, bo, bx, by', h3⟩
        have HFX : Hid (Fits (lk ++ [(op, x, y)])) := hfit.out.append ⟨⟨bx, by'⟩, trivial⟩
        have HO3 : Hid (w3.ownsRow w.heap.size 76 3 v lk.length (flat lk)) := own_touch hown.out h3.1 hcw
        have HA3 : Hid (At B w w3 c a len cap) := hat.out.step h3
        have hs3 : w.heap.size ≤ w3.heap.size := HA3.out.size
        clear h3 hown hat
        have hlk8 : lk.length ≤ 10 := by have := hlk.out; omega
        go_wp2_with (at_builtin; refine wpList_append_own _ rfl _ _ 24 rfl w.heap.size 76 i0 (.agg #[.int .i64 0, .int .i64 0, .int .i64 0]) 3 24 Try.underlying24 hi hz0 hz1 hz2 rfl (by decide) _ _ _ rfl (HO3.out.alloc _) ⟨w3.heap.size, 0, none⟩ 1 1 (flat [(op, x, y)]) rfl rfl (lit_flat w3 [(op, x, y)] _ _ rfl) (flat_one _) (by unfold maxLen; omega) (by omega) (by simp; omega) ?_)
        intro v' w4 hown' hgrow hnil
        have hb4 : Below w.heap.size w3 w4 := ((Below.refl _ _).alloc hs3 _).grown hgrow (by simp; omega) (fun g hg => (HO3.out.lt g hg).1)
        have HA4 : Hid (At B w w4 c a len cap) := HA3.out.low hcw hb4
        have HV : Hid (v' ≠ .slice none 0 0) := fun h => by first | exact hnil h | exact absurd (hnil.1 h).1 (by simp)
        have HW : Hid (w4.ownsRow w.heap.size 76 3 v' (lk.length + 1) (flat lk ++ flat [(op, x, y)])) := hown'
        clear hown' hgrow hnil HO3 HA3 hb4
        go_wp2
        go_roundw
        case rel =>
          refine ⟨k + 1, v', lk ++ [(op, x, y)], by omega, by go_num, rfl, ?_, HFX.out, ?_, HV.out, HA4.out⟩
          · show _ = _
            have := hlk.out
            simp only [List.length_append, List.length_cons, List.length_nil]
            omega
          · show w4.ownsRow _ _ _ _ _ _
            rw [flat_append, List.length_append]; exact HW.out
        case measure => simp [intOf]; omega
      · have hlkr : Hid ((lk.length : Int) = 1 + r) := by
          show _ = _
          have := hlk.out
          omega
        have hlk10 : lk.length ≤ 10 := by have := hlk.out; omega
        clear hlk
        go_wp2_with fail
        refine (once_at B c _ _ a len cap _ (At.start hat.out.2)).mono ?_
        rintro e w3 ⟨q2, rfl, h3⟩
        have HG3 : Hid (Got w.heap.size w3 v lk) := got_of (own_touch hown.out h3.1 hcw) hvn.out
        have HA3 : Hid (At B w w3 c a len cap) := hat.out.step h3
        clear h3 hown hat hvn
        cases q2
        · have HGT := HG3
          have HAT := HA3
          clear HG3 HA3
          go_wp2_with fail
          refine (once_at B c _ _ a len cap _ (At.start HAT.out.2)).mono ?_
          rintro e w6 ⟨q3, rfl, h6⟩
          have HG6 : Hid (Got w.heap.size w6 v lk) := got_touch HGT.out h6.1 hcw
          have HA6 : Hid (At B w w6 c a len cap) := HAT.out.step h6
          have hs6 : w.heap.size ≤ w6.heap.size := HA6.out.size
          clear h6 HGT HAT
          cases q3
          · go_wp2
            go_ret
            exact ⟨_, lk, rfl, HG6.out, by omega, hfit.out, HA6.out⟩
          · clear HG6
            go_wp2_with (at_make; refine wpList_make_full _ rfl _ _ 24 rfl w6.heap.size 76 i0 (.agg #[.int .i64 0, .int .i64 0, .int .i64 0]) 3 Try.underlying24 hi hz0 hz1 .i64 .i64 _ _ 0 rfl rfl rfl rfl (by omega) (by unfold maxLen; omega) (Nat.le_refl _) ?_; intro w7 hown7 hgrow7)
            have hb7 : Below w.heap.size w6 w7 := (Below.refl _ _).grown hgrow7 hs6 (fun _ h => by simp at h)
            have HA7 : Hid (At B w w7 c a len cap) := HA6.out.low hcw hb7
            have HO7 : Hid (w7.ownsRow w.heap.size 76 3 (.slice (some ⟨w6.heap.size, 0, none⟩) 0 0) ([] : List Tx.Ins).length (flat [])) := by
              show World.ownsRow _ _ _ _ _ _ _
              refine own_base ?_ hs6
              simpa [madeCells, flat] using hown7
            clear hown7 hgrow7 hb7 HA6
            generalize w6.heap.size = g7 at *
            go_wp2_with fail
            go_loopg [4] 41 (fun n v wr => ∃ (v0 : Value) (lk : List Tx.Ins), v0 = v ∧ Hid (lk.length + n = 41) ∧ Hid (Fits lk) ∧ Hid (wr.ownsRow w.heap.size 76 3 v0 lk.length (flat lk)) ∧ Hid (v0 ≠ .slice none 0 0) ∧ Hid (At B w wr c a len cap))
            case atStart => exact ⟨_, [], rfl, rfl, trivial, HO7.out, by show _ ≠ _; simp, HA7.out⟩
            case round =>
              clear HO7 HA7
              obtain ⟨v, lk, rfl, hlk, hfit, hown, hvn, hat⟩ := hrel
              obtain ⟨gv, cv, rfl, hBv⟩ := own_shape hown.out hvn.out
              have hlk41 : lk.length ≤ 41 := by have := hlk.out; omega
              clear hvn
              go_wp2_with fail
              refine (below_at B c _ _ a len cap _ (At.start hat.out.2)).mono ?_
              rintro e w8 ⟨r8, rfl, h80, _, h82, _, h8⟩
              have hr8 := h82 (by omega)
              have HO8 : Hid (w8.ownsRow w.heap.size 76 3 (.slice (some ⟨gv, 0, none⟩) lk.length cv) lk.length (flat lk)) := own_touch hown.out h8.1 hcw
              have HA8 : Hid (At B w w8 c a len cap) := hat.out.step h8
              have hs8 : w.heap.size ≤ w8.heap.size := HA8.out.size
              clear h8 h82 hown hat
              by_cases hlt : (lk.length : Int) < 40 + r8
              · go_wp2_with (at_builtin; refine wpList_append_own _ rfl _ _ 24 rfl w.heap.size 76 i0 (.agg #[.int .i64 0, .int .i64 0, .int .i64 0]) 3 24 Try.underlying24 hi hz0 hz1 hz2 rfl (by decide) _ _ _ rfl (HO8.out.alloc _) ⟨w8.heap.size, 0, none⟩ 1 1 (flat [(10, 0, 0)]) rfl rfl (lit_flat w8 [(10, 0, 0)] _ _ rfl) (flat_one _) (by unfold maxLen; omega) (by omega) (by simp; omega) ?_)
                intro v' w9 hown' hgrow hnil
                have hb9 : Below w.heap.size w8 w9 := ((Below.refl _ _).alloc hs8 _).grown hgrow (by simp; omega) (fun g hg => (HO8.out.lt g hg).1)
                have HA9 : Hid (At B w w9 c a len cap) := HA8.out.low hcw hb9
                have HV : Hid (v' ≠ .slice none 0 0) := fun h => by first | exact hnil h | exact absurd (hnil.1 h).1 (by simp)
                have HW : Hid (w9.ownsRow w.heap.size 76 3 v' (lk.length + 1) (flat lk ++ flat [(10, 0, 0)])) := hown'
                clear hown' hgrow hnil HO8 HA8 hb9
                go_wp2_with fail
                go_roundg (40 - lk.length)
                case measure => have := hlk.out; omega
                case rel =>
                  refine ⟨v', lk ++ [(10, 0, 0)], rfl, ?_, hfit.out.append (by simp only [Fits, FitsI, and_true]; omega), ?_, HV.out, HA9.out⟩
                  · show _ = _
                    have := hlk.out
                    simp only [List.length_append, List.length_cons, List.length_nil]
                    omega
                  · show w9.ownsRow _ _ _ _ _ _
                    rw [flat_append, List.length_append]; exact HW.out
              · go_wp2
                go_ret
                exact ⟨_, lk, rfl, got_of HO8.out (by simp), by omega, hfit.out, HA8.out⟩
        · go_wp2_with fail
          refine (below_at B c _ _ a len cap _ (At.start HA3.out.2)).mono ?_
          rintro e w4 ⟨r4, rfl, h40, _, h42, _, h4⟩
          have hr4 := h42 (by omega)
          have HG4 : Hid (Got w.heap.size w4 v lk) := got_touch HG3.out h4.1 hcw
          have HA4 : Hid (At B w w4 c a len cap) := HA3.out.step h4
          clear h4 h42 HG3 HA3
          go_wp2_with fail
          refine (drawAnyI_at B c _ _ a len cap (At.start HA4.out.2)).mono ?_
          rintro e w5 ⟨op, x, y, rfl, bo, bx, by', h5⟩
          have HFB : Hid (FitsI (op, x, y)) := ⟨bx, by'⟩
          obtain ⟨gv, cv, rfl, hBv, hgl, hrow, hroom⟩ := got_touch HG4.out h5.1 hcw
          have HA5 : Hid (At B w w5 c a len cap) := HA4.out.step h5
          clear h5 HG4 HA4
          obtain ⟨k4, rfl⟩ := Int.eq_ofNat_of_zero_le h40
          have hk4 : k4 < lk.length := by have := hlkr.out; omega
          have hk4i : (k4 : Int) < (lk.length : Int) := by omega
          obtain ⟨⟨x0, d0⟩, f0⟩ := hroom (k4 * 3) (by omega)
          obtain ⟨⟨x1, d1⟩, f1⟩ := hroom (k4 * 3 + 1) (by omega)
          obtain ⟨⟨x2, d2⟩, f2⟩ := hroom (k4 * 3 + 2) (by omega)
          have HGT : Hid (Got w.heap.size (((w5.setCell ⟨gv, k4 * 3, none⟩ (.int .i64 op)).setCell ⟨gv, k4 * 3 + 1, none⟩ (.int .i64 x)).setCell ⟨gv, k4 * 3 + 2, none⟩ (.int .i64 y)) (.slice (some ⟨gv, 0, none⟩) lk.length cv) (lk.set k4 (op, x, y))) := got_set (op, x, y) hk4 hroom hrow hBv hgl
          have HAT : Hid (At B w (((w5.setCell ⟨gv, k4 * 3, none⟩ (.int .i64 op)).setCell ⟨gv, k4 * 3 + 1, none⟩ (.int .i64 x)).setCell ⟨gv, k4 * 3 + 2, none⟩ (.int .i64 y)) c a len cap) :=
            ⟨((HA5.out.1.setNew (p := ⟨gv, k4 * 3, none⟩) hBv _).setNew (p := ⟨gv, k4 * 3 + 1, none⟩) hBv _).setNew (p := ⟨gv, k4 * 3 + 2, none⟩) hBv _, ((HA5.out.2.setFar (p := ⟨gv, k4 * 3, none⟩) (by simp; omega) (by simp; omega) _).setFar (p := ⟨gv, k4 * 3 + 1, none⟩) (by simp; omega) (by simp; omega) _).setFar (p := ⟨gv, k4 * 3 + 2, none⟩) (by simp; omega) (by simp; omega) _⟩
          clear HA5 hrow hroom
          have HFS : Hid (Fits (lk.set k4 (op, x, y))) := hfit.out.set k4 HFB.out
          have hset : (lk.set k4 (op, x, y)).length = lk.length := List.length_set
          have HSET : Hid (lk.length = (lk.set k4 (op, x, y)).length) := hset.symm
          clear hset
          go_wp2_with fail
          refine (once_at B c _ _ a len cap _ (At.start HAT.out.2)).mono ?_
          rintro e w6 ⟨q3, rfl, h6⟩
          have HG6 : Hid (Got w.heap.size w6 (.slice (some ⟨gv, 0, none⟩) lk.length cv) (lk.set k4 (op, x, y))) := got_touch HGT.out h6.1 hcw
          have HA6 : Hid (At B w w6 c a len cap) := HAT.out.step h6
          have hs6 : w.heap.size ≤ w6.heap.size := HA6.out.size
          clear h6 HGT HAT
          cases q3
          · go_wp2
            go_ret
            exact ⟨_, _, rfl, HG6.out, by rw [← HSET.out]; omega, HFS.out, HA6.out⟩
          · clear HG6
            go_wp2_with (at_make; refine wpList_make_full _ rfl _ _ 24 rfl w6.heap.size 76 i0 (.agg #[.int .i64 0, .int .i64 0, .int .i64 0]) 3 Try.underlying24 hi hz0 hz1 .i64 .i64 _ _ 0 rfl rfl rfl rfl (by omega) (by unfold maxLen; omega) (Nat.le_refl _) ?_; intro w7 hown7 hgrow7)
            have hb7 : Below w.heap.size w6 w7 := (Below.refl _ _).grown hgrow7 hs6 (fun _ h => by simp at h)
            have HA7 : Hid (At B w w7 c a len cap) := HA6.out.low hcw hb7
            have HO7 : Hid (w7.ownsRow w.heap.size 76 3 (.slice (some ⟨w6.heap.size, 0, none⟩) 0 0) ([] : List Tx.Ins).length (flat [])) := by
              show World.ownsRow _ _ _ _ _ _ _
              refine own_base ?_ hs6
              simpa [madeCells, flat] using hown7
            clear hown7 hgrow7 hb7 HA6
            generalize w6.heap.size = g7 at *
            go_wp2_with fail
            go_loopg [4] 41 (fun n v wr => ∃ (v0 : Value) (lk : List Tx.Ins), v0 = v ∧ Hid (lk.length + n = 41) ∧ Hid (Fits lk) ∧ Hid (wr.ownsRow w.heap.size 76 3 v0 lk.length (flat lk)) ∧ Hid (v0 ≠ .slice none 0 0) ∧ Hid (At B w wr c a len cap))
            case atStart => exact ⟨_, [], rfl, rfl, trivial, HO7.out, by show _ ≠ _; simp, HA7.out⟩
            case round =>
              clear HO7 HA7
              clear HSET HFS HFB hfit hlkr hk4 hk4i d0 d1 d2 f0 f1 f2
              clear hlk10 hgl
              obtain ⟨v, lk, rfl, hlk, hfit, hown, hvn, hat⟩ := hrel
              obtain ⟨gz, cz, rfl, hBz⟩ := own_shape hown.out hvn.out
              have hlk41 : lk.length ≤ 41 := by have := hlk.out; omega
              clear hvn
              go_wp2_with fail
              refine (below_at B c _ _ a len cap _ (At.start hat.out.2)).mono ?_
              rintro e w8 ⟨r8, rfl, h80, _, h82, _, h8⟩
              have hr8 := h82 (by omega)
              have HO8 : Hid (w8.ownsRow w.heap.size 76 3 (.slice (some ⟨gz, 0, none⟩) lk.length cz) lk.length (flat lk)) := own_touch hown.out h8.1 hcw
              have HA8 : Hid (At B w w8 c a len cap) := hat.out.step h8
              have hs8 : w.heap.size ≤ w8.heap.size := HA8.out.size
              clear h8 h82 hown hat
              by_cases hlt : (lk.length : Int) < 40 + r8
              · go_wp2_with (at_builtin; refine wpList_append_own _ rfl _ _ 24 rfl w.heap.size 76 i0 (.agg #[.int .i64 0, .int .i64 0, .int .i64 0]) 3 24 Try.underlying24 hi hz0 hz1 hz2 rfl (by decide) _ _ _ rfl (HO8.out.alloc _) ⟨w8.heap.size, 0, none⟩ 1 1 (flat [(10, 0, 0)]) rfl rfl (lit_flat w8 [(10, 0, 0)] _ _ rfl) (flat_one _) (by unfold maxLen; omega) (by omega) (by simp; omega) ?_)
                intro v' w9 hown' hgrow hnil
                have hb9 : Below w.heap.size w8 w9 := ((Below.refl _ _).alloc hs8 _).grown hgrow (by simp; omega) (fun g hg => (HO8.out.lt g hg).1)
                have HA9 : Hid (At B w w9 c a len cap) := HA8.out.low hcw hb9
                have HV : Hid (v' ≠ .slice none 0 0) := fun h => by first | exact hnil h | exact absurd (hnil.1 h).1 (by simp)
                have HW : Hid (w9.ownsRow w.heap.size 76 3 v' (lk.length + 1) (flat lk ++ flat [(10, 0, 0)])) := hown'
                clear hown' hgrow hnil HO8 HA8 hb9
                go_wp2_with fail
                go_roundg (40 - lk.length)
                case measure => have := hlk.out; omega
                case rel =>
                  refine ⟨v', lk ++ [(10, 0, 0)], rfl, ?_, hfit.out.append (by simp only [Fits, FitsI, and_true]; omega), ?_, HV.out, HA9.out⟩
                  · show _ = _
                    have := hlk.out
                    simp only [List.length_append, List.length_cons, List.length_nil]
                    omega
                  · show w9.ownsRow _ _ _ _ _ _
                    rw [flat_append, List.length_append]; exact HW.out
              · go_wp2
                go_ret
                exact ⟨_, lk, rfl, got_of HO8.out (by simp), by omega, hfit.out, HA8.out⟩
end Cu
end Go.Proofs.Ytffkkhaiedhaiaa

/- The laws' own has and rises over rows of numbers. -/
namespace Go.Proofs.Ytffkkhaiedhaiaa
namespace St
open Go.ChangeShapes Go.WideShapes Go.ChangeAt Go.RowKit

end St
end Go.Proofs.Ytffkkhaiedhaiaa
