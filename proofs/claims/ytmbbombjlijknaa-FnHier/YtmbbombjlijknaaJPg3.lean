/- The contract of the draw of a piece of code. -/
import Derived.Test.YtmbbombjlijknaaJGot0
import Derived.Laws.OwnMore
import Derived.Test.YtmbbombjlijknaaJLaw0
namespace Go.Proofs.Ytmbbombjlijknaa
namespace Cu
open Go.ChangeShapes Go.WideShapes Go.ChangeAt Go.RowKit St

theorem row_touch {c g o : Nat} {u w : World} {l : List Tx.Ins} (h : Row u g o l) (ht : Touch c u w) (hc : g ≠ c) : Row w g o l := by
  intro j x hj
  obtain ⟨h0, h1, h2⟩ := h j x hj
  have l0 : g < u.heap.size := St.cell_lt h0
  exact ⟨(ht.cell l0 hc).trans h0, (ht.cell l0 hc).trans h1, (ht.cell l0 hc).trans h2⟩
theorem room_touch {c g n : Nat} {u w : World} (h : Room u g n) (ht : Touch c u w) (hc : g ≠ c) : Room w g n := by
  intro i hi
  obtain ⟨⟨x, hx⟩, hf⟩ := h i hi
  have l0 : g < u.heap.size := St.cell_lt hx
  exact ⟨⟨x, (ht.cell l0 hc).trans hx⟩, (ht.frozen l0 hc).trans hf⟩
theorem got_touch {c B : Nat} {u w : World} {v : Value} {l : List Tx.Ins} (h : Got B u v l) (ht : Touch c u w) (hc : c < B) : Got B w v l := by
  obtain ⟨g, cap, hv, h1, h2, h3, h4⟩ := h
  exact ⟨g, cap, hv, h1, Nat.lt_of_lt_of_le h2 ht.size, row_touch h3 ht (by omega), room_touch h4 ht (by omega)⟩
theorem At.alloc {B c : Nat} {u w : World} {a : Option Addr} {len cap : Nat} (h : At B u w c a len cap) (o : Obj) : At B u (w.alloc o) c a len cap := ⟨h.1.alloc o, h.2.alloc o⟩
theorem At.on {B c : Nat} {u v w : World} {a : Option Addr} {len cap : Nat} (h : At B u v c a len cap) (hb : Below v.heap.size v w) : At B u w c a len cap := ⟨h.1.trans (touch_below hb), h.2.later hb h.2.2.1⟩

/-- What a step holds fits its fields. -/
def FitsI (x : Tx.Ins) : Prop := (-9223372036854775808 ≤ x.2.1 ∧ x.2.1 ≤ 9223372036854775807) ∧ (-9223372036854775808 ≤ x.2.2 ∧ x.2.2 ≤ 9223372036854775807)
def Fits : List Tx.Ins → Prop
  | [] => True
  | x :: l => FitsI x ∧ Fits l
theorem fits_iff (l : List Tx.Ins) : Fits l ↔ ∀ x ∈ l, FitsI x := by
  induction l with
  | nil => simp [Fits]
  | cons x l ih => simp [Fits, ih]
theorem Fits.append {l r : List Tx.Ins} (h : Fits l) (k : Fits r) : Fits (l ++ r) := by
  rw [fits_iff] at *
  intro x hx
  rcases List.mem_append.1 hx with hx | hx
  · exact h x hx
  · exact k x hx
theorem Fits.set {l : List Tx.Ins} (h : Fits l) (k : Nat) {y : Tx.Ins} (hy : FitsI y) : Fits (l.set k y) := by
  rw [fits_iff] at *
  intro x hx
  rcases List.mem_or_eq_of_mem_set hx with hx | hx
  · exact h x hx
  · rw [hx]; exact hy
/-- Some code has been drawn, of at most m steps, and the cursor stands. -/
def DrewC (B : Nat) (w0 w : World) (c : Nat) (a : Option Addr) (len cap m : Nat) (e : Ending) (w' : World) : Prop :=
  ∃ x l, e = .returned x ∧ Got w.heap.size w' x l ∧ l.length ≤ m ∧ Fits l ∧ At B w0 w' c a len cap
theorem drewC_lit {B : Nat} {w0 w w1 : World} {c : Nat} {a : Option Addr} {len cap : Nat} (h : At B w0 w1 c a len cap) (hs : w.heap.size ≤ w1.heap.size) (l : List Tx.Ins) (hl : l.length ≤ 7) (hf : Fits l) (n cp : Nat) (t : TypeId) (cs : Array Value) (hn : n = l.length) (hcs : cs = (flat l).toArray) :
    DrewC B w0 w c a len cap 7 (.returned (.slice (some ⟨w1.heap.size, 0, none⟩) n cp)) (w1.alloc (.cells cs t)) :=
  ⟨_, l, rfl, by rw [hn]; exact got_lit w1 _ hs l cp t cs hcs, hl, hf, h.alloc _⟩
theorem DrewC.from {B : Nat} {w0 w w' : World} {c : Nat} {a : Option Addr} {len cap m : Nat} {e : Ending} (d : DrewC B w w c a len cap m e w') (h : At B w0 w c a len cap) : DrewC B w0 w c a len cap m e w' := by
  obtain ⟨x, l, h1, h2, h3, h4, h5⟩ := d
  exact ⟨x, l, h1, h2, h3, h4, h.step h5⟩

set_option maxRecDepth 100000 in
set_option maxHeartbeats 4000000 in
theorem drawPiece_cur (B c : Nat) (w : World) (a : Option Addr) (len cap : Nat) (fr : Int) (hf0 : 0 ≤ fr) (hf1 : fr ≤ 100) (h : Cur B w c a len cap) :
    Calls Try.prog 126 #[.pointer (some ⟨c, 0, none⟩), .int .i64 fr] w fun e w' => DrewC B w w c a len cap 7 e w' := by
  have H : Hid (Cur B w c a len cap) := h
  clear h
  go_enter Try.func126, Try.ntmps126
  go_wp2_with fail
  refine (below_at B c w _ a len cap _ (At.start H.out)).mono ?_
  rintro e w1 ⟨k, rfl, hk0, hk1, hk2, hk3, h1⟩
  have hk := hk2 (by omega)
  have H1 : Hid (At B w w1 c a len cap) := h1
  clear h1 hk2 hk3 H hk1
  go_wp2_with fail
  refine (drawWord_at B c w _ a len cap H1.out).mono ?_
  rintro e w2 ⟨n, rfl, hn0, hn1, h2⟩
  have H2 : Hid (At B w w2 c a len cap) := h2
  clear h2 H1
  go_wp2_with fail
  refine (below_at B c w _ a len cap _ H2.out).mono ?_
  rintro e w3 ⟨r, rfl, hr0, hr1, hr2, hr3, h3⟩
  have hr := hr2 (by omega)
  have H3 : Hid (At B w w3 c a len cap) := h3
  clear h3 hr1 hr2 hr3 H2
  have hcase : r = 0 ∨ r = 1 ∨ r = 2 ∨ r = 3 ∨ r = 4 ∨ r = 5 ∨ r = 6 ∨ r = 7 ∨ r = 8 ∨ r = 9 ∨ r = 10 ∨ r = 11 := by omega
  clear hr0 hr
  rcases hcase with rfl | rfl | rfl | rfl | rfl | rfl | rfl | rfl | rfl | rfl | rfl | rfl
  · go_wp2
    go_ret
    exact drewC_lit H3.out H3.out.1.size [(_, _, _), (_, _, _)] (by simp) (by simp only [Fits, FitsI, and_true]; omega) _ _ _ _ rfl rfl
  · go_wp2_with fail
    refine (drawWord_at B c w _ a len cap H3.out).mono ?_
    rintro e w4 ⟨x0, rfl, p00, p01, h4⟩
    have H4 : Hid (At B w w4 c a len cap) := h4
    clear h4 H3
    go_wp2_with fail
    refine (below_at B c w _ a len cap _ H4.out).mono ?_
    rintro e w5 ⟨x1, rfl, p10, _, q1, _, h5⟩
    have p11 := q1 (by omega)
    clear q1
    have H5 : Hid (At B w w5 c a len cap) := h5
    clear h5 H4
    go_wp2
    go_ret
    exact drewC_lit H5.out H5.out.1.size [(_, _, _), (_, _, _), (_, _, _), (_, _, _)] (by simp) (by simp only [Fits, FitsI, and_true]; omega) _ _ _ _ rfl rfl
  · go_wp2
    go_ret
    exact drewC_lit H3.out H3.out.1.size [(_, _, _), (_, _, _)] (by simp) (by simp only [Fits, FitsI, and_true]; omega) _ _ _ _ rfl rfl
  · go_wp2_with fail
    refine (below_at B c w _ a len cap _ H3.out).mono ?_
    rintro e w4 ⟨x0, rfl, p00, _, q0, _, h4⟩
    have p01 := q0 (by omega)
    clear q0
    have H4 : Hid (At B w w4 c a len cap) := h4
    clear h4 H3
    go_wp2_with fail
    refine (below_at B c w _ a len cap _ H4.out).mono ?_
    rintro e w5 ⟨x1, rfl, p10, _, q1, _, h5⟩
    have p11 := q1 (by omega)
    clear q1
    have H5 : Hid (At B w w5 c a len cap) := h5
    clear h5 H4
    go_wp2
    go_ret
    exact drewC_lit H5.out H5.out.1.size [(_, _, _), (_, _, _), (_, _, _), (_, _, _)] (by simp) (by simp only [Fits, FitsI, and_true]; omega) _ _ _ _ rfl rfl
  · go_wp2
    go_ret
    exact drewC_lit H3.out H3.out.1.size [(_, _, _), (_, _, _)] (by simp) (by simp only [Fits, FitsI, and_true]; omega) _ _ _ _ rfl rfl
  · go_wp2
    go_ret
    exact drewC_lit H3.out H3.out.1.size [(_, _, _), (_, _, _), (_, _, _), (_, _, _)] (by simp) (by simp only [Fits, FitsI, and_true]; omega) _ _ _ _ rfl rfl
  · go_wp2_with fail
    refine (below_at B c w _ a len cap _ H3.out).mono ?_
    rintro e w4 ⟨x0, rfl, p00, _, q0, _, h4⟩
    have p01 := q0 (by omega)
    clear q0
    have H4 : Hid (At B w w4 c a len cap) := h4
    clear h4 H3
    go_wp2
    go_ret
    exact drewC_lit H4.out H4.out.1.size [(_, _, _), (_, _, _), (_, _, _), (_, _, _)] (by simp) (by simp only [Fits, FitsI, and_true]; omega) _ _ _ _ rfl rfl
  · go_wp2
    go_ret
    exact drewC_lit H3.out H3.out.1.size [(_, _, _), (_, _, _)] (by simp) (by simp only [Fits, FitsI, and_true]; omega) _ _ _ _ rfl rfl
  · go_wp2
    go_ret
    exact drewC_lit H3.out H3.out.1.size [(_, _, _), (_, _, _), (_, _, _), (_, _, _), (_, _, _)] (by simp) (by simp only [Fits, FitsI, and_true]; omega) _ _ _ _ rfl rfl
  · go_wp2
    go_ret
    exact drewC_lit H3.out H3.out.1.size [(_, _, _), (_, _, _), (_, _, _)] (by simp) (by simp only [Fits, FitsI, and_true]; omega) _ _ _ _ rfl rfl
  · go_wp2
    go_ret
    exact drewC_lit H3.out H3.out.1.size [(_, _, _), (_, _, _), (_, _, _)] (by simp) (by simp only [Fits, FitsI, and_true]; omega) _ _ _ _ rfl rfl
  · go_wp2
    go_ret
    exact drewC_lit H3.out H3.out.1.size [(_, _, _), (_, _, _), (_, _, _), (_, _, _), (_, _, _), (_, _, _), (_, _, _)] (by simp) (by simp only [Fits, FitsI, and_true]; omega) _ _ _ _ rfl rfl
theorem drawPiece_at (B c : Nat) (w0 w : World) (a : Option Addr) (len cap : Nat) (fr : Int) (hf0 : 0 ≤ fr) (hf1 : fr ≤ 100) (h : At B w0 w c a len cap) :
    Calls Try.prog 126 #[.pointer (some ⟨c, 0, none⟩), .int .i64 fr] w fun e w' => DrewC B w0 w c a len cap 7 e w' :=
  (drawPiece_cur B c w a len cap fr hf0 hf1 h.2).mono fun _ _ d => d.from h
end Cu
end Go.Proofs.Ytmbbombjlijknaa

/- The contract of the draw of code that goes well. -/
namespace Go.Proofs.Ytmbbombjlijknaa
namespace Cu
open Go.ChangeShapes Go.WideShapes Go.ChangeAt Go.RowKit St

theorem At.low {B c : Nat} {u v w : World} {a : Option Addr} {len cap : Nat} (h : At B u v c a len cap) (hc : c < u.heap.size) (hb : Below u.heap.size v w) : At B u w c a len cap :=
  ⟨⟨hb.os.trans h.1.os, hb.tape.trans h.1.tape, hb.output.trans h.1.output, Nat.le_trans h.1.size hb.size, fun k hk hne => (hb.block k hk).trans (h.1.block k hk hne)⟩, h.2.later hb hc⟩
theorem At.size {B c : Nat} {u v : World} {a : Option Addr} {len cap : Nat} (h : At B u v c a len cap) : u.heap.size ≤ v.heap.size := h.1.size
theorem own_shape {w : World} {B n q : Nat} {e : TypeId} {v : Value} {xs : List Value} (h : w.ownsRow B e q v n xs) (hv : v ≠ .slice none 0 0) : ∃ g cap, v = .slice (some ⟨g, 0, none⟩) n cap ∧ B ≤ g := by
  obtain ⟨_, ⟨h, _⟩ | ⟨g, cap, cur, rfl, hB, _⟩⟩ := h
  · exact absurd h hv
  · exact ⟨g, cap, rfl, hB⟩
theorem lit_flat (w : World) (l : List Tx.Ins) (t : TypeId) (cs : Array Value) (hcs : cs = (flat l).toArray) : ∀ j u, (flat l)[j]? = some u → (w.alloc (.cells cs t)).cell? ((⟨w.heap.size, 0, none⟩ : Addr).add j) = some u := by
  subst hcs
  intro j u hu
  rw [Go.WideShapes.add_plain, Nat.zero_add]
  simp [go_sem, hu]

/-- Some code has been drawn, of at least two and at most m steps, in a row that is owned whole; and the cursor stands. -/
def DrewO (B : Nat) (w0 w : World) (c : Nat) (a : Option Addr) (len cap m : Nat) (e : Ending) (w' : World) : Prop :=
  ∃ x l, e = .returned x ∧ w'.ownsRow w.heap.size 68 3 x l.length (flat l) ∧ x ≠ .slice none 0 0 ∧ 2 ≤ l.length ∧ l.length ≤ m ∧ Fits l ∧ At B w0 w' c a len cap

set_option maxRecDepth 100000 in
set_option maxHeartbeats 4000000 in
theorem drawCode_own (B c : Nat) (w : World) (a : Option Addr) (len cap : Nat) (h : Cur B w c a len cap) :
    Calls Try.prog 110 #[.pointer (some ⟨c, 0, none⟩)] w fun e w' => DrewO B w w c a len cap 36 e w' := by
  obtain ⟨i0, hi, hz0, hz1, hz2⟩ := info_parts infoI
  have hcw : c < w.heap.size := h.2.1
  have H : Hid (Cur B w c a len cap) := h
  clear h
  go_enter Try.func110, Try.ntmps110
  go_wp2
  go_loopw [3, 4] (fun v i wr => ∃ (k : Nat) (v0 : Value) (lk : List Tx.Ins), 1 ≤ k ∧ k ≤ 4 ∧ i = .int .i64 k ∧ v0 = v ∧ Hid (lk.length + 2 = 2 * k) ∧ Hid (Fits lk) ∧ Hid (wr.ownsRow w.heap.size 68 3 v0 lk.length (flat lk)) ∧ Hid (v0 ≠ .slice none 0 0) ∧ Hid (At B w wr c a len cap)) (fun _ i _ => 4 - (intOf i).toNat)
  case atStart => exact ⟨1, _, [], by omega, by omega, rfl, rfl, rfl, trivial, World.ownsRow_made w #[] 0 (Nat.le_refl _) (by decide) (by simp), by show _ ≠ _; simp, (At.start H.out).alloc _⟩
  case round =>
    obtain ⟨k, v, lk, hk1, hk4, rfl, rfl, hlk, hfit, hown, hvn, hat⟩ := hrel
    by_cases hlt : k < 4
    · have hki : (k : Int) < 4 := by omega
      go_wp2_with fail
      refine (below_at B c _ _ a len cap _ (At.start hat.out.2)).mono ?_
      rintro e w2 ⟨r, rfl, hr0, _, hr2, _, h2⟩
      have hr := hr2 (by omega)
      have HO2 : Hid (w2.ownsRow w.heap.size 68 3 v lk.length (flat lk)) := own_touch hown.out h2.1 hcw
      have HA2 : Hid (At B w w2 c a len cap) := hat.out.step h2
      have hs2 : w.heap.size ≤ w2.heap.size := HA2.out.size
      clear h2 hr2 hown hat
      have hlk8 : lk.length ≤ 8 := by have := hlk.out; omega
      go_wp2_with (at_builtin; refine wpList_append_own _ rfl _ _ 39 rfl w.heap.size 68 i0 (.agg #[.int .i64 0, .int .i64 0, .int .i64 0]) 3 24 Try.underlying39 hi hz0 hz1 hz2 rfl (by decide) _ _ _ rfl (HO2.out.alloc _) ⟨w2.heap.size, 0, none⟩ 2 2 (flat [(1, _, 0), (3, _, 0)]) rfl rfl (lit_flat w2 [(1, _, 0), (3, _, 0)] _ _ rfl) (flat_one _) (by unfold maxLen; omega) (by omega) (by simp; omega) ?_)
      intro v' w3 hown' hgrow hnil
      have hb3 : Below w.heap.size w2 w3 := ((Below.refl _ _).alloc hs2 _).grown hgrow (by simp; omega) (fun g hg => (HO2.out.lt g hg).1)
      have HA3 : Hid (At B w w3 c a len cap) := HA2.out.low hcw hb3
      have HV : Hid (v' ≠ .slice none 0 0) := fun h => by first | exact hnil h | exact absurd (hnil.1 h).1 (by simp)
      have HW : Hid (w3.ownsRow w.heap.size 68 3 v' (lk.length + 2) (flat lk ++ flat [(1, 1 + r, 0), (3, (k : Int), 0)])) := by
        show World.ownsRow _ _ _ _ _ _ _
        first | exact hown' | simpa using hown'
      clear hown' hgrow hnil HO2 HA2 hb3
      go_wp2
      go_roundw
      case rel =>
        refine ⟨k + 1, v', lk ++ [(1, 1 + r, 0), (3, (k : Int), 0)], by omega, by omega, by go_num, rfl, ?_, hfit.out.append (by simp only [Fits, FitsI, and_true]; omega), ?_, HV.out, HA3.out⟩
        · show _ = _
          have := hlk.out
          simp only [List.length_append, List.length_cons, List.length_nil]
          omega
        · show w3.ownsRow _ _ _ _ _ _
          rw [flat_append, List.length_append]; exact HW.out
      case measure => simp [intOf]; omega
    · have hlk8 : Hid (lk.length ≤ 34) := by
        show _ ≤ _
        have := hlk.out
        omega
      clear hlk
      go_wp2_with fail
      refine (below_at B c _ _ a len cap _ (At.start hat.out.2)).mono ?_
      rintro e w2 ⟨r, rfl, hr0, _, hr2, _, h2⟩
      have hr := hr2 (by omega)
      have HO2 : Hid (w2.ownsRow w.heap.size 68 3 v lk.length (flat lk)) := own_touch hown.out h2.1 hcw
      have HA2 : Hid (At B w w2 c a len cap) := hat.out.step h2
      clear h2 hr2 hown hat
      go_wp2
      go_loopw [3, 5] (fun v i wr => ∃ (q : Int) (v0 : Value) (lk : List Tx.Ins), 0 ≤ q ∧ q ≤ 5 ∧ i = .int .i64 q ∧ v0 = v ∧ Hid (lk.length ≤ 34) ∧ Hid (Fits lk) ∧ Hid (wr.ownsRow w.heap.size 68 3 v0 lk.length (flat lk)) ∧ Hid (v0 ≠ .slice none 0 0) ∧ Hid (At B w wr c a len cap)) (fun _ i _ => (intOf i).toNat)
      case atStart => exact ⟨r, _, lk, hr0, by omega, rfl, rfl, hlk8.out, hfit.out, HO2.out, hvn.out, HA2.out⟩
      case round =>
        clear HO2 HA2 hvn hlk8 hr hr0 hk1 hk4 hlt hfit
        obtain ⟨q, v, lk, hq0, hq5, rfl, rfl, hlk, hfit, hown, hvn, hat⟩ := hrel
        obtain ⟨gv, cv, rfl, hBv⟩ := own_shape hown.out hvn.out
        have hlk34 : lk.length ≤ 34 := hlk.out
        clear hlk hvn
        by_cases hgo : 0 < q ∧ (lk.length : Int) < 28
        · obtain ⟨hq, hn⟩ := hgo
          go_wp2_with fail
          refine (drawPiece_cur B c _ a len cap _ (by omega) (by omega) hat.out.2).mono ?_
          rintro e w3 ⟨x, lp, rfl, ⟨g2, c2, rfl, hg1, hg2, hrow, hroom⟩, hlp, hfp, h3⟩
          have HFP : Hid (Fits (lk ++ lp)) := hfit.out.append hfp
          clear hfp
          have HO3 : Hid (w3.ownsRow w.heap.size 68 3 (.slice (some ⟨gv, 0, none⟩) lk.length cv) lk.length (flat lk)) := own_touch hown.out h3.1 hcw
          have HA3 : Hid (At B w w3 c a len cap) := hat.out.step h3
          have hs3 : w.heap.size ≤ w3.heap.size := HA3.out.size
          have HR3 : Hid (Row w3 g2 0 lp) := hrow
          clear h3 hown hat hrow hroom hg1 hg2
          go_wp2_with (at_builtin; refine wpList_append_own _ rfl _ _ 39 rfl w.heap.size 68 i0 (.agg #[.int .i64 0, .int .i64 0, .int .i64 0]) 3 24 Try.underlying39 hi hz0 hz1 hz2 rfl (by decide) _ _ _ rfl HO3.out ⟨g2, 0, none⟩ lp.length c2 (flat lp) rfl (flat_len lp) HR3.out.flat (flat_one _) (by unfold maxLen; omega) (by omega) hs3 ?_)
          intro v' w4 hown' hgrow hnil
          have hb4 : Below w.heap.size w3 w4 := (Below.refl _ _).grown hgrow hs3 (fun g hg => (HO3.out.lt g hg).1)
          have HA4 : Hid (At B w w4 c a len cap) := HA3.out.low hcw hb4
          have HV : Hid (v' ≠ .slice none 0 0) := fun h => by first | exact hnil h | exact absurd (hnil.1 h).1 (by simp)
          have HW : Hid (w4.ownsRow w.heap.size 68 3 v' (lk.length + lp.length) (flat lk ++ flat lp)) := hown'
          clear hown' hgrow hnil HO3 HA3 hb4 HR3
          go_wp2
          go_roundw
          case rel =>
            refine ⟨q - 1, v', lk ++ lp, by omega, by omega, by go_num, rfl, ?_, HFP.out, ?_, HV.out, HA4.out⟩
            · show _ ≤ _
              rw [List.length_append]
              omega
            · show w4.ownsRow _ _ _ _ _ _
              rw [flat_append, List.length_append]; exact HW.out
          case measure => simp [intOf]; omega
        · by_cases hq : 0 < q
          · have hn : ¬ (lk.length : Int) < 28 := fun h => hgo ⟨hq, h⟩
            clear hgo
            go_wp2_with fail
            refine (below_at B c _ _ a len cap _ (At.start hat.out.2)).mono ?_
            rintro e w3 ⟨r, rfl, hr0, _, hr2, _, h3⟩
            have hr := hr2 (by omega)
            have HO3 : Hid (w3.ownsRow w.heap.size 68 3 (.slice (some ⟨gv, 0, none⟩) lk.length cv) lk.length (flat lk)) := own_touch hown.out h3.1 hcw
            have HA3 : Hid (At B w w3 c a len cap) := hat.out.step h3
            have hs3 : w.heap.size ≤ w3.heap.size := HA3.out.size
            clear h3 hr2 hown hat
            go_wp2_with (at_builtin; refine wpList_append_own _ rfl _ _ 39 rfl w.heap.size 68 i0 (.agg #[.int .i64 0, .int .i64 0, .int .i64 0]) 3 24 Try.underlying39 hi hz0 hz1 hz2 rfl (by decide) _ _ _ rfl (HO3.out.alloc _) ⟨w3.heap.size, 0, none⟩ 2 2 (flat [(2, _, 0), (20, 0, 0)]) rfl rfl (lit_flat w3 [(2, _, 0), (20, 0, 0)] _ _ rfl) (flat_one _) (by unfold maxLen; omega) (by omega) (by simp; omega) ?_)
            intro v' w4 hown' hgrow hnil
            have hb4 : Below w.heap.size w3 w4 := ((Below.refl _ _).alloc hs3 _).grown hgrow (by simp; omega) (fun g hg => (HO3.out.lt g hg).1)
            have HA4 : Hid (At B w w4 c a len cap) := HA3.out.low hcw hb4
            have HV : Hid (v' ≠ .slice none 0 0) := fun h => by first | exact hnil h | exact absurd (hnil.1 h).1 (by simp)
            have HW := hown'
            rw [← flat_append] at HW
            go_wp2
            go_ret
            exact ⟨_, _, rfl, by rw [List.length_append]; exact HW, HV.out, by simp, by simp; omega, hfit.out.append (by simp only [Fits, FitsI, and_true]; omega), HA4.out⟩
          · clear hgo
            go_wp2_with fail
            refine (below_at B c _ _ a len cap _ (At.start hat.out.2)).mono ?_
            rintro e w3 ⟨r, rfl, hr0, _, hr2, _, h3⟩
            have hr := hr2 (by omega)
            have HO3 : Hid (w3.ownsRow w.heap.size 68 3 (.slice (some ⟨gv, 0, none⟩) lk.length cv) lk.length (flat lk)) := own_touch hown.out h3.1 hcw
            have HA3 : Hid (At B w w3 c a len cap) := hat.out.step h3
            have hs3 : w.heap.size ≤ w3.heap.size := HA3.out.size
            clear h3 hr2 hown hat
            go_wp2_with (at_builtin; refine wpList_append_own _ rfl _ _ 39 rfl w.heap.size 68 i0 (.agg #[.int .i64 0, .int .i64 0, .int .i64 0]) 3 24 Try.underlying39 hi hz0 hz1 hz2 rfl (by decide) _ _ _ rfl (HO3.out.alloc _) ⟨w3.heap.size, 0, none⟩ 2 2 (flat [(2, _, 0), (20, 0, 0)]) rfl rfl (lit_flat w3 [(2, _, 0), (20, 0, 0)] _ _ rfl) (flat_one _) (by unfold maxLen; omega) (by omega) (by simp; omega) ?_)
            intro v' w4 hown' hgrow hnil
            have hb4 : Below w.heap.size w3 w4 := ((Below.refl _ _).alloc hs3 _).grown hgrow (by simp; omega) (fun g hg => (HO3.out.lt g hg).1)
            have HA4 : Hid (At B w w4 c a len cap) := HA3.out.low hcw hb4
            have HV : Hid (v' ≠ .slice none 0 0) := fun h => by first | exact hnil h | exact absurd (hnil.1 h).1 (by simp)
            have HW := hown'
            rw [← flat_append] at HW
            go_wp2
            go_ret
            exact ⟨_, _, rfl, by rw [List.length_append]; exact HW, HV.out, by simp, by simp; omega, hfit.out.append (by simp only [Fits, FitsI, and_true]; omega), HA4.out⟩
theorem drawCode_cur (B c : Nat) (w : World) (a : Option Addr) (len cap : Nat) (h : Cur B w c a len cap) :
    Calls Try.prog 110 #[.pointer (some ⟨c, 0, none⟩)] w fun e w' => DrewC B w w c a len cap 36 e w' :=
  (drawCode_own B c w a len cap h).mono fun _ _ ⟨x, l, he, ho, hx, _, h2, hf, hat⟩ => ⟨x, l, he, got_of ho hx, h2, hf, hat⟩
end Cu
end Go.Proofs.Ytmbbombjlijknaa

/- Rows of numbers: what the laws' own functions do with them. -/
namespace Go.Proofs.Ytmbbombjlijknaa
namespace St
open Go.ChangeShapes Go.WideShapes Go.ChangeAt Go.RowKit

/-- The numbers l lie in block g from place o on. -/
def IRow (w : World) (g o : Nat) (l : List Int) : Prop := ∀ j x, l[j]? = some x → w.cell? ⟨g, o + j, none⟩ = some (.int .i64 x)
theorem IRow.on {u v : World} {g o : Nat} {l : List Int} (h : IRow u g o l) (hb : Below u.heap.size u v) : IRow v g o l := fun j x hj => (hb.cell (cell_lt (h j x hj))).trans (h j x hj)
theorem IRow.below {B : Nat} {u v : World} {g o : Nat} {l : List Int} (h : IRow u g o l) (hb : Below B u v) (hg : g < B) : IRow v g o l := fun j x hj => (hb.cell hg).trans (h j x hj)
theorem Only.irow {g g' o : Nat} {u v : World} {l : List Int} (h : Only g u v) (hne : g' ≠ g) (hr : IRow u g' o l) : IRow v g' o l := fun j x hj => (World.cell?_of_block (w := u) (h.block g' hne)).trans (hr j x hj)
theorem Only.room {g g' n : Nat} {u v : World} (h : Only g u v) (hne : g' ≠ g) (hr : Room u g' n) : Room v g' n := by
  intro i hi
  obtain ⟨⟨x, hx⟩, hf⟩ := hr i hi
  exact ⟨⟨x, (World.cell?_of_block (w := u) (h.block g' hne)).trans hx⟩, (World.frozen?_of_block (w := u) (h.block g' hne)).trans hf⟩
theorem IRow.nil (w : World) (g o : Nat) : IRow w g o [] := fun j x h => by simp at h
/-- One more number written behind those that lie there. -/
theorem irow_next {w : World} {g k : Nat} {l : List Int} (hk : k < l.length) (hroom : Room w g l.length) (hr : IRow w g 0 (l.take k)) : IRow (w.setCell ⟨g, k, none⟩ (.int .i64 l[k])) g 0 (l.take (k + 1)) := by
  intro j x hj
  rw [List.getElem?_take] at hj
  split at hj
  · rename_i hjk
    rw [Nat.zero_add]
    by_cases e : j = k
    · subst e
      rw [List.getElem?_eq_getElem hk] at hj
      injection hj with hj
      subst hj
      obtain ⟨⟨y, hy⟩, _⟩ := hroom j hk
      exact World.cell?_setCell_same _ _ _ hy
    · have hjt : (l.take k)[j]? = some x := by rw [List.getElem?_take, if_pos (by omega)]; exact hj
      have := hr j x hjt
      rw [Nat.zero_add] at this
      exact (World.cell?_setCell_other _ _ _ _ (fun e' => e (congrArg Addr.off e').symm)).trans this
  · simp at hj
/-- One number of a row written anew. -/
theorem irow_set {w : World} {g k : Nat} {l : List Int} (x : Int) (hr : IRow w g 0 l) : IRow (w.setCell ⟨g, k, none⟩ (.int .i64 x)) g 0 (l.set k x) := by
  intro j y hj
  rw [Nat.zero_add]
  rw [List.getElem?_set] at hj
  by_cases e : k = j
  · subst e
    by_cases hk : k < l.length
    · rw [if_pos rfl, if_pos hk] at hj
      injection hj with hj
      subst hj
      have := hr k _ (List.getElem?_eq_getElem hk)
      rw [Nat.zero_add] at this
      exact World.cell?_setCell_same _ _ _ this
    · rw [if_pos rfl, if_neg hk] at hj
      simp at hj
  · rw [if_neg e] at hj
    have := hr j y hj
    rw [Nat.zero_add] at this
    exact (World.cell?_setCell_other _ _ _ _ (fun e' => e (congrArg Addr.off e'))).trans this

theorem made_lt {w : World} {B e n g cap q : Nat} {xs : List Value} (h : w.ownsRow B e q (.slice (some ⟨g, 0, none⟩) n cap) n xs) : g < w.heap.size := by
  obtain ⟨_, h | ⟨g', cap', cur, hv, _, hblk, _⟩⟩ := h
  · simp at h
  · injection hv with h1 h2 h3
    simp at h1
    subst h1
    rcases Nat.lt_or_ge g w.heap.size with h | h
    · exact h
    · rw [Array.getElem?_eq_none h] at hblk
      simp at hblk

theorem irow_made {w : World} {B e n g cap : Nat} (h : w.ownsRow B e 1 (.slice (some ⟨g, 0, none⟩) n cap) n (madeCells (Value.int .i64 0).cells (n * 1)).toList) : IRow w g 0 (List.replicate n 0) := by
  intro j x hj
  rw [List.getElem?_replicate] at hj
  split at hj
  · rename_i hjn
    injection hj with hj
    subst hj
    have := World.ownsRow.cells h (g := g) rfl j (.int .i64 0) (by
      rw [Nat.mul_one]
      show (madeCells #[.int .i64 0] n).toList[j]? = _
      rw [toList_madeCells_one, List.getElem?_replicate, if_pos hjn])
    simp only [Go.WideShapes.add_plain, Nat.zero_add] at this
    simpa using this
  · simp at hj

theorem infoN : (Try.prog.info? 2).map (fun i => (i.zero, i.size, i.bytes)) = some (some (.int .i64 0), 1, 8) := by kernel_rfl

set_option maxHeartbeats 1000000 in
theorem likeSame (g g' cap cap' : Nat) (l : List Int) (hl : l.length ≤ 1048576) (w : World) (h1 : IRow w g 0 l) (h2 : IRow w g' 0 l) :
    Calls Try.prog 15 #[.slice (some ⟨g, 0, none⟩) l.length cap, .slice (some ⟨g', 0, none⟩) l.length cap'] w fun e w' => e = .returned (.bool true) ∧ Below w.heap.size w w' := by
  have H1 : Hid (IRow w g 0 l) := h1
  have H2 : Hid (IRow w g' 0 l) := h2
  clear h1 h2
  go_enter Try.func15, Try.ntmps15
  go_wp2
  go_loopw [5] (fun i wr => ∃ k : Nat, k ≤ l.length ∧ i = .int .i64 k ∧ Below w.heap.size w wr) (fun i _ => l.length - (intOf i).toNat)
  case atStart => exact ⟨0, Nat.zero_le _, rfl, Below.refl _ _⟩
  case round =>
    obtain ⟨k, hk, rfl, hb⟩ := hrel
    by_cases hlt : k < l.length
    · have a0 := H1.out.on hb k _ (List.getElem?_eq_getElem hlt)
      have b0 := H2.out.on hb k _ (List.getElem?_eq_getElem hlt)
      generalize l[k] = x at *
      simp only [Nat.zero_add] at a0 b0
      have hki : (k : Int) < (l.length : Int) := by omega
      have hki0 : (0 : Int) ≤ (k : Int) := by omega
      have r0 := cell_regrown a0
      have s0 := cell_regrown b0
      go_wp2_with fail
      refine wp_region_quiet_below (by kernel_rfl) (by kernel_rfl) ?_
      repeat (quiet_step (fail))
      refine wpQuiet_nil ?_
      intro _ hw'
      obtain ⟨⟨dq, osq⟩, hw''⟩ := hw'
      subst hw''
      have hw1 : Below w.heap.size w (Sort.grow (redrawn wr dq) osq) := below_over hb (below_regrown wr dq osq)
      clear a0 b0 r0 s0 hb
      generalize Sort.grow (redrawn wr dq) osq = w1 at *
      go_wp2
      go_roundw
      case rel => exact ⟨k + 1, by omega, by go_num, hw1⟩
      case measure => simp [intOf]; omega
    · go_wp2
      go_ret
      exact ⟨rfl, hb⟩
/-- The marks k, k + 1, .. -/
def imarks (m n : Nat) : List Int := (List.range n).map fun (j : Nat) => (m : Int) + (j : Int)
theorem imarks_len (m n : Nat) : (imarks m n).length = n := by simp [imarks]
theorem imarks_at {m n k : Nat} (h : k < n) : (imarks m n)[k]? = some ((m : Int) + (k : Int)) := by simp [imarks, h]
end St
end Go.Proofs.Ytmbbombjlijknaa

/- Plain facts on layouts: places, jumps that are too far, and that the least right layout is one alone. No program in it. -/
namespace Go.Proofs.Ytmbbombjlijknaa
namespace Lay

def jumpB (op : Int) : Bool := decide (op = 11) || decide (op = 12)
def codeOk (l : List Tx.Ins) : Bool := decide (0 < l.length) && Tx.okC l && l.all (fun x => !(jumpB x.1) || decide (x.2.1 < (l.length : Int)))
/-- The bytes of a step, without what a wide jump has more. -/
def bytesF (op a : Int) : Int :=
  if op = 1 then (if -128 ≤ a ∧ a ≤ 127 then 2 else 5)
  else if op = 2 ∨ op = 3 ∨ op = 11 ∨ op = 12 ∨ op = 14 ∨ op = 15 ∨ op = 16 then 2 else if op = 17 then 3 else 1
theorem bytes_bd (op a : Int) : 1 ≤ bytesF op a ∧ bytesF op a ≤ 5 := by unfold bytesF; (repeat' split) <;> omega

theorem ok_len {l : List Tx.Ins} (h : codeOk l = true) : 0 < l.length ∧ l.length ≤ 40 := by
  unfold codeOk Tx.okC at h
  simp only [Bool.and_eq_true, decide_eq_true_eq] at h
  exact ⟨h.1.1, h.1.2.1⟩
theorem ok_each {l : List Tx.Ins} (h : codeOk l = true) : Tx.okC l = true := by
  unfold codeOk at h
  simp only [Bool.and_eq_true, decide_eq_true_eq] at h
  exact h.1.2
theorem ok_at {l : List Tx.Ins} (h : codeOk l = true) {k : Nat} {x : Tx.Ins} (hx : l[k]? = some x) : Tx.okI x.1 x.2.1 x.2.2 = true := by
  have h1 := ok_each h
  unfold Tx.okC at h1
  simp only [Bool.and_eq_true, decide_eq_true_eq] at h1
  exact List.all_eq_true.1 h1.2 x (List.mem_of_getElem? hx)
theorem ok_jump {l : List Tx.Ins} (h : codeOk l = true) {k : Nat} {x : Tx.Ins} (hx : l[k]? = some x) (hj : jumpB x.1 = true) : 0 ≤ x.2.1 ∧ x.2.1 < (l.length : Int) := by
  have h0 := ok_at h hx
  unfold codeOk at h
  simp only [Bool.and_eq_true] at h
  have h1 := List.all_eq_true.1 h.2 x (List.mem_of_getElem? hx)
  simp [hj] at h1
  refine ⟨?_, h1⟩
  unfold jumpB at hj
  unfold Tx.okI at h0
  have e : ¬ x.1 = 1 := by
    intro e; rw [e] at hj; simp at hj
  rw [if_neg e] at h0
  simp only [Bool.and_eq_true, decide_eq_true_eq] at h0
  exact h0.1.1.1

/-- How wide step k is laid: what is not told is short. -/
def wd (v : List Int) (k : Nat) : Int := (v[k]?).getD 0
def ins (l : List Tx.Ins) (k : Nat) : Tx.Ins := (l[k]?).getD (0, 0, 0)
def sz (l : List Tx.Ins) (v : List Int) (k : Nat) : Int := bytesF (ins l k).1 (ins l k).2.1 + wd v k
/-- Where step k begins. -/
def pl (l : List Tx.Ins) (v : List Int) : Nat → Int
  | 0 => 0
  | k + 1 => pl l v k + sz l v k
def places (l : List Tx.Ins) (v : List Int) : List Int := (List.range (l.length + 1)).map (pl l v)
theorem places_len (l : List Tx.Ins) (v : List Int) : (places l v).length = l.length + 1 := by simp [places]
theorem places_at {l : List Tx.Ins} {v : List Int} {k : Nat} (h : k ≤ l.length) : (places l v)[k]? = some (pl l v k) := by
  have : k < l.length + 1 := by omega
  simp [places, this]

/-- A layout of the code: a 0 or 1 for each step, 1 for jumps alone. -/
def Wide (l : List Tx.Ins) (v : List Int) : Prop := v.length = l.length ∧ ∀ k, wd v k = 0 ∨ (wd v k = 1 ∧ jumpB (ins l k).1 = true)
def dist (l : List Tx.Ins) (v : List Int) (k : Nat) : Int := pl l v (ins l k).2.1.toNat - pl l v k
def offB (d : Int) : Bool := decide (d < -16) || decide (15 < d)
/-- A short jump that goes too far. -/
def far (l : List Tx.Ins) (v : List Int) (k : Nat) : Bool := jumpB (ins l k).1 && decide (wd v k = 0) && offB (dist l v k)
def Right (l : List Tx.Ins) (v : List Int) : Prop := Wide l v ∧ ∀ k, k < l.length → far l v k = false
def Le (v u : List Int) : Prop := ∀ k, wd v k ≤ wd u k

theorem pl_bd {l : List Tx.Ins} {v : List Int} (h : ∀ k, wd v k = 0 ∨ wd v k = 1) : ∀ k, 0 ≤ pl l v k ∧ pl l v k ≤ 6 * k := by
  intro k
  induction k with
  | zero => simp [pl]
  | succ k ih =>
    have := bytes_bd (ins l k).1 (ins l k).2.1
    have := h k
    simp only [pl, sz]
    omega
theorem Wide.bit {l : List Tx.Ins} {v : List Int} (h : Wide l v) (k : Nat) : wd v k = 0 ∨ wd v k = 1 := by
  rcases h.2 k with e | e
  · exact Or.inl e
  · exact Or.inr e.1
/-- From one place to a later one: at least nothing, and with more wide ones no less. -/
theorem span {l : List Tx.Ins} {v u : List Int} (hv : ∀ k, wd v k = 0 ∨ wd v k = 1) (h : Le v u) (a : Nat) : ∀ n, 0 ≤ pl l v (a + n) - pl l v a ∧ pl l v (a + n) - pl l v a ≤ pl l u (a + n) - pl l u a := by
  intro n
  induction n with
  | zero => simp
  | succ n ih =>
    have h1 := bytes_bd (ins l (a + n)).1 (ins l (a + n)).2.1
    have h2 := hv (a + n)
    have h3 := h (a + n)
    rw [← Nat.add_assoc]
    simp only [pl, sz]
    omega
theorem off_mono {l : List Tx.Ins} {v u : List Int} (hv : ∀ k, wd v k = 0 ∨ wd v k = 1) (h : Le v u) (k : Nat) (ho : offB (dist l v k) = true) : offB (dist l u k) = true := by
  unfold offB dist at *
  simp only [Bool.or_eq_true, decide_eq_true_eq] at *
  by_cases hk : k ≤ (ins l k).2.1.toNat
  · have := span (l := l) hv h k ((ins l k).2.1.toNat - k)
    rw [show k + ((ins l k).2.1.toNat - k) = (ins l k).2.1.toNat by omega] at this
    omega
  · have := span (l := l) hv h (ins l k).2.1.toNat (k - (ins l k).2.1.toNat)
    rw [show (ins l k).2.1.toNat + (k - (ins l k).2.1.toNat) = k by omega] at this
    omega
/-- What is too far in a layout is wide in each right one that has all its wide ones. -/
theorem forced {l : List Tx.Ins} {v u : List Int} (hv : ∀ k, wd v k = 0 ∨ wd v k = 1) (h : Le v u) (hu : Right l u) {k : Nat} (hk : k < l.length) (hf : far l v k = true) : wd u k = 1 := by
  rcases hu.1.2 k with e | e
  · exfalso
    have h1 := hu.2 k hk
    unfold far at h1 hf
    simp only [Bool.and_eq_true, decide_eq_true_eq] at hf
    have h2 := off_mono hv h k hf.2
    rw [hf.1.1, h2, e] at h1
    simp at h1
  · exact e.1

/-- All wide ones of the layout are wide in each right one. -/
def Below1 (l : List Tx.Ins) (v : List Int) : Prop := ∀ u, Right l u → Le v u
def Least (l : List Tx.Ins) (v : List Int) : Prop := Right l v ∧ Below1 l v

theorem wd_set (v : List Int) (k j : Nat) (x : Int) (hk : k < v.length) : wd (v.set k x) j = if j = k then x else wd v j := by
  unfold wd
  rw [List.getElem?_set]
  by_cases e : k = j
  · subst e; simp [hk]
  · simp [e, Ne.symm e]
theorem wide_set {l : List Tx.Ins} {v : List Int} (h : Wide l v) {k : Nat} (hk : k < l.length) (hj : jumpB (ins l k).1 = true) : Wide l (v.set k 1) := by
  refine ⟨by rw [List.length_set]; exact h.1, fun j => ?_⟩
  rw [wd_set _ _ _ _ (by rw [h.1]; exact hk)]
  split
  · rename_i e; subst e; exact Or.inr ⟨rfl, hj⟩
  · exact h.2 j
theorem le_set {l : List Tx.Ins} {v : List Int} (h : Wide l v) {k : Nat} (hk : k < l.length) : Le v (v.set k 1) := by
  intro j
  rw [wd_set _ _ _ _ (by rw [h.1]; exact hk)]
  split
  · rename_i e; subst e; rcases h.bit j with e | e <;> omega
  · exact Int.le_refl _
theorem Le.trans {a b c : List Int} (h : Le a b) (k : Le b c) : Le a c := fun j => Int.le_trans (h j) (k j)
theorem Le.refl (a : List Int) : Le a a := fun _ => Int.le_refl _
/-- One more wide one that an earlier layout of the run made wide. -/
theorem below_set {l : List Tx.Ins} {v0 v : List Int} (h0 : Wide l v0) (hv : Wide l v) (hle : Le v0 v) (hb : Below1 l v) {k : Nat} (hk : k < l.length) (hf : far l v0 k = true) : Below1 l (v.set k 1) := by
  intro u hu j
  rw [wd_set _ _ _ _ (by rw [hv.1]; exact hk)]
  split
  · rename_i e
    subst e
    rw [forced h0.bit (hle.trans (hb u hu)) hu hk hf]
    exact Int.le_refl _
  · exact hb u hu j
theorem zeros_wd (n k : Nat) : wd (List.replicate n (0 : Int)) k = 0 := by
  unfold wd
  rw [List.getElem?_replicate]
  split <;> rfl
theorem zeros_wide (l : List Tx.Ins) : Wide l (List.replicate l.length 0) := ⟨by simp, fun k => Or.inl (zeros_wd _ _)⟩
theorem zeros_below (l : List Tx.Ins) : Below1 l (List.replicate l.length 0) := by
  intro u hu k
  rw [zeros_wd]
  rcases hu.1.bit k with e | e <;> omega
theorem wd_ext {v u : List Int} (hl : v.length = u.length) (h : ∀ k, wd v k = wd u k) : v = u := by
  apply List.ext_getElem hl
  intro k h1 h2
  have := h k
  unfold wd at this
  rw [List.getElem?_eq_getElem h1, List.getElem?_eq_getElem h2] at this
  simpa using this
theorem least_one {l : List Tx.Ins} {v u : List Int} (hv : Least l v) (hu : Least l u) : v = u :=
  wd_ext (hv.1.1.1.trans hu.1.1.1.symm) fun k => Int.le_antisymm (hv.2 u hu.1 k) (hu.2 v hv.1 k)

/-- How many are short still. -/
def shorts (v : List Int) : Nat := v.count 0
theorem shorts_set {v : List Int} {k : Nat} (hk : k < v.length) (h : wd v k = 0) : shorts (v.set k 1) < shorts v := by
  have e : v[k] = 0 := by
    unfold wd at h
    rw [List.getElem?_eq_getElem hk] at h
    simpa using h
  unfold shorts
  rw [List.count_set hk, e]
  have : 0 < v.count 0 := List.count_pos_iff.2 (e ▸ List.getElem_mem hk)
  simp
  omega
theorem far_wd {l : List Tx.Ins} {v : List Int} {k : Nat} (h : far l v k = true) : wd v k = 0 ∧ jumpB (ins l k).1 = true := by
  unfold far at h
  simp only [Bool.and_eq_true, decide_eq_true_eq] at h
  exact ⟨h.1.2, h.1.1⟩

/-- The layout of the code: the first that is too far made wide, so many times. -/
def run (l : List Tx.Ins) : Nat → List Int → List Int
  | 0, v => v
  | n + 1, v => match (List.range l.length).find? (far l v) with
    | some k => run l n (v.set k 1)
    | none => v
def layF (l : List Tx.Ins) : List Int := run l l.length (List.replicate l.length 0)
theorem run_least (l : List Tx.Ins) : ∀ (n : Nat) (v : List Int), Wide l v → Below1 l v → shorts v ≤ n → Least l (run l n v)
  | 0, v, hw, hb, hs => by
    refine ⟨⟨hw, fun k hk => ?_⟩, hb⟩
    cases hf : far l v k
    · exact hf
    · have hk' : k < v.length := by rw [hw.1]; exact hk
      have := shorts_set hk' (far_wd hf).1
      omega
  | n + 1, v, hw, hb, hs => by
    unfold run
    split
    · rename_i k hk
      have hf := List.find?_some hk
      have hm := List.mem_of_find?_eq_some hk
      rw [List.mem_range] at hm
      refine run_least l n _ (wide_set hw hm (far_wd hf).2) (below_set hw hw (Le.refl _) hb hm hf) ?_
      have := shorts_set (k := k) (by rw [hw.1]; exact hm) (far_wd hf).1
      omega
    · rename_i hn
      refine ⟨⟨hw, fun k hk => ?_⟩, hb⟩
      have := List.find?_eq_none.1 hn k (List.mem_range.2 hk)
      simpa using this
theorem least_lay (l : List Tx.Ins) : Least l (layF l) :=
  run_least l _ _ (zeros_wide l) (zeros_below l) (by simp [shorts])
theorem lay_of {l : List Tx.Ins} {v : List Int} (h : Least l v) : v = layF l := least_one h (least_lay l)
theorem lay_len (l : List Tx.Ins) : (layF l).length = l.length := (least_lay l).1.1.1

/-- Whether a row of numbers is a layout of the code. -/
def wideB (l : List Tx.Ins) (v : List Int) : Bool := decide (v.length = l.length) && (List.range v.length).all fun k => decide (wd v k = 0) || (decide (wd v k = 1) && jumpB (ins l k).1)
theorem wide_iff (l : List Tx.Ins) (v : List Int) : wideB l v = true ↔ Wide l v := by
  unfold wideB Wide
  simp only [Bool.and_eq_true, decide_eq_true_eq, List.all_eq_true, List.mem_range, Bool.or_eq_true]
  constructor
  · rintro ⟨h, k⟩
    refine ⟨h, fun j => ?_⟩
    by_cases hj : j < v.length
    · exact k j hj
    · left; unfold wd; rw [List.getElem?_eq_none (by omega)]; rfl
  · rintro ⟨h, k⟩
    exact ⟨h, fun j _ => k j⟩
def rightB (l : List Tx.Ins) (v : List Int) : Bool := wideB l v && (List.range l.length).all fun k => !(far l v k)
theorem right_iff (l : List Tx.Ins) (v : List Int) : rightB l v = true ↔ Right l v := by
  unfold rightB Right
  simp only [Bool.and_eq_true, wide_iff, List.all_eq_true, List.mem_range, Bool.not_eq_true']
end Lay
end Go.Proofs.Ytmbbombjlijknaa

/- Programs as plain data, and how they lie in memory. -/
namespace Go.Proofs.Ytmbbombjlijknaa
namespace Pg
open Go.ChangeShapes Go.WideShapes Go.ChangeAt Go.RowKit St

structure Meth where
  name : Int
  args : List Int
  gives : Int
  code : List Tx.Ins
structure Cls where
  super : Int
  fields : List Int
  meths : List Meth
abbrev Prg := List Cls

/-- Nothing from block B on has turned. -/
structure Keep (B : Nat) (u w : World) : Prop where
  size : u.heap.size ≤ w.heap.size
  block : ∀ k, B ≤ k → k < u.heap.size → w.heap[k]? = u.heap[k]?
theorem Keep.of {B : Nat} {u w : World} (h : Below u.heap.size u w) : Keep B u w := ⟨h.size, fun k _ hk => h.block k hk⟩
theorem Keep.refl (B : Nat) (u : World) : Keep B u u := ⟨Nat.le_refl _, fun _ _ _ => rfl⟩
theorem Keep.trans {B : Nat} {u v w : World} (h : Keep B u v) (k : Keep B v w) : Keep B u w := ⟨Nat.le_trans h.size k.size, fun i hi hl => (k.block i hi (Nat.lt_of_lt_of_le hl h.size)).trans (h.block i hi hl)⟩
theorem Keep.mono {B B' : Nat} {u w : World} (h : Keep B u w) (hB : B ≤ B') : Keep B' u w := ⟨h.size, fun k hk hl => h.block k (Nat.le_trans hB hk) hl⟩
theorem Keep.cell {B : Nat} {u w : World} (h : Keep B u w) {p : Addr} (hp : B ≤ p.block) (hl : p.block < u.heap.size) : w.cell? p = u.cell? p := World.cell?_of_block (w := u) (h.block _ hp hl)
theorem Keep.frozen {B : Nat} {u w : World} (h : Keep B u w) {p : Addr} (hp : B ≤ p.block) (hl : p.block < u.heap.size) : w.frozen? p = u.frozen? p := World.frozen?_of_block (w := u) (h.block _ hp hl)
theorem Keep.set {B : Nat} (w : World) {p : Addr} (hp : p.block < B) (v : Value) : Keep B w (w.setCell p v) := by
  have hb := (Below.refl 0 w).setCell (p := p) (Nat.zero_le _) v
  exact ⟨hb.size, fun k hk _ => Below.heap_setCell w p v k (by omega)⟩

/-- A slice whose elements lie where it points, each sz cells, not below block B; where f says so, they may be written. -/
def Arr {α : Type} (E : World → Nat → Nat → α → Prop) (sz : Nat) (f : Bool) (B : Nat) (w : World) (v : Value) (l : List α) : Prop :=
  ∃ a cap, v = .slice a l.length cap ∧ (f = true → a = none → cap = 0) ∧ (0 < l.length → ∃ b o, a = some ⟨b, o, none⟩ ∧ B ≤ b ∧ (b < w.heap.size ∧ (f = true → ∀ j, j < l.length * sz → w.frozen? ⟨b, o + j, none⟩ = false)) ∧ ∀ j x, l[j]? = some x → E w b (o + j * sz) x)
/-- What lasts where nothing from B on is turned. -/
def Lasts {α : Type} (B : Nat) (E : World → Nat → Nat → α → Prop) : Prop := ∀ u w b o x, Keep B u w → B ≤ b → E u b o x → E w b o x
theorem Arr.on {α : Type} {E : World → Nat → Nat → α → Prop} {sz B : Nat} {f : Bool} (hE : Lasts B E) {u w : World} {v : Value} {l : List α} (h : Arr E sz f B u v l) (hb : Keep B u w) : Arr E sz f B w v l := by
  obtain ⟨a, cap, hv, hz, h⟩ := h
  refine ⟨a, cap, hv, hz, fun h0 => ?_⟩
  obtain ⟨b, o, ha, hB, ⟨hl, hf⟩, hx⟩ := h h0
  exact ⟨b, o, ha, hB, ⟨Nat.lt_of_lt_of_le hl hb.size, fun e j hj => (hb.frozen (p := ⟨b, o + j, none⟩) hB hl).trans (hf e j hj)⟩, fun j x hj => hE u w _ _ _ hb hB (hx j x hj)⟩
theorem Arr.get {α : Type} {E : World → Nat → Nat → α → Prop} {sz B : Nat} {f : Bool} {w : World} {a : Option Addr} {n cap : Nat} {l : List α} (h : Arr E sz f B w (.slice a n cap) l) {k : Nat} (hk : k < l.length) : ∃ b o, a = some ⟨b, o, none⟩ ∧ B ≤ b ∧ E w b (o + k * sz) l[k] := by
  obtain ⟨a', cap', hv, _, h⟩ := h
  injection hv with e1 e2 e3
  subst e1
  obtain ⟨b, o, ha, hB, _, hx⟩ := h (by omega)
  exact ⟨b, o, ha, hB, hx k _ (List.getElem?_eq_getElem hk)⟩
/-- The same, and that the element may be written. -/
theorem Arr.getW {α : Type} {E : World → Nat → Nat → α → Prop} {sz B : Nat} {w : World} {a : Option Addr} {n cap : Nat} {l : List α} (h : Arr E sz true B w (.slice a n cap) l) {k : Nat} (hk : k < l.length) : ∃ b o, a = some ⟨b, o, none⟩ ∧ B ≤ b ∧ b < w.heap.size ∧ (∀ i, i < sz → w.frozen? ⟨b, o + k * sz + i, none⟩ = false) ∧ E w b (o + k * sz) l[k] := by
  obtain ⟨a', cap', hv, _, h⟩ := h
  injection hv with e1 e2 e3
  subst e1
  obtain ⟨b, o, ha, hB, ⟨hl, hf⟩, hx⟩ := h (by omega)
  refine ⟨b, o, ha, hB, hl, fun i hi => ?_, hx k _ (List.getElem?_eq_getElem hk)⟩
  have h1 : k * sz + i < l.length * sz := by
    have : (k + 1) * sz ≤ l.length * sz := Nat.mul_le_mul_right _ hk
    rw [Nat.add_mul, Nat.one_mul] at this
    omega
  have := hf rfl (k * sz + i) h1
  rw [← Nat.add_assoc] at this
  exact this
theorem Arr.form {α : Type} {E : World → Nat → Nat → α → Prop} {sz B : Nat} {f : Bool} {w : World} {v : Value} {l : List α} (h : Arr E sz f B w v l) : ∃ a cap, v = .slice a l.length cap := by
  obtain ⟨a, cap, hv, _⟩ := h
  exact ⟨a, cap, hv⟩
theorem Arr.nil {α : Type} {E : World → Nat → Nat → α → Prop} {sz B : Nat} {w : World} {n cap : Nat} {l : List α} (h : Arr E sz true B w (.slice none n cap) l) : l = [] ∧ n = 0 ∧ cap = 0 := by
  obtain ⟨a', cap', hv, hz, h⟩ := h
  injection hv with e1 e2 e3
  subst e1 e3
  have hl : l.length = 0 := by
    rcases Nat.eq_zero_or_pos l.length with h0 | h0
    · exact h0
    · obtain ⟨b, o, ha, _⟩ := h h0
      simp at ha
  exact ⟨List.eq_nil_of_length_eq_zero hl, by omega, hz rfl rfl⟩
theorem Arr.weak {α : Type} {E F : World → Nat → Nat → α → Prop} {sz B B' : Nat} {f : Bool} {w : World} {v : Value} {l : List α} (h : Arr E sz f B w v l) (hB : B' ≤ B) (hEF : ∀ b o x, E w b o x → F w b o x) : Arr F sz f B' w v l := by
  obtain ⟨a, cap, hv, hz, h⟩ := h
  refine ⟨a, cap, hv, hz, fun h0 => ?_⟩
  obtain ⟨b, o, ha, hb, hz, hx⟩ := h h0
  exact ⟨b, o, ha, Nat.le_trans hB hb, hz, fun j x hj => hEF _ _ _ (hx j x hj)⟩

def IntAt (w : World) (b o : Nat) (x : Int) : Prop := w.cell? ⟨b, o, none⟩ = some (.int .i64 x)
theorem IntAt.lasts (B : Nat) : Lasts B IntAt := fun _ _ _ _ _ hb hB h => (hb.cell hB (cell_lt h)).trans h
def InsAt (w : World) (b o : Nat) (x : Tx.Ins) : Prop :=
  w.cell? ⟨b, o, none⟩ = some (.int .i64 x.1) ∧ w.cell? ⟨b, o + 1, none⟩ = some (.int .i64 x.2.1) ∧ w.cell? ⟨b, o + 2, none⟩ = some (.int .i64 x.2.2)
theorem InsAt.lasts (B : Nat) : Lasts B InsAt := by
  rintro u w b o x hb hB ⟨h0, h1, h2⟩
  have l : b < u.heap.size := cell_lt h0
  exact ⟨(hb.cell hB l).trans h0, (hb.cell hB l).trans h1, (hb.cell hB l).trans h2⟩
/-- A slice of numbers, wherever it lies. -/
abbrev SI (f : Bool) (B : Nat) := Arr IntAt 1 f B
/-- A slice of steps, wherever it lies. -/
abbrev SC (B : Nat) := Arr InsAt 3 false B
theorem SI.on {f : Bool} {B : Nat} {u w : World} {v : Value} {l : List Int} (h : SI f B u v l) (hb : Keep B u w) : SI f B w v l := Arr.on (IntAt.lasts B) h hb
theorem SC.on {B : Nat} {u w : World} {v : Value} {l : List Tx.Ins} (h : SC B u v l) (hb : Keep B u w) : SC B w v l := Arr.on (InsAt.lasts B) h hb
theorem SI.weak {f : Bool} {B B' : Nat} {w : World} {v : Value} {l : List Int} (h : SI f B w v l) (hB : B' ≤ B) : SI f B' w v l := Arr.weak h hB fun _ _ _ h => h
/-- A slice of steps at the front of a block, which may be written. -/
def CS (B : Nat) (w : World) (v : Value) (l : List Tx.Ins) : Prop := ∃ g cap, v = .slice (some ⟨g, 0, none⟩) l.length cap ∧ B ≤ g ∧ g < w.heap.size ∧ Row w g 0 l ∧ Room w g (l.length * 3)
theorem CS.on {B : Nat} {u w : World} {v : Value} {l : List Tx.Ins} (h : CS B u v l) (hb : Keep B u w) : CS B w v l := by
  obtain ⟨g, cap, hv, h1, h2, h3, h4⟩ := h
  refine ⟨g, cap, hv, h1, Nat.lt_of_lt_of_le h2 hb.size, fun j x hj => ?_, fun i hi => ?_⟩
  · obtain ⟨c0, c1, c2⟩ := h3 j x hj
    exact ⟨(hb.cell h1 h2).trans c0, (hb.cell h1 h2).trans c1, (hb.cell h1 h2).trans c2⟩
  · obtain ⟨⟨x, hx⟩, hf⟩ := h4 i hi
    exact ⟨⟨x, (hb.cell h1 h2).trans hx⟩, (hb.frozen h1 h2).trans hf⟩
/-- How slices may lie: in whatever way that lasts. -/
structure Way where
  fr : Bool
  K : Nat → World → Value → List Tx.Ins → Prop
  on : ∀ {B u w v l}, K B u v l → Keep B u w → K B w v l
  weak : ∀ {B B' w v l}, K B w v l → B' ≤ B → K B' w v l
  form : ∀ {B w v l}, K B w v l → ∃ a cap, v = .slice a l.length cap
def wide : Way := ⟨false, SC, fun h hb => SC.on h hb, fun h hB => Arr.weak h hB fun _ _ _ h => h, fun h => h.form⟩
def front : Way := ⟨true, CS, fun h hb => h.on hb, fun ⟨g, cap, h1, h2, h3⟩ hB => ⟨g, cap, h1, Nat.le_trans hB h2, h3⟩, fun ⟨_, cap, h, _⟩ => ⟨_, cap, h⟩⟩

/-- The four cells of a method, and what they mean. -/
def MV (K : Way) (B : Nat) (w : World) (va vc : Value) (m : Meth) : Prop := SI K.fr B w va m.args ∧ K.K B w vc m.code
def MAt (K : Way) (B : Nat) (w : World) (b o : Nat) (m : Meth) : Prop :=
  ∃ va vc, w.cell? ⟨b, o, none⟩ = some (.int .i64 m.name) ∧ w.cell? ⟨b, o + 1, none⟩ = some va ∧ w.cell? ⟨b, o + 2, none⟩ = some (.int .i64 m.gives) ∧ w.cell? ⟨b, o + 3, none⟩ = some vc ∧ MV K B w va vc m
theorem MV.on {K : Way} {B : Nat} {u w : World} {va vc : Value} {m : Meth} (h : MV K B u va vc m) (hb : Keep B u w) : MV K B w va vc m := ⟨SI.on h.1 hb, K.on h.2 hb⟩
theorem MV.weak {K : Way} {B B' : Nat} {w : World} {va vc : Value} {m : Meth} (h : MV K B w va vc m) (hB : B' ≤ B) : MV K B' w va vc m := ⟨SI.weak h.1 hB, K.weak h.2 hB⟩
theorem MAt.lasts (K : Way) (B : Nat) : Lasts B (MAt K B) := by
  rintro u w b o m hb hB ⟨va, vc, h0, h1, h2, h3, h4⟩
  have l : b < u.heap.size := cell_lt h0
  exact ⟨va, vc, (hb.cell hB l).trans h0, (hb.cell hB l).trans h1, (hb.cell hB l).trans h2, (hb.cell hB l).trans h3, h4.on hb⟩
abbrev SM (K : Way) (B : Nat) := Arr (MAt K B) 4 K.fr B
theorem SM.on {K : Way} {B : Nat} {u w : World} {v : Value} {l : List Meth} (h : SM K B u v l) (hb : Keep B u w) : SM K B w v l := Arr.on (MAt.lasts K B) h hb
theorem SM.weak {K : Way} {B B' : Nat} {w : World} {v : Value} {l : List Meth} (h : SM K B w v l) (hB : B' ≤ B) : SM K B' w v l :=
  Arr.weak h hB fun _ _ _ ⟨va, vc, h0, h1, h2, h3, h4⟩ => ⟨va, vc, h0, h1, h2, h3, h4.weak hB⟩
def CV (K : Way) (B : Nat) (w : World) (vf vm : Value) (c : Cls) : Prop := SI K.fr B w vf c.fields ∧ SM K B w vm c.meths
def CAt (K : Way) (B : Nat) (w : World) (b o : Nat) (c : Cls) : Prop :=
  ∃ vf vm, w.cell? ⟨b, o, none⟩ = some (.int .i64 c.super) ∧ w.cell? ⟨b, o + 1, none⟩ = some vf ∧ w.cell? ⟨b, o + 2, none⟩ = some vm ∧ CV K B w vf vm c
theorem CV.on {K : Way} {B : Nat} {u w : World} {vf vm : Value} {c : Cls} (h : CV K B u vf vm c) (hb : Keep B u w) : CV K B w vf vm c := ⟨SI.on h.1 hb, SM.on h.2 hb⟩
theorem CV.weak {K : Way} {B B' : Nat} {w : World} {vf vm : Value} {c : Cls} (h : CV K B w vf vm c) (hB : B' ≤ B) : CV K B' w vf vm c := ⟨SI.weak h.1 hB, SM.weak h.2 hB⟩
theorem CAt.lasts (K : Way) (B : Nat) : Lasts B (CAt K B) := by
  rintro u w b o m hb hB ⟨vf, vm, h0, h1, h2, h4⟩
  have l : b < u.heap.size := cell_lt h0
  exact ⟨vf, vm, (hb.cell hB l).trans h0, (hb.cell hB l).trans h1, (hb.cell hB l).trans h2, h4.on hb⟩
abbrev SK (K : Way) (B : Nat) := Arr (CAt K B) 3 K.fr B
theorem SK.on {K : Way} {B : Nat} {u w : World} {v : Value} {l : Prg} (h : SK K B u v l) (hb : Keep B u w) : SK K B w v l := Arr.on (CAt.lasts K B) h hb
theorem SK.weak {K : Way} {B B' : Nat} {w : World} {v : Value} {l : Prg} (h : SK K B w v l) (hB : B' ≤ B) : SK K B' w v l :=
  Arr.weak h hB fun _ _ _ ⟨va, vc, h0, h1, h2, h4⟩ => ⟨va, vc, h0, h1, h2, h4.weak hB⟩
theorem SI.row {f : Bool} {w : World} {B g cap : Nat} {l : List Int} (hB : B ≤ g) (hg : g < w.heap.size) (h : IRow w g 0 l) (hr : Room w g l.length) : SI f B w (.slice (some ⟨g, 0, none⟩) l.length cap) l :=
  ⟨_, cap, rfl, fun _ h => by simp at h, fun _ => ⟨g, 0, rfl, hB, ⟨hg, fun _ j hj => by rw [Nat.mul_one] at hj; rw [Nat.zero_add]; exact (hr j hj).2⟩, fun j x hj => by rw [Nat.mul_one]; exact h j x hj⟩⟩

/-- How much there is in a program. -/
def szM (m : Meth) : Nat := m.args.length + m.code.length
def sumN (l : List Nat) : Nat := l.foldr (· + ·) 0
def szMs (ms : List Meth) : Nat := ms.length + sumN (ms.map szM)
def szC (c : Cls) : Nat := c.fields.length + szMs c.meths
def szP (p : Prg) : Nat := p.length + sumN (p.map szC)
theorem sumN_le {l : List Nat} {n : Nat} (h : n ∈ l) : n ≤ sumN l := by
  induction l with
  | nil => simp at h
  | cons x l ih =>
    simp only [sumN, List.foldr_cons]
    rcases List.mem_cons.1 h with rfl | h
    · omega
    · have := ih h; simp only [sumN] at this; omega
theorem sumN_take_succ {α : Type} (f : α → Nat) (l : List α) (k : Nat) (hk : k < l.length) : sumN ((l.take (k + 1)).map f) = sumN ((l.take k).map f) + f l[k] := by
  rw [List.take_succ_eq_append_getElem hk, List.map_append]
  generalize (l.take k).map f = a
  induction a with
  | nil => simp [sumN]
  | cons x a ih => simp only [sumN, List.cons_append, List.foldr_cons] at ih ⊢; omega
theorem sumN_take_le {α : Type} (f : α → Nat) (l : List α) (k : Nat) : sumN ((l.take k).map f) ≤ sumN (l.map f) := by
  induction l generalizing k with
  | nil => simp
  | cons x l ih =>
    cases k with
    | zero => simp [sumN]
    | succ k => have := ih k; simp only [sumN, List.take_succ_cons, List.map_cons, List.foldr_cons] at this ⊢; omega
theorem szM_le {ms : List Meth} {m : Meth} (h : m ∈ ms) : szM m ≤ szMs ms := by
  have := sumN_le (List.mem_map_of_mem (f := szM) h); unfold szMs; omega
theorem szC_le {p : Prg} {c : Cls} (h : c ∈ p) : szC c ≤ szP p := by
  have := sumN_le (List.mem_map_of_mem (f := szC) h); unfold szP; omega
end Pg
end Go.Proofs.Ytmbbombjlijknaa

/- When a program is right, as a plain function. -/
namespace Go.Proofs.Ytmbbombjlijknaa
namespace Pg
open Go.ChangeShapes Go.WideShapes Go.ChangeAt Go.RowKit St

def tyB (n t : Int) : Bool := decide (t = -1) || (decide (0 ≤ t) && decide (t < n))
def okMB (n : Int) (m : Meth) : Bool := decide (0 ≤ m.name) && decide (m.name ≤ 19) && decide (m.args.length ≤ 3) && m.args.all (tyB n) && tyB n m.gives && Lay.codeOk m.code
def ownF (c : Cls) (name : Int) : Option Meth := c.meths.find? fun m => decide (m.name = name)
def agree1 (c : Cls) (m : Meth) : Bool := match ownF c m.name with | none => true | some x => decide (x.args = m.args) && decide (x.gives = m.gives)
def agreeF (p : Prg) (m : Meth) : Nat → Int → Bool
  | 0, _ => true
  | f + 1, up => if up < 0 then true else match p[up.toNat]? with | none => true | some c => agree1 c m && agreeF p m f c.super
def okK (p : Prg) (c : Cls) (k : Nat) : Bool := match c.meths[k]? with
  | none => true
  | some m => okMB p.length m && (match k with | 0 => true | j + 1 => match c.meths[j]? with | none => true | some q => decide (q.name < m.name)) && agreeF p m 6 c.super
def okCB (p : Prg) (i : Nat) (c : Cls) : Bool := decide (-1 ≤ c.super) && decide (c.super < (i : Int)) && decide (c.fields.length ≤ 4) && c.fields.all (tyB p.length) && decide (c.meths.length ≤ 4) && (List.range c.meths.length).all (okK p c)
def okAt (p : Prg) (i : Nat) : Bool := match p[i]? with | none => true | some c => okCB p i c
def mainOk (p : Prg) : Bool := match p[0]? with | none => false | some c => match ownF c 0 with | none => false | some m => decide (m.args.length = 0) && decide (m.gives = -1)
def okP (p : Prg) : Bool := decide (1 ≤ p.length) && decide (p.length ≤ 6) && (List.range p.length).all (okAt p) && mainOk p

theorem okP_len {p : Prg} (h : okP p = true) : 1 ≤ p.length ∧ p.length ≤ 6 := by
  unfold okP at h
  simp only [Bool.and_eq_true, decide_eq_true_eq] at h
  exact ⟨h.1.1.1, h.1.1.2⟩
theorem okP_at {p : Prg} (h : okP p = true) {i : Nat} (hi : i < p.length) : okAt p i = true := by
  unfold okP at h
  simp only [Bool.and_eq_true] at h
  exact List.all_eq_true.1 h.1.2 i (List.mem_range.2 hi)
theorem okP_few {p : Prg} (h : p.length < 1) : okP p = false := by simp [okP]; omega
theorem okP_many {p : Prg} (h : 6 < p.length) : okP p = false := by
  cases hh : okP p
  · rfl
  · have := okP_len hh; omega
theorem okP_no {p : Prg} {i : Nat} (hi : i < p.length) (h : okAt p i = false) : okP p = false := by
  cases hh : okP p
  · rfl
  · rw [okP_at hh hi] at h; simp at h
theorem okP_main {p : Prg} (h1 : 1 ≤ p.length) (h2 : p.length ≤ 6) (h : ∀ i, i < p.length → okAt p i = true) : okP p = mainOk p := by
  have : (List.range p.length).all (okAt p) = true := List.all_eq_true.2 fun i hi => h i (List.mem_range.1 hi)
  simp [okP, this, h1, h2]
theorem okAt_of {p : Prg} {i : Nat} {c : Cls} (h : p[i]? = some c) : okAt p i = okCB p i c := by simp [okAt, h]
theorem okC_super {p : Prg} {i : Nat} {c : Cls} (h : okCB p i c = true) : -1 ≤ c.super ∧ c.super < (i : Int) := by
  unfold okCB at h
  simp only [Bool.and_eq_true, decide_eq_true_eq] at h
  exact ⟨h.1.1.1.1.1, h.1.1.1.1.2⟩
theorem okC_few {p : Prg} {i : Nat} {c : Cls} (h : okCB p i c = true) : c.fields.length ≤ 4 ∧ c.meths.length ≤ 4 := by
  unfold okCB at h
  simp only [Bool.and_eq_true, decide_eq_true_eq] at h
  exact ⟨h.1.1.1.2, h.1.2⟩
theorem okC_meth {p : Prg} {i : Nat} {c : Cls} (h : okCB p i c = true) {k : Nat} (hk : k < c.meths.length) : okK p c k = true := by
  unfold okCB at h
  simp only [Bool.and_eq_true] at h
  exact List.all_eq_true.1 h.2 k (List.mem_range.2 hk)
theorem okC_no {p : Prg} {i : Nat} {c : Cls} {k : Nat} (hk : k < c.meths.length) (h : okK p c k = false) : okCB p i c = false := by
  cases hh : okCB p i c
  · rfl
  · rw [okC_meth hh hk] at h; simp at h
/-- All classes before this one have a lesser Super. -/
def SupOk (p : Prg) (n : Nat) : Prop := ∀ j c, j < n → p[j]? = some c → -1 ≤ c.super ∧ c.super < (j : Int)
theorem SupOk.of {p : Prg} {n : Nat} (h : ∀ i, i < n → okAt p i = true) : SupOk p n := fun j c hj hc => okC_super (by rw [← okAt_of hc]; exact h j hj)
theorem agreeF_neg (p : Prg) (m : Meth) (f : Nat) {up : Int} (h : up < 0) : agreeF p m f up = true := by
  cases f with
  | zero => rfl
  | succ f => simp [agreeF, h]
theorem agreeF_fuel {p : Prg} {n : Nat} (hs : SupOk p n) (m : Meth) : ∀ (f g : Nat) (up : Int), up < (n : Int) → up < (f : Int) → up < (g : Int) → agreeF p m f up = agreeF p m g up := by
  intro f
  induction f with
  | zero => intro g up _ h1 _; rw [agreeF_neg _ _ _ (by omega), agreeF_neg _ _ _ (by omega)]
  | succ f ih =>
    intro g up hn h1 h2
    by_cases h0 : up < 0
    · rw [agreeF_neg _ _ _ h0, agreeF_neg _ _ _ h0]
    · cases g with
      | zero => omega
      | succ g =>
        simp only [agreeF, h0, if_false]
        cases hc : p[up.toNat]? with
        | none => rfl
        | some c =>
          have := hs up.toNat c (by omega) hc
          simp only []
          rw [ih g c.super (by omega) (by omega) (by omega)]
/-- One class further up. -/
theorem agreeF_step {p : Prg} {n : Nat} (hs : SupOk p n) (m : Meth) {u : Nat} (hu : u < n) (h6 : u < 6) {c : Cls} (hc : p[u]? = some c) : agreeF p m 6 (u : Int) = (agree1 c m && agreeF p m 6 c.super) := by
  have h0 : ¬ (u : Int) < 0 := by omega
  have := hs u c hu hc
  have e : agreeF p m 5 c.super = agreeF p m 6 c.super := agreeF_fuel hs m 5 6 c.super (by omega) (by omega) (by omega)
  show (if (u : Int) < 0 then true else match p[(u : Int).toNat]? with | none => true | some c => agree1 c m && agreeF p m 5 c.super) = _
  rw [if_neg h0, Int.toNat_natCast, hc]
  simp only []
  rw [e]
theorem find_none {c : Cls} {name : Int} (h : ∀ j, j < c.meths.length → ∀ m, c.meths[j]? = some m → m.name ≠ name) : ownF c name = none := by
  unfold ownF
  rw [List.find?_eq_none]
  intro m hm
  obtain ⟨j, hj, rfl⟩ := List.getElem_of_mem hm
  simpa using h j hj _ (List.getElem?_eq_getElem hj)
theorem find_at {c : Cls} {name : Int} {k : Nat} {m : Meth} (h : ∀ j, j < k → ∀ m, c.meths[j]? = some m → m.name ≠ name) (hk : c.meths[k]? = some m) (hn : m.name = name) : ownF c name = some m := by
  unfold ownF
  rw [List.find?_eq_some_iff_getElem]
  obtain ⟨hlt, hm⟩ := List.getElem?_eq_some_iff.1 hk
  refine ⟨by simpa using hn, k, hlt, hm, fun j hj => ?_⟩
  simpa using h j hj _ (List.getElem?_eq_getElem (by omega))
end Pg
end Go.Proofs.Ytmbbombjlijknaa

/- Contracts of the laws' own counting of what there is in a program. -/
namespace Go.Proofs.Ytmbbombjlijknaa
namespace Pg
open Go.ChangeShapes Go.WideShapes Go.ChangeAt Go.RowKit St

/-- What is left, or -1. -/
def szR (n : Nat) (left : Int) : Int := if (n : Int) ≤ left then left - n else -1
theorem szR_yes {n : Nat} {left : Int} (h : (n : Int) ≤ left) : szR n left = left - n := if_pos h
theorem szR_no {n : Nat} {left : Int} (h : left < (n : Int)) : szR n left = -1 := if_neg (by omega)
theorem retI {p q : Int} (h : p = q) : Ending.returned (.int .i64 p) = .returned (.int .i64 q) := by rw [h]
/-- No slice is longer than slices can be. -/
def SaneM (m : Meth) : Prop := m.args.length ≤ 9223372036854775807 ∧ m.code.length ≤ 9223372036854775807
def SaneC (c : Cls) : Prop := c.fields.length ≤ 9223372036854775807 ∧ c.meths.length ≤ 9223372036854775807 ∧ ∀ m ∈ c.meths, SaneM m
def SaneP (p : Prg) : Prop := p.length ≤ 9223372036854775807 ∧ ∀ c ∈ p, SaneC c

end Pg
end Go.Proofs.Ytmbbombjlijknaa

/- Contracts of the laws' own copying of programs. -/
namespace Go.Proofs.Ytmbbombjlijknaa
namespace Pg
open Go.ChangeShapes Go.WideShapes Go.ChangeAt Go.RowKit St

/-- The first cells of a block, which may be written. -/
def Cells (w : World) (k : Nat) (vs : List Value) : Prop := ∀ i x, vs[i]? = some x → w.cell? ⟨k, i, none⟩ = some x ∧ w.frozen? ⟨k, i, none⟩ = false
theorem Cells.on {u w : World} {k : Nat} {vs : List Value} (h : Cells u k vs) (hb : Below u.heap.size u w) : Cells w k vs := fun i x hx => by
  obtain ⟨h1, h2⟩ := h i x hx
  have l : k < u.heap.size := cell_lt h1
  exact ⟨(hb.cell l).trans h1, (hb.frozen l).trans h2⟩
theorem Cells.new (w : World) (k : Nat) (hk : k = w.heap.size) (vs : List Value) (t : TypeId) : Cells (w.alloc (.cells vs.toArray t)) k vs := by
  subst hk
  intro i x hx
  exact ⟨by simp [go_sem, hx], by simp [go_sem]⟩
theorem Cells.alloc {w : World} {k : Nat} {vs : List Value} (h : Cells w k vs) (o : Obj) : Cells (w.alloc o) k vs := h.on ((Below.refl _ _).alloc (Nat.le_refl _) o)
theorem Cells.set {w : World} {k : Nat} {vs : List Value} (h : Cells w k vs) (i : Nat) (v : Value) : Cells (w.setCell ⟨k, i, none⟩ v) k (vs.set i v) := by
  intro j x hx
  rw [List.getElem?_set] at hx
  split at hx
  · rename_i e
    subst e
    split at hx
    · rename_i hl
      simp at hx
      subst hx
      obtain ⟨h1, h2⟩ := h i _ (List.getElem?_eq_getElem hl)
      exact ⟨World.cell?_setCell_same _ _ _ h1, by simpa using h2⟩
    · simp at hx
  · rename_i e
    obtain ⟨h1, h2⟩ := h j x hx
    exact ⟨(World.cell?_setCell_other _ _ _ _ (fun e' => e (congrArg Addr.off e'))).trans h1, by simpa using h2⟩
theorem Cells.g0 {w : World} {k : Nat} {a : Value} {l : List Value} (h : Cells w k (a :: l)) : w.cell? ⟨k, 0, none⟩ = some a ∧ w.frozen? ⟨k, 0, none⟩ = false := h 0 a rfl
theorem Cells.g1 {w : World} {k : Nat} {a b : Value} {l : List Value} (h : Cells w k (a :: b :: l)) : w.cell? ⟨k, 1, none⟩ = some b ∧ w.frozen? ⟨k, 1, none⟩ = false := h 1 b rfl
theorem Cells.g2 {w : World} {k : Nat} {a b c : Value} {l : List Value} (h : Cells w k (a :: b :: c :: l)) : w.cell? ⟨k, 2, none⟩ = some c ∧ w.frozen? ⟨k, 2, none⟩ = false := h 2 c rfl
theorem Cells.g3 {w : World} {k : Nat} {a b c d : Value} {l : List Value} (h : Cells w k (a :: b :: c :: d :: l)) : w.cell? ⟨k, 3, none⟩ = some d ∧ w.frozen? ⟨k, 3, none⟩ = false := h 3 d rfl
theorem Cells.s0 {w : World} {k : Nat} {a : Value} {l : List Value} (h : Cells w k (a :: l)) (v : Value) : Cells (w.setCell ⟨k, 0, none⟩ v) k (v :: l) := h.set 0 v
theorem Cells.s1 {w : World} {k : Nat} {a b : Value} {l : List Value} (h : Cells w k (a :: b :: l)) (v : Value) : Cells (w.setCell ⟨k, 1, none⟩ v) k (a :: v :: l) := h.set 1 v
theorem Cells.s2 {w : World} {k : Nat} {a b c : Value} {l : List Value} (h : Cells w k (a :: b :: c :: l)) (v : Value) : Cells (w.setCell ⟨k, 2, none⟩ v) k (a :: b :: v :: l) := h.set 2 v
theorem Cells.s3 {w : World} {k : Nat} {a b c d : Value} {l : List Value} (h : Cells w k (a :: b :: c :: d :: l)) (v : Value) : Cells (w.setCell ⟨k, 3, none⟩ v) k (a :: b :: c :: v :: l) := h.set 3 v
theorem Cells.far {w : World} {k : Nat} {vs : List Value} (h : Cells w k vs) (p : Addr) (v : Value) (hp : p.block ≠ k) : Cells (w.setCell p v) k vs := fun i x hx => by
  obtain ⟨h1, h2⟩ := h i x hx
  exact ⟨(World.cell?_setCell_other _ _ _ _ (fun e => hp (by rw [e]))).trans h1, by simpa using h2⟩

theorem SI.rows {f : Bool} {B : Nat} {w : World} {a : Option Addr} {n cap : Nat} {l : List Int} (h : SI f B w (.slice a n cap) l) : 0 < l.length → ∃ b o, a = some ⟨b, o, none⟩ ∧ IRow w b o l := by
  intro h0
  obtain ⟨a', cap', hv, _, h⟩ := h
  injection hv with e1 e2 e3
  subst e1
  obtain ⟨b, o, ha, _, _, hx⟩ := h h0
  exact ⟨b, o, ha, fun j x hj => by have := hx j x hj; rw [Nat.mul_one] at this; exact this⟩
theorem SC.rows {B : Nat} {w : World} {a : Option Addr} {n cap : Nat} {l : List Tx.Ins} (h : SC B w (.slice a n cap) l) : 0 < l.length → ∃ b o, a = some ⟨b, o, none⟩ ∧ Row w b o l := by
  intro h0
  obtain ⟨a', cap', hv, _, h⟩ := h
  injection hv with e1 e2 e3
  subst e1
  obtain ⟨b, o, ha, _, _, hx⟩ := h h0
  exact ⟨b, o, ha, fun j x hj => hx j x hj⟩

end Pg
end Go.Proofs.Ytmbbombjlijknaa
