/- The contract of the draw of a piece of code. -/
import Derived.Test.YtbgbddahniacbaaGreatDoorJRow1
import Derived.Test.YtbgbddahniacbaaGreatDoorJGot0
namespace Go.Proofs.YtbgbddahniacbaaGreatDoor
namespace Cu
open Go.ChangeShapes Go.WideShapes Go.ChangeAt Go.RowKit St

theorem row_touch {c g o : Nat} {u w : World} {l : List Tx.Ins} (h : Row u g o l) (ht : Touch c u w) (hc : g ≠ c) : Row w g o l := by
  intro j x hj
  obtain ⟨h0, h1, h2⟩ := h j x hj
  have l0 : g < u.heap.size := St.cell_lt h0
  exact ⟨(ht.cell l0 hc).trans h0, (ht.cell l0 hc).trans h1, (ht.cell l0 hc).trans h2⟩
theorem room_touch {c g n : Nat} {u w : World} (h : Room u g n) (ht : Touch c u w) (hc : g ≠ c) : Room w g n := by
  intro i hi
  obtain ⟨⟨x, hx⟩, hf⟩ := h i hi
  have l0 : g < u.heap.size := St.cell_lt hx
  exact ⟨⟨x, (ht.cell l0 hc).trans hx⟩, (ht.frozen l0 hc).trans hf⟩
theorem got_touch {c B : Nat} {u w : World} {v : Value} {l : List Tx.Ins} (h : Got B u v l) (ht : Touch c u w) (hc : c < B) : Got B w v l := by
  obtain ⟨g, cap, hv, h1, h2, h3, h4⟩ := h
  exact ⟨g, cap, hv, h1, Nat.lt_of_lt_of_le h2 ht.size, row_touch h3 ht (by omega), room_touch h4 ht (by omega)⟩
theorem At.alloc {B c : Nat} {u w : World} {a : Option Addr} {len cap : Nat} (h : At B u w c a len cap) (o : Obj) : At B u (w.alloc o) c a len cap := ⟨h.1.alloc o, h.2.alloc o⟩
theorem At.on {B c : Nat} {u v w : World} {a : Option Addr} {len cap : Nat} (h : At B u v c a len cap) (hb : Below v.heap.size v w) : At B u w c a len cap := ⟨h.1.trans (touch_below hb), h.2.later hb h.2.2.1⟩

/-- What a step holds fits its fields. -/
def FitsI (x : Tx.Ins) : Prop := (-9223372036854775808 ≤ x.2.1 ∧ x.2.1 ≤ 9223372036854775807) ∧ (-9223372036854775808 ≤ x.2.2 ∧ x.2.2 ≤ 9223372036854775807)
def Fits : List Tx.Ins → Prop
  | [] => True
  | x :: l => FitsI x ∧ Fits l
theorem fits_iff (l : List Tx.Ins) : Fits l ↔ ∀ x ∈ l, FitsI x := by
  induction l with
  | nil => simp [Fits]
  | cons x l ih => simp [Fits, ih]
theorem Fits.append {l r : List Tx.Ins} (h : Fits l) (k : Fits r) : Fits (l ++ r) := by
  rw [fits_iff] at *
  intro x hx
  rcases List.mem_append.1 hx with hx | hx
  · exact h x hx
  · exact k x hx
theorem Fits.set {l : List Tx.Ins} (h : Fits l) (k : Nat) {y : Tx.Ins} (hy : FitsI y) : Fits (l.set k y) := by
  rw [fits_iff] at *
  intro x hx
  rcases List.mem_or_eq_of_mem_set hx with hx | hx
  · exact h x hx
  · rw [hx]; exact hy
/-- Some code has been drawn, of at most m steps, and the cursor stands. -/
def DrewC (B : Nat) (w0 w : World) (c : Nat) (a : Option Addr) (len cap m : Nat) (e : Ending) (w' : World) : Prop :=
  ∃ x l, e = .returned x ∧ Got w.heap.size w' x l ∧ l.length ≤ m ∧ Fits l ∧ At B w0 w' c a len cap
theorem drewC_lit {B : Nat} {w0 w w1 : World} {c : Nat} {a : Option Addr} {len cap : Nat} (h : At B w0 w1 c a len cap) (hs : w.heap.size ≤ w1.heap.size) (l : List Tx.Ins) (hl : l.length ≤ 7) (hf : Fits l) (n cp : Nat) (t : TypeId) (cs : Array Value) (hn : n = l.length) (hcs : cs = (flat l).toArray) :
    DrewC B w0 w c a len cap 7 (.returned (.slice (some ⟨w1.heap.size, 0, none⟩) n cp)) (w1.alloc (.cells cs t)) :=
  ⟨_, l, rfl, by rw [hn]; exact got_lit w1 _ hs l cp t cs hcs, hl, hf, h.alloc _⟩
theorem DrewC.from {B : Nat} {w0 w w' : World} {c : Nat} {a : Option Addr} {len cap m : Nat} {e : Ending} (d : DrewC B w w c a len cap m e w') (h : At B w0 w c a len cap) : DrewC B w0 w c a len cap m e w' := by
  obtain ⟨x, l, h1, h2, h3, h4, h5⟩ := d
  exact ⟨x, l, h1, h2, h3, h4, h.step h5⟩

set_option maxRecDepth 100000 in
set_option maxHeartbeats 4000000 in
theorem drawPiece_cur (B c : Nat) (w : World) (a : Option Addr) (len cap : Nat) (fr : Int) (hf0 : 0 ≤ fr) (hf1 : fr ≤ 100) (h : Cur B w c a len cap) :
    Calls Tryz.prog 80 #[.pointer (some ⟨c, 0, none⟩), .int .i64 fr] w fun e w' => DrewC B w w c a len cap 7 e w' := by
  have H : Hid (Cur B w c a len cap) := h
  clear h
  go_enter Tryz.func80, Tryz.ntmps80
  go_wp2_with fail
  refine (below_at B c w _ a len cap _ (At.start H.out)).mono ?_
  rintro e w1 ⟨k, rfl, hk0, hk1, hk2, hk3, h1⟩
  have hk := hk2 (by omega)
  have H1 : Hid (At B w w1 c a len cap) := h1
  clear h1 hk2 hk3 H hk1
  go_wp2_with fail
  refine (drawWord_at B c w _ a len cap H1.out).mono ?_
  rintro e w2 ⟨n, rfl, hn0, hn1, h2⟩
  have H2 : Hid (At B w w2 c a len cap) := h2
  clear h2 H1
  go_wp2_with fail
  refine (below_at B c w _ a len cap _ H2.out).mono ?_
  rintro e w3 ⟨r, rfl, hr0, hr1, hr2, hr3, h3⟩
  have hr := hr2 (by omega)
  have H3 : Hid (At B w w3 c a len cap) := h3
  clear h3 hr1 hr2 hr3 H2
  have hcase : r = 0 ∨ r = 1 ∨ r = 2 ∨ r = 3 ∨ r = 4 ∨ r = 5 ∨ r = 6 ∨ r = 7 ∨ r = 8 ∨ r = 9 ∨ r = 10 ∨ r = 11 := by omega
  clear hr0 hr
  rcases hcase with rfl | rfl | rfl | rfl | rfl | rfl | rfl | rfl | rfl | rfl | rfl | rfl
  · go_wp2
    go_ret
    exact drewC_lit H3.out H3.out.1.size [(_, _, _), (_, _, _)] (by simp) (by simp only [Fits, FitsI, and_true]; omega) _ _ _ _ rfl rfl
  · go_wp2_with fail
    refine (drawWord_at B c w _ a len cap H3.out).mono ?_
    rintro e w4 ⟨x0, rfl, p00, p01, h4⟩
    have H4 : Hid (At B w w4 c a len cap) := h4
    clear h4 H3
    go_wp2_with fail
    refine (below_at B c w _ a len cap _ H4.out).mono ?_
    rintro e w5 ⟨x1, rfl, p10, _, q1, _, h5⟩
    have p11 := q1 (by omega)
    clear q1
    have H5 : Hid (At B w w5 c a len cap) := h5
    clear h5 H4
    go_wp2
    go_ret
    exact drewC_lit H5.out H5.out.1.size [(_, _, _), (_, _, _), (_, _, _), (_, _, _)] (by simp) (by simp only [Fits, FitsI, and_true]; omega) _ _ _ _ rfl rfl
  · go_wp2
    go_ret
    exact drewC_lit H3.out H3.out.1.size [(_, _, _), (_, _, _)] (by simp) (by simp only [Fits, FitsI, and_true]; omega) _ _ _ _ rfl rfl
  · go_wp2_with fail
    refine (below_at B c w _ a len cap _ H3.out).mono ?_
    rintro e w4 ⟨x0, rfl, p00, _, q0, _, h4⟩
    have p01 := q0 (by omega)
    clear q0
    have H4 : Hid (At B w w4 c a len cap) := h4
    clear h4 H3
    go_wp2_with fail
    refine (below_at B c w _ a len cap _ H4.out).mono ?_
    rintro e w5 ⟨x1, rfl, p10, _, q1, _, h5⟩
    have p11 := q1 (by omega)
    clear q1
    have H5 : Hid (At B w w5 c a len cap) := h5
    clear h5 H4
    go_wp2
    go_ret
    exact drewC_lit H5.out H5.out.1.size [(_, _, _), (_, _, _), (_, _, _), (_, _, _)] (by simp) (by simp only [Fits, FitsI, and_true]; omega) _ _ _ _ rfl rfl
  · go_wp2
    go_ret
    exact drewC_lit H3.out H3.out.1.size [(_, _, _), (_, _, _)] (by simp) (by simp only [Fits, FitsI, and_true]; omega) _ _ _ _ rfl rfl
  · go_wp2
    go_ret
    exact drewC_lit H3.out H3.out.1.size [(_, _, _), (_, _, _), (_, _, _), (_, _, _)] (by simp) (by simp only [Fits, FitsI, and_true]; omega) _ _ _ _ rfl rfl
  · go_wp2_with fail
    refine (below_at B c w _ a len cap _ H3.out).mono ?_
    rintro e w4 ⟨x0, rfl, p00, _, q0, _, h4⟩
    have p01 := q0 (by omega)
    clear q0
    have H4 : Hid (At B w w4 c a len cap) := h4
    clear h4 H3
    go_wp2
    go_ret
    exact drewC_lit H4.out H4.out.1.size [(_, _, _), (_, _, _), (_, _, _), (_, _, _)] (by simp) (by simp only [Fits, FitsI, and_true]; omega) _ _ _ _ rfl rfl
  · go_wp2
    go_ret
    exact drewC_lit H3.out H3.out.1.size [(_, _, _), (_, _, _)] (by simp) (by simp only [Fits, FitsI, and_true]; omega) _ _ _ _ rfl rfl
  · go_wp2
    go_ret
    exact drewC_lit H3.out H3.out.1.size [(_, _, _), (_, _, _), (_, _, _), (_, _, _), (_, _, _)] (by simp) (by simp only [Fits, FitsI, and_true]; omega) _ _ _ _ rfl rfl
  · go_wp2
    go_ret
    exact drewC_lit H3.out H3.out.1.size [(_, _, _), (_, _, _), (_, _, _)] (by simp) (by simp only [Fits, FitsI, and_true]; omega) _ _ _ _ rfl rfl
  · go_wp2
    go_ret
    exact drewC_lit H3.out H3.out.1.size [(_, _, _), (_, _, _), (_, _, _)] (by simp) (by simp only [Fits, FitsI, and_true]; omega) _ _ _ _ rfl rfl
  · go_wp2
    go_ret
    exact drewC_lit H3.out H3.out.1.size [(_, _, _), (_, _, _), (_, _, _), (_, _, _), (_, _, _), (_, _, _), (_, _, _)] (by simp) (by simp only [Fits, FitsI, and_true]; omega) _ _ _ _ rfl rfl
theorem drawPiece_at (B c : Nat) (w0 w : World) (a : Option Addr) (len cap : Nat) (fr : Int) (hf0 : 0 ≤ fr) (hf1 : fr ≤ 100) (h : At B w0 w c a len cap) :
    Calls Tryz.prog 80 #[.pointer (some ⟨c, 0, none⟩), .int .i64 fr] w fun e w' => DrewC B w0 w c a len cap 7 e w' :=
  (drawPiece_cur B c w a len cap fr hf0 hf1 h.2).mono fun _ _ d => d.from h
end Cu
end Go.Proofs.YtbgbddahniacbaaGreatDoor
