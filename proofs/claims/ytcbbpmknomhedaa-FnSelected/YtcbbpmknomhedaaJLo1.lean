/- The draws of a program and numbers out of bytes. -/
import Derived.Test.YtcbbpmknomhedaaJDq4
import Derived.Test.YtcbbpmknomhedaaJLay
namespace Go.Proofs.Ytcbbpmknomhedaa
namespace Pg
open Go.ChangeShapes Go.WideShapes Go.ChangeAt Go.RowKit St

/-- A program, whole at a world, made since another. -/
structure PN (w : World) (g cp : Nat) (p : Prg) (w' : World) : Prop where
  len : p.length ≤ 4
  small : SmallP p
  sk : SK front w.heap.size w' (.slice (some ⟨g, 0, none⟩) p.length cp) p
  below : Below w.heap.size w w'
/-- The same, with the result's box still to be filled. -/
structure PB (w : World) (g cp : Nat) (p : Prg) (u : World) : Prop where
  len : p.length ≤ 4
  small : SmallP p
  sk : SK front (w.heap.size + 1) u (.slice (some ⟨g, 0, none⟩) p.length cp) p
  below : Below w.heap.size w u
  box : Cells u w.heap.size [.slice none 0 0]
theorem PB.pn {w u : World} {g cp : Nat} {p : Prg} (h : PB w g cp p u) (v : Value) : PN w g cp p (u.setCell ⟨w.heap.size, 0, none⟩ v) :=
  ⟨h.len, h.small, SK.weak (SK.on h.sk ⟨by simp, fun k h1 h2 => Below.heap_setCell u ⟨w.heap.size, 0, none⟩ _ k (fun e => by have : k = w.heap.size := e; omega)⟩) (by omega), h.below.setCell (p := ⟨w.heap.size, 0, none⟩) (Nat.le_refl _) v⟩
theorem PB.of {B : Nat} {w w1 w2 w3 : World} {c : Nat} {a : Option Addr} {len cap g cp : Nat} {p : Prg} (hb : Below (w.alloc (.cells #[.slice none 0 0] 26)).heap.size (w.alloc (.cells #[.slice none 0 0] 26)) w1) (hc : (w.alloc (.cells #[.slice none 0 0] 26)).heap.size ≤ c) (hcw : c < w1.heap.size) (hl : p.length ≤ 4) (hs : SmallP p) (hk : SK front w1.heap.size w2 (.slice (some ⟨g, 0, none⟩) p.length cp) p) (h1 : Cu.At B w1 w2 c a len cap) (h2 : Cu.At B w2 w3 c a len cap) : PB w g cp p w3 := by
  have hz := hb.size
  simp only [World.size_alloc] at hz hc hb
  have h3 := h1.step h2
  refine ⟨hl, hs, SK.weak (SK.on hk ⟨h2.1.size, fun k a b => h2.1.block k b (by omega)⟩) (by omega), h3.below (((Below.refl w.heap.size w).alloc (Nat.le_refl _) _).trans (hb.mono (by omega))) (by omega), ?_⟩
  have c0 : Cells (w.alloc (.cells #[.slice none 0 0] 26)) w.heap.size [.slice none 0 0] := Cells.new w _ rfl _ _
  exact Cu.cells_touch (cells_move c0 (hb.block _ (by omega))) h3.1 (by omega)
theorem PB.up {w w1 : World} {g cp : Nat} {p : Prg} (h : PN (w.alloc (.cells #[.slice none 0 0] 26)) g cp p w1) : PB w g cp p w1 := by
  have hz := h.below.size
  have hb := h.below
  have hk := h.sk
  simp only [World.size_alloc] at hz hb hk
  have c0 : Cells (w.alloc (.cells #[.slice none 0 0] 26)) w.heap.size [.slice none 0 0] := Cells.new w _ rfl _ _
  exact ⟨h.len, h.small, hk, ((Below.refl w.heap.size w).alloc (Nat.le_refl _) _).trans (hb.mono (by omega)), cells_move c0 (hb.block _ (by omega))⟩
def DrewN2 (f : Nat) : Prop := ∀ (B : Nat) (w : World) (a : Option Addr) (len cap : Nat), Cu.Bytes B w a len → B ≤ w.heap.size →
  Calls Try.prog f #[.slice a len cap] w fun e w' => ∃ g cp p x y, e = .returned (.tuple #[.agg #[.slice (some ⟨g, 0, none⟩) (List.length p) cp], .int .i64 x, .int .i64 y]) ∧ PN w g cp p w'
set_option maxHeartbeats 800000 in
theorem drawMethodOf_at : DrewN2 16 := by
  intro B w a len cap hB hs
  have HB0 : Hid (Cu.Bytes B (w.alloc (.cells #[.slice none 0 0] 26)) a len) := hB.below ((Below.refl B w).alloc hs _)
  clear hB
  go_enter Try.func16, Try.ntmps16
  go_wp2_with fail
  refine (Cu.new_at B _ a len cap HB0.out (by simp; omega)).mono ?_
  rintro e w1 ⟨c, rfl, hc, hb1, h1⟩
  have hcw1 : c < w1.heap.size := h1.2.1
  have H1 : Hid (Cu.Cur B w1 c a len cap) := h1
  have HB1 : Hid (Below (w.alloc (.cells #[.slice none 0 0] 26)).heap.size (w.alloc (.cells #[.slice none 0 0] 26)) w1) := hb1
  have HC1 : Hid ((w.alloc (.cells #[.slice none 0 0] 26)).heap.size ≤ c) := hc
  clear h1 HB0 hb1 hc
  go_wp2_with fail
  refine (drawAny_cur B c _ a len cap H1.out).mono ?_
  rintro e w2 ⟨g, cp, p, rfl, hl, hsm, hsk, h2⟩
  have HSM : Hid (SmallP p) := hsm
  have HSK : Hid (SK front w1.heap.size (w2.alloc (.cells #[.slice (some ⟨g, 0, none⟩) p.length cp] 26)) (.slice (some ⟨g, 0, none⟩) p.length cp) p) := SK.on hsk (Keep.of ((Below.refl _ _).alloc (Nat.le_refl _) _))
  have H2 : Hid (Cu.At B w1 (w2.alloc (.cells #[.slice (some ⟨g, 0, none⟩) p.length cp] 26)) c a len cap) := h2.alloc _
  have HPB : Hid (Cells (w2.alloc (.cells #[.slice (some ⟨g, 0, none⟩) p.length cp] 26)) w2.heap.size [(.slice (some ⟨g, 0, none⟩) p.length cp)]) := Cells.new w2 _ rfl _ _
  have hcz : c < w2.heap.size := Nat.lt_of_lt_of_le hcw1 h2.1.size
  clear hsm hsk h2 H1
  go_wp2_with fail
  refine (from_at B c (w2.alloc (.cells #[.slice (some ⟨g, 0, none⟩) p.length cp] 26)) _ a len cap (-1) 6 (by omega) (by omega) (by omega) (by omega) (Cu.At.start H2.out.2)).mono ?_
  rintro e w3 ⟨x, rfl, _, _, _, h3⟩
  have H3 : Hid (Cu.At B (w2.alloc (.cells #[.slice (some ⟨g, 0, none⟩) p.length cp] 26)) w3 c a len cap) := h3
  clear h3
  have p3 := (Cu.cells_touch HPB.out H3.out.1 (by omega)).g0.1
  go_wp2_with fail
  go_region_law (go_simp; go_at_call 31; refine (from_at B c (w2.alloc (.cells #[.slice (some ⟨g, 0, none⟩) p.length cp] 26)) _ a len cap (-1) 4 (by omega) (by omega) (by omega) (by omega) ⟨H3.out.1.drew, H3.out.2⟩).mono ?_; rintro e w4 ⟨y, rfl, _, _, _, h4⟩; have HP : Hid (PB w g cp p w4) := PB.of HB1.out HC1.out hcw1 hl HSM.out HSK.out H2.out h4; have p0 := (Cu.cells_touch HPB.out h4.1 (by omega)).g0.1; obtain ⟨r0, q0⟩ := HP.out.box.g0; have e0 := (HP.out.box.s0 (.slice (some ⟨g, 0, none⟩) p.length cp)).g0.1; have HEN : Hid (PN w g cp p (w4.setCell ⟨w.heap.size, 0, none⟩ (.slice (some ⟨g, 0, none⟩) p.length cp))) := HP.out.pn (.slice (some ⟨g, 0, none⟩) p.length cp); dsimp only)
  all_goals
    go_wp2
    refine bodyPost_ret (v := .tuple #[.agg #[.slice (some ⟨g, 0, none⟩) p.length cp], .int .i64 x, .int .i64 y]) (by simp [results, Try.results16, go_sem, e0]) rfl ?_
    exact ⟨g, cp, p, x, y, rfl, HEN.out⟩
set_option maxHeartbeats 800000 in
theorem drawSelected_at : DrewN2 5 := by
  intro B w a len cap hB hs
  have HB0 : Hid (Cu.Bytes B (w.alloc (.cells #[.slice none 0 0] 26)) a len) := hB.below ((Below.refl B w).alloc hs _)
  clear hB
  go_enter Try.func5, Try.ntmps5
  go_wp2_with fail
  refine (drawMethodOf_at B _ a len cap HB0.out (by simp; omega)).mono ?_
  rintro e w1 ⟨g, cp, p, x, y, rfl, hp⟩
  have HP : Hid (PB w g cp p w1) := PB.up hp
  clear hp HB0
  have b0 := HP.out.box.g0
  obtain ⟨r0, q0⟩ := b0
  have e0 := (HP.out.box.s0 (.slice (some ⟨g, 0, none⟩) p.length cp)).g0.1
  have HE := HP.out.pn (.slice (some ⟨g, 0, none⟩) p.length cp)
  have HEN : Hid (PN w g cp p _) := HE
  clear HE HP
  go_wp2
  refine bodyPost_ret (v := .tuple #[.agg #[.slice (some ⟨g, 0, none⟩) p.length cp], .int .i64 x, .int .i64 y]) (by simp [results, Try.results5, go_sem, e0]) rfl ?_
  exact ⟨g, cp, p, x, y, rfl, HEN.out⟩
end Pg
end Go.Proofs.Ytcbbpmknomhedaa

/- Contracts of the two sides' small functions on the layout: which step is a jump, and its bytes. -/
namespace Go.Proofs.Ytcbbpmknomhedaa
namespace St
open Go.ChangeShapes Go.WideShapes Go.ChangeAt Go.RowKit

theorem boxC {w w1 : World} {x y z : Value} {t : TypeId} (hb : Below (w.alloc (.cells #[x, y, z] t)).heap.size (w.alloc (.cells #[x, y, z] t)) w1) :
    w1.cell? ⟨w.heap.size, 0, none⟩ = some x ∧ w1.cell? ⟨w.heap.size, 1, none⟩ = some y ∧ w1.cell? ⟨w.heap.size, 2, none⟩ = some z :=
  ⟨(hb.cell (by simp)).trans (by simp), (hb.cell (by simp)).trans (by simp), (hb.cell (by simp)).trans (by simp)⟩
theorem retI {a b : Int} (h : a = b) : Ending.returned (.int .i64 a) = .returned (.int .i64 b) := by rw [h]

set_option maxHeartbeats 800000 in
theorem isJump (op a b : Int) (w : World) :
    Calls Try.prog 91 #[.agg #[.int .i64 op, .int .i64 a, .int .i64 b]] w fun e w' => e = .returned (.bool (Lay.jumpB op)) ∧ Below w.heap.size w w' := by
  by_cases h : op = 11
  · subst h
    go_enter Try.func91, Try.ntmps91
    go_wp2
    go_ret
    exact ⟨rfl, by go_grown⟩
  · go_enter Try.func91, Try.ntmps91
    go_wp2
    go_ret
    exact ⟨rfl, by go_grown⟩
theorem l3Jump (op : Int) (w : World) :
    Calls Try.prog 89 #[.int .i64 op] w fun e w' => e = .returned (.bool (Lay.jumpB op)) ∧ w = w' := by
  by_cases h : op = 11
  · subst h
    go_enter Try.func89, Try.ntmps89
    go_wp2
    go_ret
    exact ⟨rfl, rfl⟩
  · go_enter Try.func89, Try.ntmps89
    go_wp2
    go_ret
    exact ⟨rfl, rfl⟩
end St
end Go.Proofs.Ytcbbpmknomhedaa

/- Contracts of the two sides' tests whether code is right. -/
namespace Go.Proofs.Ytcbbpmknomhedaa
namespace St
open Go.ChangeShapes Go.WideShapes Go.ChangeAt Go.RowKit

def good (n : Int) (x : Tx.Ins) : Bool := Tx.okT x && (!(Lay.jumpB x.1) || decide (x.2.1 < n))
theorem all_and {α : Type} (p q : α → Bool) (l : List α) : (l.all p && l.all q) = l.all fun x => p x && q x := by
  induction l with
  | nil => rfl
  | cons x l ih => simp only [List.all_cons, ← ih]; cases p x <;> cases q x <;> cases l.all p <;> simp
theorem codeOk_good (l : List Tx.Ins) : Lay.codeOk l = (decide (0 < l.length) && decide (l.length ≤ 40) && l.all (good l.length)) := by
  unfold Lay.codeOk Tx.okC good
  rw [← all_and]
  simp only [Bool.and_assoc]
theorem take_all {α : Type} {p : α → Bool} {l : List α} {k : Nat} (hk : k < l.length) (h : (l.take k).all p = true) (hx : p l[k] = true) : (l.take (k + 1)).all p = true := by
  rw [List.take_succ_eq_append_getElem hk, List.all_append, h]; simp [hx]
theorem all_no {α : Type} {p : α → Bool} {l : List α} {k : Nat} (hk : k < l.length) (hx : p l[k] = false) : l.all p = false := by
  cases hh : l.all p
  · rfl
  · have := List.all_eq_true.1 hh _ (List.getElem_mem hk)
    rw [hx] at this; simp at this
theorem code_no {l : List Tx.Ins} {k : Nat} (hk : k < l.length) (hx : good l.length l[k] = false) : Lay.codeOk l = false := by
  rw [codeOk_good, all_no hk hx]; simp
theorem jump_nonneg {op a b : Int} (h : Tx.okI op a b = true) (hj : Lay.jumpB op = true) : 0 ≤ a := by
  unfold Tx.okI at h
  unfold Lay.jumpB at hj
  have e : ¬ op = 1 := by
    intro e; rw [e] at hj; simp at hj
  rw [if_neg e] at h
  simp only [Bool.and_eq_true, decide_eq_true_eq] at h
  exact h.1.1.1

set_option maxRecDepth 100000 in
set_option maxHeartbeats 1000000 in
theorem implCodeOk (g cap : Nat) (l : List Tx.Ins) (hl : l.length ≤ 1048576) (w : World) (hr : Row w g 0 l) :
    Calls Try.prog 85 #[.slice (some ⟨g, 0, none⟩) l.length cap] w fun e w' => e = .returned (.bool (Lay.codeOk l)) ∧ Below w.heap.size w w' := by
  have HR : Hid (Row w g 0 l) := hr
  clear hr
  by_cases h0 : l.length = 0
  · have HN : Hid (Lay.codeOk l = false) := by
      show Lay.codeOk l = false
      rw [codeOk_good, h0]; rfl
    have h0i : (l.length : Int) = 0 := by omega
    go_enter Try.func85, Try.ntmps85
    go_wp2
    go_ret
    exact ⟨retB HN.out.symm, Below.refl _ _⟩
  · have h0i : ¬ (l.length : Int) = 0 := by omega
    by_cases hbig : (40 : Int) < (l.length : Int)
    · have HN : Hid (Lay.codeOk l = false) := by
        show Lay.codeOk l = false
        rw [codeOk_good]
        have : decide (l.length ≤ 40) = false := by simp; omega
        rw [this]; simp
      go_enter Try.func85, Try.ntmps85
      go_wp2
      go_ret
      exact ⟨retB HN.out.symm, Below.refl _ _⟩
    · go_enter Try.func85, Try.ntmps85
      go_wp2
      go_loopw [15] (fun i wr => ∃ k : Nat, k ≤ l.length ∧ i = .int .i64 k ∧ Hid ((l.take k).all (good l.length) = true) ∧ Below w.heap.size w wr) (fun i _ => l.length - (intOf i).toNat)
      case atStart => exact ⟨0, Nat.zero_le _, rfl, rfl, Below.refl _ _⟩
      case round =>
        obtain ⟨k, hk, rfl, hall, hb⟩ := hrel
        by_cases hlt : k < l.length
        · obtain ⟨d0, d1, d2⟩ := HR.out.below hb (cell_lt (HR.out k _ (List.getElem?_eq_getElem hlt)).1) k _ (List.getElem?_eq_getElem hlt)
          have HNO : Hid (good l.length l[k] = false → Lay.codeOk l = false) := code_no hlt
          have HYES : Hid (good l.length l[k] = true → (l.take (k + 1)).all (good l.length) = true) := take_all hlt hall.out
          generalize l[k] = x at *
          obtain ⟨op, a, b⟩ := x
          have hki : (k : Int) < (l.length : Int) := by omega
          simp only [Nat.zero_add] at d0 d1 d2
          go_wp2_with fail
          refine (implOk op a b _).mono ?_
          rintro e w1 ⟨rfl, hb1⟩
          have hw1 : Below w.heap.size w w1 := below_over (hb.alloc hb.size _) hb1
          have BX := boxC hb1
          obtain ⟨c0, c1, c2⟩ := BX
          clear hb1 d0 d1 d2
          cases hok : Tx.okI op a b
          · have HN : Hid (Lay.codeOk l = false) := HNO.out (by simp [good, Tx.okT, hok])
            go_wp2
            go_ret
            exact ⟨retB HN.out.symm, hw1⟩
          · go_wp2_with fail
            refine (isJump op a b _).mono ?_
            rintro e w2 ⟨rfl, hb2⟩
            have hw2 : Below w.heap.size w w2 := below_over hw1 hb2
            have c0' := (hb2.cell (cell_lt c0)).trans c0
            have c1' := (hb2.cell (cell_lt c1)).trans c1
            have c2' := (hb2.cell (cell_lt c2)).trans c2
            clear hb2 c0 c1 c2
            cases hj : Lay.jumpB op
            · have HY : Hid ((l.take (k + 1)).all (good l.length) = true) := HYES.out (by simp [good, Tx.okT, hok, hj])
              go_wp2
              go_roundw
              case rel => exact ⟨k + 1, by omega, by go_num, HY.out, hw2⟩
              case measure => simp [intOf]; omega
            · have hnn := jump_nonneg hok hj
              go_wp2_with fail
              refine (isBelow a l.length _).mono ?_
              rintro e w3 ⟨rfl, rfl⟩
              have hda : decide (0 ≤ a) = true := by simp [hnn]
              rw [hda, Bool.true_and]
              cases hq : decide (a < (l.length : Int))
              · have HN : Hid (Lay.codeOk l = false) := HNO.out (by simp only [good, Tx.okT, hok, hj, hq]; rfl)
                clear hq hda
                go_wp2
                go_ret
                exact ⟨retB HN.out.symm, hw2⟩
              · have HY : Hid ((l.take (k + 1)).all (good l.length) = true) := HYES.out (by simp only [good, Tx.okT, hok, hj, hq]; rfl)
                clear hq hda
                go_wp2
                go_roundw
                case rel => exact ⟨k + 1, by omega, by go_num, HY.out, hw2⟩
                case measure => simp [intOf]; omega
        · have HN : Hid (Lay.codeOk l = true) := by
            show Lay.codeOk l = true
            have e : l.take k = l := List.take_of_length_le (by omega)
            have := hall.out
            rw [e] at this
            rw [codeOk_good, this]
            simp; omega
          go_wp2
          go_ret
          exact ⟨retB HN.out.symm, hb⟩
theorem okC_all {l : List Tx.Ins} (h : Tx.okC l = true) : l.length ≤ 40 ∧ l.all Tx.okT = true := by
  unfold Tx.okC at h
  simpa using h
set_option maxRecDepth 100000 in
set_option maxHeartbeats 1000000 in
theorem specCodeOk (g cap : Nat) (l : List Tx.Ins) (hl : l.length ≤ 1048576) (w : World) (hr : Row w g 0 l) :
    Calls Try.prog 82 #[.slice (some ⟨g, 0, none⟩) l.length cap] w fun e w' => e = .returned (.bool (Lay.codeOk l)) ∧ Below w.heap.size w w' := by
  have HR : Hid (Row w g 0 l) := hr
  clear hr
  by_cases h0 : l.length = 0
  · have HN : Hid (Lay.codeOk l = false) := by
      show Lay.codeOk l = false
      rw [codeOk_good, h0]; rfl
    have h0i : (l.length : Int) < 1 := by omega
    go_enter Try.func82, Try.ntmps82
    go_wp2
    go_ret
    exact ⟨retB HN.out.symm, Below.refl _ _⟩
  · have h0i : ¬ (l.length : Int) < 1 := by omega
    cases hok : Tx.okC l
    · have HN : Hid (Lay.codeOk l = false) := by
        show Lay.codeOk l = false
        unfold Lay.codeOk; rw [hok]; simp
      go_enter Try.func82, Try.ntmps82
      go_wp2_with fail
      refine (each_at g cap l hl _ HR.out).mono ?_
      rw [hok]
      rintro e w1 ⟨rfl, hb1⟩
      go_wp2
      go_ret
      exact ⟨retB HN.out.symm, hb1⟩
    · have HA : Hid (l.length ≤ 40 ∧ l.all Tx.okT = true) := okC_all hok
      go_enter Try.func82, Try.ntmps82
      go_wp2_with fail
      refine (each_at g cap l hl _ HR.out).mono ?_
      rw [hok]
      rintro e w1 ⟨rfl, hb1⟩
      go_wp2
      go_loopw [3] (fun i wr => ∃ k : Nat, k ≤ l.length ∧ i = .int .i64 k ∧ Hid ((l.take k).all (good l.length) = true) ∧ Below w.heap.size w wr) (fun i _ => l.length - (intOf i).toNat)
      case atStart => exact ⟨0, Nat.zero_le _, rfl, rfl, hb1⟩
      case round =>
        obtain ⟨k, hk, rfl, hall, hb⟩ := hrel
        by_cases hlt : k < l.length
        · obtain ⟨d0, d1, d2⟩ := HR.out.below hb (cell_lt (HR.out k _ (List.getElem?_eq_getElem hlt)).1) k _ (List.getElem?_eq_getElem hlt)
          have hko : Tx.okT l[k] = true := List.all_eq_true.1 HA.out.2 _ (List.getElem_mem hlt)
          have HNO : Hid (good l.length l[k] = false → Lay.codeOk l = false) := code_no hlt
          have HYES : Hid (good l.length l[k] = true → (l.take (k + 1)).all (good l.length) = true) := take_all hlt hall.out
          generalize l[k] = x at *
          obtain ⟨op, a, b⟩ := x
          have HKO : Hid (Tx.okT (op, a, b) = true) := hko
          clear hko
          have hki : (k : Int) < (l.length : Int) := by omega
          simp only [Nat.zero_add] at d0 d1 d2
          go_wp2_with fail
          refine (l3Jump op _).mono ?_
          rintro e w2 ⟨rfl, rfl⟩
          cases hj : Lay.jumpB op
          · have HY : Hid ((l.take (k + 1)).all (good l.length) = true) := HYES.out (by simp only [good, HKO.out, hj]; rfl)
            go_wp2
            go_roundw
            case rel => exact ⟨k + 1, by omega, by go_num, HY.out, hb⟩
            case measure => simp [intOf]; omega
          · by_cases hq : a < (l.length : Int)
            · have HY : Hid ((l.take (k + 1)).all (good l.length) = true) := HYES.out (by simp only [good, HKO.out, hj]; simp [hq])
              go_wp2
              go_roundw
              case rel => exact ⟨k + 1, by omega, by go_num, HY.out, hb⟩
              case measure => simp [intOf]; omega
            · have HN : Hid (Lay.codeOk l = false) := HNO.out (by simp only [good, HKO.out, hj]; simp; omega)
              go_wp2
              go_ret
              exact ⟨retB HN.out.symm, hb⟩
        · have HN : Hid (Lay.codeOk l = true) := by
            show Lay.codeOk l = true
            have e : l.take k = l := List.take_of_length_le (by omega)
            have := hall.out
            rw [e] at this
            have := HA.out.1
            rw [codeOk_good, ‹l.all _ = true›]
            simp; omega
          go_wp2
          go_ret
          exact ⟨retB HN.out.symm, hb⟩
end St
end Go.Proofs.Ytcbbpmknomhedaa
