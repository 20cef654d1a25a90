/- The contract of the program's reading of a step. -/
import Derived.Test.YtnlanikjlokboaaGreatDoorRead0
namespace Go.Proofs.YtnlanikjlokboaaGreatDoor
namespace St
open Go.ChangeShapes Go.WideShapes Go.ChangeAt Go.RowKit

def opR (r : Option Tx.Ins) : Int := match r with | none => 0 | some i => i.1
def aR (r : Option Tx.Ins) : Int := match r with | none => 0 | some i => i.2.1
def bR (r : Option Tx.Ins) : Int := match r with | none => 0 | some i => i.2.2
def insV (r : Option Tx.Ins) : Value := .agg #[.int .i64 (opR r), .int .i64 (aR r), .int .i64 (bR r)]

theorem num_bd (l : List UInt8) : -9223372036854775808 ≤ Tx.numL l ∧ Tx.numL l ≤ 9223372036854775807 := by
  unfold Tx.numL
  cases h : Lib.parseIntB 64 l with
  | ok v =>
    have := Lib.parseIntB_bounds h
    have e : ((2 ^ (64 - 1) : Nat) : Int) = 9223372036854775808 := by decide
    rw [e] at this
    simp only; omega
  | «syntax» => simp
  | range =>
    simp only [Lib.intSat]
    split <;> decide

theorem str_cons (s : ByteArray) (h : s.toList.isEmpty = false) : ∃ (hp : 0 < s.size) (r : List UInt8), s.data.toList = s[0] :: r ∧ (s.extract 1 s.size).data.toList = r := by
  rw [Lib.toList_data] at h
  cases hs : s.data.toList with
  | nil => rw [hs] at h; simp at h
  | cons c r =>
    have hp : 0 < s.size := by
      have := congrArg List.length hs
      rw [List.length_cons, Array.length_toList] at this
      show 0 < s.data.size
      omega
    refine ⟨hp, r, ?_, ?_⟩
    · have : s[0] = c := by
        have h0 : s.data.toList[0]? = some c := by rw [hs]; rfl
        rw [Array.getElem?_toList] at h0
        exact (Array.getElem?_eq_some_iff.1 h0).2
      rw [this]
    · rw [Lib.extract_data, hs]
      have hl : s.size = r.length + 1 := by
        have := congrArg List.length hs
        rw [List.length_cons, Array.length_toList] at this
        exact this
      rw [hl]; simp

set_option maxHeartbeats 800000 in
theorem implRead (s : ByteArray) (hs : s.size ≤ 2000000) (B : Nat) (w : World) (hB : B ≤ w.heap.size) (hE : Env B w) :
    Calls Tryz.prog 20 #[.string s] w fun e w' => e = .returned (.tuple #[insV (Tx.readI s.data.toList), .bool (Tx.readI s.data.toList).isSome]) ∧ Below w.heap.size w w' := by
  cases he : s.toList.isEmpty
  · obtain ⟨hp, r, hr, hx⟩ := str_cons s he
    have HR : Hid (s.data.toList = s[0] :: r) := hr
    have HX : Hid ((s.extract 1 s.size).data.toList = r) := hx
    clear hr hx
    have HE : Hid (Env B w) := hE
    have HB : Hid (B ≤ w.heap.size) := hB
    clear hE hB
    go_enter Tryz.func20, Tryz.ntmps20
    go_wp2_with fail
    obtain ⟨m, hm, _⟩ := HE.out.maxLen
    have hx1 : (s.extract 1 s.size).size < 4294967281 := by simp; omega
    refine (Tryz.strings_Cut (s.extract 1 s.size) ⟨#[44]⟩ m _ hx1 ((((Below.refl w.heap.size w).alloc (Nat.le_refl _) _).cell (cell_lt hm)).trans hm)).mono ?_
    rw [HX.out]
    have e44 : (⟨#[44]⟩ : ByteArray).data.toList = [44] := rfl
    rw [e44]
    clear e44 hm hx1
    rintro e w1 ⟨rfl, n1, hw1⟩
    have hb1 : Below w.heap.size w w1 := by rw [hw1]; exact below_drewN (by go_grown) _
    have HX1 : Hid (Box w1 w.heap.size (.int .i64 0) (.int .i64 0) (.int .i64 0)) := by
      rw [hw1]; exact (Box.new w _ _ _ _).on (below_drewN (Below.refl _ _) _)
    clear hw1
    have hn0 : Lib.indexByte Tx.letters (((s[0].toNat : Int)).toNat.toUInt8) = Lib.indexByte Tx.letters s[0] := by simp
    have hla : (Lib.cut r [44]).1.length ≤ s.size ∧ (Lib.cut r [44]).2.1.length ≤ s.size := by
      have hlen : s.size = r.length + 1 := by
        have := congrArg List.length HR.out
        rw [List.length_cons, Array.length_toList] at this
        exact this
      unfold Lib.cut
      split
      · simp only [List.length_take, List.length_drop]; omega
      · simp only [List.length_nil]; omega
    go_wp2_with fail
    refine (opOf_at _ _).mono ?_
    rw [hn0]
    clear hn0
    rintro e w1' ⟨rfl, rfl⟩
    go_wp2_with fail
    refine (digits_at ⟨(Lib.cut r [44]).1.toArray⟩ (by rw [mk_size]; omega) B _ (HE.out.on (hb1.mono HB.out))).mono ?_
    rintro e w2 ⟨rfl, hb2⟩
    have hw2 : Below w.heap.size w w2 := below_over hb1 hb2
    have HX2 := HX1.out.on hb2
    have HXX2 : Hid (Box w2 w.heap.size (.int .i64 0) (.int .i64 0) (.int .i64 0)) := HX2
    clear HX2 HX1 hb2 hb1
    go_wp2_with fail
    refine (digits_at ⟨(Lib.cut r [44]).2.1.toArray⟩ (by rw [mk_size]; omega) B _ (HE.out.on (hw2.mono HB.out))).mono ?_
    rintro e w3 ⟨rfl, hb3⟩
    have hw3 : Below w.heap.size w w3 := below_over hw2 hb3
    have HXX3 : Hid (Box w3 w.heap.size (.int .i64 0) (.int .i64 0) (.int .i64 0)) := HXX2.out.on hb3
    clear HXX2 hb3 hw2 hla
    have HRI : Hid (Tx.readI s.data.toList = if Tx.okI (Lib.indexByte Tx.letters s[0] + 1) (Tx.numL (Lib.cut r [44]).1) (Tx.numL (Lib.cut r [44]).2.1) = true ∧ Tx.showI (Lib.indexByte Tx.letters s[0] + 1) (Tx.numL (Lib.cut r [44]).1) (Tx.numL (Lib.cut r [44]).2.1) = s.data.toList then some (Lib.indexByte Tx.letters s[0] + 1, Tx.numL (Lib.cut r [44]).1, Tx.numL (Lib.cut r [44]).2.1) else none) := by
      rw [HR.out]; rfl
    have ha := num_bd (Lib.cut r [44]).1
    have hb := num_bd (Lib.cut r [44]).2.1
    generalize Lib.indexByte Tx.letters s[0] + 1 = op at HRI ⊢
    simp only at *
    generalize Tx.numL (Lib.cut r [44]).1 = a at HRI ha ⊢
    generalize Tx.numL (Lib.cut r [44]).2.1 = b at HRI hb ⊢
    go_wp2_with fail
    refine (implShow op a b ha.1 ha.2 hb.1 hb.2 B _ (by have := hw3.size; have := HB.out; simp; omega) ((HE.out.on ((hw3.alloc hw3.size _).mono HB.out)).tab)).mono ?_
    rintro e w4 ⟨rfl, hb4⟩
    have hw4 : Below w.heap.size w w4 := below_over (hw3.alloc hw3.size _) hb4
    have x4 := (Box.new w3 (.int .i64 op) (.int .i64 a) (.int .i64 b) 33).on hb4
    have y4 := (HXX3.out.on ((Below.refl _ _).alloc (Nat.le_refl _) (.cells #[.int .i64 op, .int .i64 a, .int .i64 b] 33))).on hb4
    clear hb4 HXX3 ha hb
    obtain ⟨c0, c1, c2, f0, f1, f2⟩ := x4
    obtain ⟨d0, d1, d2, g0, g1, g2⟩ := y4
    cases hq : (Tx.shownI op a b == s.toList)
    · have hres : Tx.readI s.data.toList = none := by
        rw [HRI.out, if_neg]
        rintro ⟨h1, h2⟩
        have : Tx.shownI op a b = s.toList := by rw [Lib.toList_data, ← h2]; simp [Tx.shownI, h1]
        rw [this] at hq; simp at hq
      have HRES : Hid (Tx.readI s.data.toList = none) := hres
      clear hres HRI
      obtain ⟨e0, e1, e2, _, _, _⟩ := (Box.mk d0 d1 d2 g0 g1 g2).set (.int .i64 0) (.int .i64 0) (.int .i64 0)
      go_wp2
      refine bodyPost_ret (v := .tuple #[.agg #[.int .i64 0, .int .i64 0, .int .i64 0], .bool false]) (by simp [results, Tryz.results20, go_sem, e0, e1, e2]) rfl ?_
      exact ⟨by rw [HRES.out]; rfl, by go_grown⟩
    · have hres : Tx.readI s.data.toList = some (op, a, b) := by
        have e : Tx.shownI op a b = s.data.toList := by rw [← Lib.toList_data]; simpa using hq
        have hok : Tx.okI op a b = true := by
          cases h : Tx.okI op a b
          · simp only [Tx.shownI, h, Bool.false_eq_true, if_false] at e
            rw [Lib.toList_data, ← e] at he; simp at he
          · rfl
        rw [HRI.out, if_pos ⟨hok, by rw [← e]; simp [Tx.shownI, hok]⟩]
      have HRES : Hid (Tx.readI s.data.toList = some (op, a, b)) := hres
      clear hres HRI
      obtain ⟨e0, e1, e2, _, _, _⟩ := (Box.mk d0 d1 d2 g0 g1 g2).set (.int .i64 op) (.int .i64 a) (.int .i64 b)
      go_wp2
      refine bodyPost_ret (v := .tuple #[.agg #[.int .i64 op, .int .i64 a, .int .i64 b], .bool true]) (by simp [results, Tryz.results20, go_sem, e0, e1, e2]) rfl ?_
      exact ⟨by rw [HRES.out]; rfl, by go_grown⟩
  · have hs0 : s.data.toList = [] := by rw [Lib.toList_data] at he; exact List.isEmpty_iff.1 he
    rw [hs0]
    clear hE hB
    go_enter Tryz.func20, Tryz.ntmps20
    go_wp2
    go_returns
    exact ⟨rfl, by go_grown⟩
end St
end Go.Proofs.YtnlanikjlokboaaGreatDoor
