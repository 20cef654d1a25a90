/- The contract of the other side's reading of a step. -/
import Derived.Test.YtnlanikjlokboaaGreatDoorRead1
import Derived.Test.YtnlanikjlokboaaGreatDoorRd1
import Derived.Test.YtnlanikjlokboaaGreatDoorSp1
namespace Go.Proofs.YtnlanikjlokboaaGreatDoor
namespace St
open Go.ChangeShapes Go.WideShapes Go.ChangeAt Go.RowKit

theorem rd_bd (l : List UInt8) : -9223372036854775808 ≤ Tx.rdL l ∧ Tx.rdL l ≤ 9223372036854775807 := by
  unfold Tx.rdL
  split
  · omega
  · rename_i h1
    split
    · omega
    · rename_i h2
      have hf := fold_lt (Tx.bodyL l) (by simpa using h2)
      have h3 : 10 ^ (Tx.bodyL l).length ≤ 10 ^ 10 := Nat.pow_le_pow_right (by omega) (by omega)
      have h4 : (10 : Nat) ^ 10 = 10000000000 := by decide
      split
      · omega
      · split <;> omega


/-- A slice that owns its row: where it lies, and its cells. -/
theorem owned {w : World} {B : Nat} {e : TypeId} {v : Value} {n : Nat} {xs : List Value} (h : w.ownsRow B e 1 v n xs) (hn : 1 ≤ n) :
    ∃ g cap, v = .slice (some ⟨g, 0, none⟩) n cap ∧ B ≤ g ∧ g < w.heap.size ∧ n ≤ cap ∧ ∀ j u, xs[j]? = some u → w.cell? ⟨g, j, none⟩ = some u := by
  have hc := @World.ownsRow.cells w B e 1 v n xs h
  have hl := @World.ownsRow.lt w B e 1 v n xs h
  obtain ⟨_, h | ⟨g, cap, cur, rfl, hB, _, hcap, _⟩⟩ := h
  · omega
  · refine ⟨g, cap, rfl, hB, (hl g rfl).2, hcap, fun j u hu => ?_⟩
    have := hc (g := g) rfl j u hu
    have e : (⟨g, 0, none⟩ : Addr).add j = ⟨g, j, none⟩ := by
      by_cases h0 : j = 0 <;> simp [Addr.add, h0]
    rw [e] at this; exact this

theorem strs_at {p : List (List UInt8)} {j : Nat} (h : j < p.length) : (strs p)[j]? = some (.string ⟨(p.getD j []).toArray⟩) := by
  simp [strs, h]

theorem readI_form {c : UInt8} {r : List UInt8} {op a b : Int} (h0 : 97 ≤ c.toNat) (h1 : c.toNat ≤ 116) (hop : op = (c.toNat : Int) - 97 + 1)
    (ha : a = if Tx.cnt op > 0 then Tx.rdL ((Tx.splitC 44 r).getD 0 []) else 0) (hb : b = if Tx.cnt op > 1 ∧ (Tx.splitC 44 r).length > 1 then Tx.rdL ((Tx.splitC 44 r).getD 1 []) else 0) :
    Tx.readI (c :: r) = if Tx.okI op a b = true ∧ Tx.showI op a b = c :: r then some (op, a, b) else none := by
  rw [← Tx.readS_eq]
  have e : (c.toNat : Int) - 96 = op := by omega
  simp only [Tx.readS, e]
  rw [if_neg (by omega), ← ha, ← hb]
theorem readI_out {c : UInt8} {r : List UInt8} (h : c.toNat < 97 ∨ 116 < c.toNat) : Tx.readI (c :: r) = none := by
  rw [← Tx.readS_eq]; simp only [Tx.readS]; rw [if_pos h]
theorem piece_len (c : UInt8) (l : List UInt8) : ∀ p ∈ Tx.splitC c l, p.length ≤ l.length := by
  have h := Tx.splitC_total c l
  intro p hp
  have : p.length + 1 ≤ ((Tx.splitC c l).map (fun x => x.length + 1)).sum := by
    generalize Tx.splitC c l = q at hp
    induction q with
    | nil => simp at hp
    | cons x q ih =>
      simp only [List.map_cons, List.sum_cons]
      rcases List.mem_cons.1 hp with rfl | hp
      · omega
      · have := ih hp; omega
  omega
theorem piece_at_len (c : UInt8) (l : List UInt8) (j : Nat) : ((Tx.splitC c l).getD j []).length ≤ l.length := by
  by_cases h : j < (Tx.splitC c l).length
  · have e : (Tx.splitC c l).getD j [] = (Tx.splitC c l)[j] := by simp [h]
    rw [e]; exact piece_len c l _ (List.getElem_mem _)
  · have e : (Tx.splitC c l).getD j [] = [] := by simp [Nat.le_of_not_lt h]
    rw [e]; simp

set_option maxHeartbeats 2000000 in
theorem specRead_main (s : ByteArray) (hs : s.size ≤ 2000000) (w : World) (he : s.toList.isEmpty = false) (hp : 0 < s.size) (r : List UInt8) (HR : Hid (s.data.toList = s[0] :: r)) (HX : Hid ((s.extract 1 s.size).data.toList = r))
    (hlo : ¬ ((s[0].toNat : Int) < 97)) (hhi : ¬ ((116 : Int) < (s[0].toNat : Int))) :
    Calls Tryz.prog 22 #[.string s] w fun e w' => e = .returned (.tuple #[insV (Tx.readI s.data.toList), .bool (Tx.readI s.data.toList).isSome]) ∧ Below w.heap.size w w' := by
  have hrl : r.length ≤ 2000000 := by
    have := congrArg List.length HR.out
    rw [List.length_cons, Array.length_toList] at this
    have h2 : s.data.size = s.size := rfl
    omega
  go_enter Tryz.func22, Tryz.ntmps22
  go_wp2_with fail
  have HOP : Hid (∃ op : Int, op = (s[0].toNat : Int) - 97 + 1) := ⟨_, rfl⟩
  obtain ⟨op, hop⟩ := HOP.out
  rw [← hop]
  have HO : Hid (op = (s[0].toNat : Int) - 97 + 1) := hop
  clear hop HOP
  refine (split_at (s.extract 1 s.size) (by simp; omega) 44 _).mono ?_
  rw [HX.out]
  rintro e w1 ⟨v, rfl, hown, hb1⟩
  have hlen : 1 ≤ (Tx.splitC 44 r).length := by rw [Tx.splitC_len]; omega
  obtain ⟨g, cap, rfl, hBg, hg, hcap, hcells⟩ := owned hown hlen
  clear hown
  have hw1 : Below w.heap.size w w1 := below_over (by go_grown) hb1
  have BY1 : Hid (Box w1 w.heap.size (.int .i64 0) (.int .i64 0) (.int .i64 0)) := ((Box.new w _ _ _ _).on ((Below.refl _ _).alloc (Nat.le_refl _) _)).on hb1
  have BX1 : Hid (Box w1 (w.heap.size + 1) (.int .i64 op) (.int .i64 0) (.int .i64 0)) := by
    have h := (Box.new (w.alloc (.cells #[.int .i64 0, .int .i64 0, .int .i64 0] 33)) (.int .i64 op) (.int .i64 0) (.int .i64 0) 33).on hb1
    have e : (w.alloc (.cells #[.int .i64 0, .int .i64 0, .int .i64 0] 33)).heap.size = w.heap.size + 1 := by simp
    rw [e] at h; exact h
  have hg2 : g ≠ w.heap.size + 1 := by
    have : w.heap.size + 2 ≤ g := by simpa using hBg
    omega
  have q0 : w1.cell? ⟨g, 0, none⟩ = some (.string ⟨((Tx.splitC 44 r).getD 0 []).toArray⟩) := hcells 0 _ (strs_at (by omega))
  have HC1 : Hid (1 < (Tx.splitC 44 r).length → w1.cell? ⟨g, 1, none⟩ = some (.string ⟨((Tx.splitC 44 r).getD 1 []).toArray⟩)) := fun h => hcells 1 _ (strs_at h)
  have HF : Hid (∀ a b : Int, a = (if Tx.cnt op > 0 then Tx.rdL ((Tx.splitC 44 r).getD 0 []) else 0) → b = (if Tx.cnt op > 1 ∧ (Tx.splitC 44 r).length > 1 then Tx.rdL ((Tx.splitC 44 r).getD 1 []) else 0) →
      Tx.readI s.data.toList = if Tx.okI op a b = true ∧ Tx.showI op a b = s.data.toList then some (op, a, b) else none) := fun a b ha hb => by
    rw [HR.out]; exact readI_form (by omega) (by omega) HO.out ha hb
  have hl0 := piece_at_len 44 r 0
  have hl1 := piece_at_len 44 r 1
  have hb0 := rd_bd ((Tx.splitC 44 r).getD 0 [])
  have hbb1 := rd_bd ((Tx.splitC 44 r).getD 1 [])
  clear hcells hb1 hBg hlo hhi
  generalize (Tx.splitC 44 r).getD 0 [] = P0 at *
  generalize (Tx.splitC 44 r).getD 1 [] = P1 at *
  generalize (Tx.splitC 44 r).length = L at *
  have hc2 := Tx.cnt_le op
  have hcase : Tx.cnt op = 0 ∨ Tx.cnt op = 1 ∨ Tx.cnt op = 2 := by omega
  clear hc2
  rcases hcase with hc | hc | hc
  · have HC : Hid (Tx.cnt op = 0) := hc
    clear hc
    obtain ⟨i0, i1, i2, _, _, _⟩ := BX1.out
    go_wp2_with fail
    refine (count_at op 0 HC.out _).mono ?_
    rintro e w1' ⟨rfl, rfl⟩
    have BD0 : (-9223372036854775808 : Int) ≤ 0 ∧ (0 : Int) ≤ 9223372036854775807 := by omega
    have HRI : Hid (Tx.readI s.data.toList = if Tx.okI op 0 0 = true ∧ Tx.showI op 0 0 = s.data.toList then some (op, 0, 0) else none) := HF.out 0 0 (by rw [if_neg (by rw [HC.out]; omega)]) (by rw [if_neg (by rw [HC.out]; omega)])
    have hwx := hw1
    have BX := BX1.out
    have BY := BY1.out
    go_wp2_with fail
    refine (specOk op 0 0 _).mono ?_
    rintro e w2 ⟨rfl, hb2⟩
    have hw2 : Below w.heap.size w w2 := below_over hwx hb2
    have x2 := BX.on hb2
    have y2 := BY.on hb2
    clear hb2
    obtain ⟨c0, c1, c2, f0, f1, f2⟩ := x2
    obtain ⟨d0, d1, d2, g0, g1, g2⟩ := y2
    cases hok : Tx.okI op 0 0
    · have HRES : Hid (Tx.readI s.data.toList = none) := by
        show Tx.readI s.data.toList = none
        rw [HRI.out, if_neg (by rw [hok]; simp)]
      obtain ⟨e0, e1, e2, _, _, _⟩ := (Box.mk d0 d1 d2 g0 g1 g2).set (.int .i64 0) (.int .i64 0) (.int .i64 0)
      go_wp2
      refine bodyPost_ret (v := .tuple #[.agg #[.int .i64 0, .int .i64 0, .int .i64 0], .bool false]) (by simp [results, Tryz.results22, go_sem, e0, e1, e2]) rfl ?_
      exact ⟨by rw [HRES.out]; rfl, by go_grown⟩
    · go_wp2_with fail
      refine (tell_at op 0 0 BD0.1 BD0.2 BD0.1 BD0.2 hok _).mono ?_
      rintro e w3 ⟨rfl, hb3⟩
      have hw3 : Below w.heap.size w w3 := below_over hw2 hb3
      have x3 := (Box.mk c0 c1 c2 f0 f1 f2).on hb3
      have y3 := (Box.mk d0 d1 d2 g0 g1 g2).on hb3
      clear hb3 c0 c1 c2 f0 f1 f2 d0 d1 d2 g0 g1 g2
      obtain ⟨c0, c1, c2, f0, f1, f2⟩ := x3
      obtain ⟨d0, d1, d2, g0, g1, g2⟩ := y3
      cases hq : (Tx.showI op 0 0 == s.toList)
      · have HRES : Hid (Tx.readI s.data.toList = none) := by
          show Tx.readI s.data.toList = none
          rw [HRI.out, if_neg]
          rintro ⟨_, h2⟩
          rw [h2, Lib.toList_data] at hq; simp at hq
        obtain ⟨e0, e1, e2, _, _, _⟩ := (Box.mk d0 d1 d2 g0 g1 g2).set (.int .i64 0) (.int .i64 0) (.int .i64 0)
        go_wp2
        refine bodyPost_ret (v := .tuple #[.agg #[.int .i64 0, .int .i64 0, .int .i64 0], .bool false]) (by simp [results, Tryz.results22, go_sem, e0, e1, e2]) rfl ?_
        exact ⟨by rw [HRES.out]; rfl, by go_grown⟩
      · have HRES : Hid (Tx.readI s.data.toList = some (op, 0, 0)) := by
          show Tx.readI s.data.toList = some (op, 0, 0)
          rw [HRI.out, if_pos ⟨hok, by rw [← Lib.toList_data]; simpa using hq⟩]
        obtain ⟨e0, e1, e2, _, _, _⟩ := (Box.mk d0 d1 d2 g0 g1 g2).set (.int .i64 op) (.int .i64 0) (.int .i64 0)
        go_wp2
        refine bodyPost_ret (v := .tuple #[.agg #[.int .i64 op, .int .i64 0, .int .i64 0], .bool true]) (by simp [results, Tryz.results22, go_sem, e0, e1, e2]) rfl ?_
        exact ⟨by rw [HRES.out]; rfl, by go_grown⟩
  · have HC : Hid (Tx.cnt op = 1) := hc
    clear hc
    obtain ⟨i0, i1, i2, j0, j1, j2⟩ := BX1.out
    have hL0 : (0 : Int) < (L : Int) := by omega
    go_wp2_with fail
    refine (count_at op 1 HC.out _).mono ?_
    rintro e w1' ⟨rfl, rfl⟩
    go_wp2_with fail
    refine (read_at ⟨P0.toArray⟩ (by rw [mk_size]; omega) _).mono ?_
    have e0 : (⟨P0.toArray⟩ : ByteArray).data.toList = P0 := rfl
    rw [e0]
    clear e0
    rintro e w1' ⟨bb, rfl, rfl⟩
    have BD0 : (-9223372036854775808 : Int) ≤ 0 ∧ (0 : Int) ≤ 9223372036854775807 := by omega
    have HRI : Hid (Tx.readI s.data.toList = if Tx.okI op (Tx.rdL P0) 0 = true ∧ Tx.showI op (Tx.rdL P0) 0 = s.data.toList then some (op, Tx.rdL P0, 0) else none) := HF.out _ _ (by rw [if_pos (by rw [HC.out]; omega)]) (by rw [if_neg (by rw [HC.out]; omega)])
    generalize Tx.rdL P0 = a at *
    have BX := BX1.out.set1 (.int .i64 a)
    have BY := BY1.out.far ⟨w.heap.size + 1, 1, none⟩ (.int .i64 a) (by simp)
    have hwx := hw1.setCell (p := ⟨w.heap.size + 1, 1, none⟩) (by simp) (.int .i64 a)
    obtain ⟨k0, k1, k2, _, _, _⟩ := BX
    have BX := BX1.out.set1 (.int .i64 a)
    go_wp2_with fail
    refine (specOk op a 0 _).mono ?_
    rintro e w2 ⟨rfl, hb2⟩
    have hw2 : Below w.heap.size w w2 := below_over hwx hb2
    have x2 := BX.on hb2
    have y2 := BY.on hb2
    clear hb2
    obtain ⟨c0, c1, c2, f0, f1, f2⟩ := x2
    obtain ⟨d0, d1, d2, g0, g1, g2⟩ := y2
    cases hok : Tx.okI op a 0
    · have HRES : Hid (Tx.readI s.data.toList = none) := by
        show Tx.readI s.data.toList = none
        rw [HRI.out, if_neg (by rw [hok]; simp)]
      obtain ⟨e0, e1, e2, _, _, _⟩ := (Box.mk d0 d1 d2 g0 g1 g2).set (.int .i64 0) (.int .i64 0) (.int .i64 0)
      go_wp2
      refine bodyPost_ret (v := .tuple #[.agg #[.int .i64 0, .int .i64 0, .int .i64 0], .bool false]) (by simp [results, Tryz.results22, go_sem, e0, e1, e2]) rfl ?_
      exact ⟨by rw [HRES.out]; rfl, by go_grown⟩
    · go_wp2_with fail
      refine (tell_at op a 0 hb0.1 hb0.2 BD0.1 BD0.2 hok _).mono ?_
      rintro e w3 ⟨rfl, hb3⟩
      have hw3 : Below w.heap.size w w3 := below_over hw2 hb3
      have x3 := (Box.mk c0 c1 c2 f0 f1 f2).on hb3
      have y3 := (Box.mk d0 d1 d2 g0 g1 g2).on hb3
      clear hb3 c0 c1 c2 f0 f1 f2 d0 d1 d2 g0 g1 g2
      obtain ⟨c0, c1, c2, f0, f1, f2⟩ := x3
      obtain ⟨d0, d1, d2, g0, g1, g2⟩ := y3
      cases hq : (Tx.showI op a 0 == s.toList)
      · have HRES : Hid (Tx.readI s.data.toList = none) := by
          show Tx.readI s.data.toList = none
          rw [HRI.out, if_neg]
          rintro ⟨_, h2⟩
          rw [h2, Lib.toList_data] at hq; simp at hq
        obtain ⟨e0, e1, e2, _, _, _⟩ := (Box.mk d0 d1 d2 g0 g1 g2).set (.int .i64 0) (.int .i64 0) (.int .i64 0)
        go_wp2
        refine bodyPost_ret (v := .tuple #[.agg #[.int .i64 0, .int .i64 0, .int .i64 0], .bool false]) (by simp [results, Tryz.results22, go_sem, e0, e1, e2]) rfl ?_
        exact ⟨by rw [HRES.out]; rfl, by go_grown⟩
      · have HRES : Hid (Tx.readI s.data.toList = some (op, a, 0)) := by
          show Tx.readI s.data.toList = some (op, a, 0)
          rw [HRI.out, if_pos ⟨hok, by rw [← Lib.toList_data]; simpa using hq⟩]
        obtain ⟨e0, e1, e2, _, _, _⟩ := (Box.mk d0 d1 d2 g0 g1 g2).set (.int .i64 op) (.int .i64 a) (.int .i64 0)
        go_wp2
        refine bodyPost_ret (v := .tuple #[.agg #[.int .i64 op, .int .i64 a, .int .i64 0], .bool true]) (by simp [results, Tryz.results22, go_sem, e0, e1, e2]) rfl ?_
        exact ⟨by rw [HRES.out]; rfl, by go_grown⟩
  · have HC : Hid (Tx.cnt op = 2) := hc
    clear hc
    obtain ⟨i0, i1, i2, j0, j1, j2⟩ := BX1.out
    have hL0 : (0 : Int) < (L : Int) := by omega
    go_wp2_with fail
    refine (count_at op 2 HC.out _).mono ?_
    rintro e w1' ⟨rfl, rfl⟩
    go_wp2_with fail
    refine (read_at ⟨P0.toArray⟩ (by rw [mk_size]; omega) _).mono ?_
    have e0 : (⟨P0.toArray⟩ : ByteArray).data.toList = P0 := rfl
    rw [e0]
    clear e0
    rintro e w1' ⟨bb, rfl, rfl⟩
    have BD0 : (-9223372036854775808 : Int) ≤ 0 ∧ (0 : Int) ≤ 9223372036854775807 := by omega
    have BX2 := BX1.out.set1 (.int .i64 (Tx.rdL P0))
    have BY2 := BY1.out.far ⟨w.heap.size + 1, 1, none⟩ (.int .i64 (Tx.rdL P0)) (by simp)
    have hwx2 := hw1.setCell (p := ⟨w.heap.size + 1, 1, none⟩) (by simp) (.int .i64 (Tx.rdL P0))
    by_cases hL : 1 < L
    · have hLi : (1 : Int) < (L : Int) := by omega
      have q1 : (w1.setCell ⟨w.heap.size + 1, 1, none⟩ (.int .i64 (Tx.rdL P0))).cell? ⟨g, 1, none⟩ = some (.string ⟨P1.toArray⟩) := (World.cell?_setCell_other _ _ _ _ (fun e => hg2 (congrArg Addr.block e).symm)).trans (HC1.out hL)
      have HRI : Hid (Tx.readI s.data.toList = if Tx.okI op (Tx.rdL P0) (Tx.rdL P1) = true ∧ Tx.showI op (Tx.rdL P0) (Tx.rdL P1) = s.data.toList then some (op, Tx.rdL P0, Tx.rdL P1) else none) := HF.out _ _ (by rw [if_pos (by rw [HC.out]; omega)]) (by rw [if_pos ⟨by rw [HC.out]; omega, hL⟩])
      generalize Tx.rdL P0 = a at *
      obtain ⟨k0, k1, k2, l0, l1, l2⟩ := BX2
      have BX2 : Box (w1.setCell ⟨w.heap.size + 1, 1, none⟩ (.int .i64 a)) (w.heap.size + 1) (.int .i64 op) (.int .i64 a) (.int .i64 0) := ⟨k0, k1, k2, l0, l1, l2⟩
      go_wp2_with fail
      refine (read_at ⟨P1.toArray⟩ (by rw [mk_size]; omega) _).mono ?_
      have e0 : (⟨P1.toArray⟩ : ByteArray).data.toList = P1 := rfl
      rw [e0]
      clear e0
      rintro e w1' ⟨bb2, rfl, rfl⟩
      generalize Tx.rdL P1 = b at *
      have BX := BX2.set2 (.int .i64 b)
      have BY := BY2.far ⟨w.heap.size + 1, 2, none⟩ (.int .i64 b) (by simp)
      have hwx := hwx2.setCell (p := ⟨w.heap.size + 1, 2, none⟩) (by simp) (.int .i64 b)
      obtain ⟨m0, m1, m2, _, _, _⟩ := BX
      have BX := BX2.set2 (.int .i64 b)
      go_wp2_with fail
      refine (specOk op a b _).mono ?_
      rintro e w2 ⟨rfl, hb2⟩
      have hw2 : Below w.heap.size w w2 := below_over hwx hb2
      have x2 := BX.on hb2
      have y2 := BY.on hb2
      clear hb2
      obtain ⟨c0, c1, c2, f0, f1, f2⟩ := x2
      obtain ⟨d0, d1, d2, g0, g1, g2⟩ := y2
      cases hok : Tx.okI op a b
      · have HRES : Hid (Tx.readI s.data.toList = none) := by
          show Tx.readI s.data.toList = none
          rw [HRI.out, if_neg (by rw [hok]; simp)]
        obtain ⟨e0, e1, e2, _, _, _⟩ := (Box.mk d0 d1 d2 g0 g1 g2).set (.int .i64 0) (.int .i64 0) (.int .i64 0)
        go_wp2
        refine bodyPost_ret (v := .tuple #[.agg #[.int .i64 0, .int .i64 0, .int .i64 0], .bool false]) (by simp [results, Tryz.results22, go_sem, e0, e1, e2]) rfl ?_
        exact ⟨by rw [HRES.out]; rfl, by go_grown⟩
      · go_wp2_with fail
        refine (tell_at op a b hb0.1 hb0.2 hbb1.1 hbb1.2 hok _).mono ?_
        rintro e w3 ⟨rfl, hb3⟩
        have hw3 : Below w.heap.size w w3 := below_over hw2 hb3
        have x3 := (Box.mk c0 c1 c2 f0 f1 f2).on hb3
        have y3 := (Box.mk d0 d1 d2 g0 g1 g2).on hb3
        clear hb3 c0 c1 c2 f0 f1 f2 d0 d1 d2 g0 g1 g2
        obtain ⟨c0, c1, c2, f0, f1, f2⟩ := x3
        obtain ⟨d0, d1, d2, g0, g1, g2⟩ := y3
        cases hq : (Tx.showI op a b == s.toList)
        · have HRES : Hid (Tx.readI s.data.toList = none) := by
            show Tx.readI s.data.toList = none
            rw [HRI.out, if_neg]
            rintro ⟨_, h2⟩
            rw [h2, Lib.toList_data] at hq; simp at hq
          obtain ⟨e0, e1, e2, _, _, _⟩ := (Box.mk d0 d1 d2 g0 g1 g2).set (.int .i64 0) (.int .i64 0) (.int .i64 0)
          go_wp2
          refine bodyPost_ret (v := .tuple #[.agg #[.int .i64 0, .int .i64 0, .int .i64 0], .bool false]) (by simp [results, Tryz.results22, go_sem, e0, e1, e2]) rfl ?_
          exact ⟨by rw [HRES.out]; rfl, by go_grown⟩
        · have HRES : Hid (Tx.readI s.data.toList = some (op, a, b)) := by
            show Tx.readI s.data.toList = some (op, a, b)
            rw [HRI.out, if_pos ⟨hok, by rw [← Lib.toList_data]; simpa using hq⟩]
          obtain ⟨e0, e1, e2, _, _, _⟩ := (Box.mk d0 d1 d2 g0 g1 g2).set (.int .i64 op) (.int .i64 a) (.int .i64 b)
          go_wp2
          refine bodyPost_ret (v := .tuple #[.agg #[.int .i64 op, .int .i64 a, .int .i64 b], .bool true]) (by simp [results, Tryz.results22, go_sem, e0, e1, e2]) rfl ?_
          exact ⟨by rw [HRES.out]; rfl, by go_grown⟩
    · have hLi : ¬ ((1 : Int) < (L : Int)) := by omega
      have HRI : Hid (Tx.readI s.data.toList = if Tx.okI op (Tx.rdL P0) 0 = true ∧ Tx.showI op (Tx.rdL P0) 0 = s.data.toList then some (op, Tx.rdL P0, 0) else none) := HF.out _ _ (by rw [if_pos (by rw [HC.out]; omega)]) (by rw [if_neg (fun h => hL h.2)])
      generalize Tx.rdL P0 = a at *
      have BX := BX2
      have BY := BY2
      have hwx := hwx2
      obtain ⟨k0, k1, k2, _, _, _⟩ := BX2
      go_wp2_with fail
      refine (specOk op a 0 _).mono ?_
      rintro e w2 ⟨rfl, hb2⟩
      have hw2 : Below w.heap.size w w2 := below_over hwx hb2
      have x2 := BX.on hb2
      have y2 := BY.on hb2
      clear hb2
      obtain ⟨c0, c1, c2, f0, f1, f2⟩ := x2
      obtain ⟨d0, d1, d2, g0, g1, g2⟩ := y2
      cases hok : Tx.okI op a 0
      · have HRES : Hid (Tx.readI s.data.toList = none) := by
          show Tx.readI s.data.toList = none
          rw [HRI.out, if_neg (by rw [hok]; simp)]
        obtain ⟨e0, e1, e2, _, _, _⟩ := (Box.mk d0 d1 d2 g0 g1 g2).set (.int .i64 0) (.int .i64 0) (.int .i64 0)
        go_wp2
        refine bodyPost_ret (v := .tuple #[.agg #[.int .i64 0, .int .i64 0, .int .i64 0], .bool false]) (by simp [results, Tryz.results22, go_sem, e0, e1, e2]) rfl ?_
        exact ⟨by rw [HRES.out]; rfl, by go_grown⟩
      · go_wp2_with fail
        refine (tell_at op a 0 hb0.1 hb0.2 BD0.1 BD0.2 hok _).mono ?_
        rintro e w3 ⟨rfl, hb3⟩
        have hw3 : Below w.heap.size w w3 := below_over hw2 hb3
        have x3 := (Box.mk c0 c1 c2 f0 f1 f2).on hb3
        have y3 := (Box.mk d0 d1 d2 g0 g1 g2).on hb3
        clear hb3 c0 c1 c2 f0 f1 f2 d0 d1 d2 g0 g1 g2
        obtain ⟨c0, c1, c2, f0, f1, f2⟩ := x3
        obtain ⟨d0, d1, d2, g0, g1, g2⟩ := y3
        cases hq : (Tx.showI op a 0 == s.toList)
        · have HRES : Hid (Tx.readI s.data.toList = none) := by
            show Tx.readI s.data.toList = none
            rw [HRI.out, if_neg]
            rintro ⟨_, h2⟩
            rw [h2, Lib.toList_data] at hq; simp at hq
          obtain ⟨e0, e1, e2, _, _, _⟩ := (Box.mk d0 d1 d2 g0 g1 g2).set (.int .i64 0) (.int .i64 0) (.int .i64 0)
          go_wp2
          refine bodyPost_ret (v := .tuple #[.agg #[.int .i64 0, .int .i64 0, .int .i64 0], .bool false]) (by simp [results, Tryz.results22, go_sem, e0, e1, e2]) rfl ?_
          exact ⟨by rw [HRES.out]; rfl, by go_grown⟩
        · have HRES : Hid (Tx.readI s.data.toList = some (op, a, 0)) := by
            show Tx.readI s.data.toList = some (op, a, 0)
            rw [HRI.out, if_pos ⟨hok, by rw [← Lib.toList_data]; simpa using hq⟩]
          obtain ⟨e0, e1, e2, _, _, _⟩ := (Box.mk d0 d1 d2 g0 g1 g2).set (.int .i64 op) (.int .i64 a) (.int .i64 0)
          go_wp2
          refine bodyPost_ret (v := .tuple #[.agg #[.int .i64 op, .int .i64 a, .int .i64 0], .bool true]) (by simp [results, Tryz.results22, go_sem, e0, e1, e2]) rfl ?_
          exact ⟨by rw [HRES.out]; rfl, by go_grown⟩

theorem specRead (s : ByteArray) (hs : s.size ≤ 2000000) (w : World) :
    Calls Tryz.prog 22 #[.string s] w fun e w' => e = .returned (.tuple #[insV (Tx.readI s.data.toList), .bool (Tx.readI s.data.toList).isSome]) ∧ Below w.heap.size w w' := by
  cases he : s.toList.isEmpty
  · obtain ⟨hp, r, hr, hx⟩ := str_cons s he
    have HR : Hid (s.data.toList = s[0] :: r) := hr
    have HX : Hid ((s.extract 1 s.size).data.toList = r) := hx
    clear hr hx
    by_cases hlo : (s[0].toNat : Int) < 97
    · have HN : Hid (Tx.readI s.data.toList = none) := by rw [HR.out]; exact readI_out (by omega)
      go_enter Tryz.func22, Tryz.ntmps22
      go_wp2
      go_returns
      exact ⟨by rw [HN.out]; rfl, by go_grown⟩
    · by_cases hhi : (116 : Int) < (s[0].toNat : Int)
      · have HN : Hid (Tx.readI s.data.toList = none) := by rw [HR.out]; exact readI_out (by omega)
        go_enter Tryz.func22, Tryz.ntmps22
        go_wp2
        go_returns
        exact ⟨by rw [HN.out]; rfl, by go_grown⟩
      · exact specRead_main s hs w he hp r HR HX hlo hhi
  · have hs0 : s.data.toList = [] := by rw [Lib.toList_data] at he; exact List.isEmpty_iff.1 he
    rw [hs0]
    go_enter Tryz.func22, Tryz.ntmps22
    go_wp2
    go_returns
    exact ⟨rfl, by go_grown⟩
end St
end Go.Proofs.YtnlanikjlokboaaGreatDoor
