/- The contract of the other side's copying of a method. -/
import Derived.Test.YtbfiijfaaknhaaaPc0
namespace Go.Proofs.Ytbfiijfaaknhaaa
namespace Pg
open Go.ChangeShapes Go.WideShapes Go.ChangeAt Go.RowKit St

theorem forget {P : Program} {ops : Array Oper} {Q : Exit → Act → World → Prop} {rest : List Oper} {a : Act} {w : World} (h : ∀ u, Hid (u = w) → wpList P ops Q rest a u) : wpList P ops Q rest a w := h w rfl

set_option maxRecDepth 100000 in
set_option maxHeartbeats 4000000 in
theorem l4Copy (B : Nat) (m : Meth) (va vc : Value) (hs : SmallM m) (w : World) (hv : MV front B w va vc m) :
    Calls Try.prog 29 #[.agg #[.int .i64 m.name, va, .int .i64 m.gives, vc]] w fun e w' => ∃ x1 y1 x2 y2, e = .returned (.agg #[.int .i64 m.name, .slice x1 m.args.length y1, .int .i64 m.gives, .slice x2 m.code.length y2]) ∧ AnsM w.heap.size w' (.slice x1 m.args.length y1) (.slice x2 m.code.length y2) m ∧ Below w.heap.size w w' ∧ CS w.heap.size w' (.slice x2 m.code.length y2) m.code := by
  obtain ⟨k0, hif, hz0, hz1, hz2⟩ := info_parts infoN
  obtain ⟨j0, hj, hy0, hy1, hy2⟩ := info_parts infoI
  obtain ⟨x1, y1, rfl⟩ := hv.1.form
  obtain ⟨gc, y2, rfl, _, _, hrow, _⟩ := hv.2
  have HI : Hid (SI true B w (.slice x1 m.args.length y1) m.args) := hv.1
  have HR : Hid (Row w gc 0 m.code) := hrow
  have hs1 := hs.1
  have hs2 := hs.2
  clear hv hrow hs
  have hwW : Below w.heap.size w ((w.alloc (.cells #[.int .i64 m.name, .slice x1 m.args.length y1, .int .i64 m.gives, .slice (some ⟨gc, 0, none⟩) m.code.length y2] 29)).alloc (.cells #[.int .i64 0, .slice none 0 0, .int .i64 0, .slice none 0 0] 29)) := ((Below.refl _ _).alloc (Nat.le_refl _) _).alloc (by simp) _
  have HZW : Hid (((w.alloc (.cells #[.int .i64 m.name, .slice x1 m.args.length y1, .int .i64 m.gives, .slice (some ⟨gc, 0, none⟩) m.code.length y2] 29)).alloc (.cells #[.int .i64 0, .slice none 0 0, .int .i64 0, .slice none 0 0] 29)).heap.size = w.heap.size + 1 + 1) := by show _ = _; simp
  have M0 : Hid (Cells ((w.alloc (.cells #[.int .i64 m.name, .slice x1 m.args.length y1, .int .i64 m.gives, .slice (some ⟨gc, 0, none⟩) m.code.length y2] 29)).alloc (.cells #[.int .i64 0, .slice none 0 0, .int .i64 0, .slice none 0 0] 29)) w.heap.size [.int .i64 m.name, .slice x1 m.args.length y1, .int .i64 m.gives, .slice (some ⟨gc, 0, none⟩) m.code.length y2]) := (Cells.new w _ rfl _ _).alloc _
  have R0 : Hid (Cells ((w.alloc (.cells #[.int .i64 m.name, .slice x1 m.args.length y1, .int .i64 m.gives, .slice (some ⟨gc, 0, none⟩) m.code.length y2] 29)).alloc (.cells #[.int .i64 0, .slice none 0 0, .int .i64 0, .slice none 0 0] 29)) (w.heap.size + 1) [.int .i64 0, .slice none 0 0, .int .i64 0, .slice none 0 0]) := Cells.new (w.alloc _) _ (by simp) _ _
  have HOW : Hid ((((w.alloc (.cells #[.int .i64 m.name, .slice x1 m.args.length y1, .int .i64 m.gives, .slice (some ⟨gc, 0, none⟩) m.code.length y2] 29)).alloc (.cells #[.int .i64 0, .slice none 0 0, .int .i64 0, .slice none 0 0] 29)).alloc (.cells #[] 2)).ownsRow (w.heap.size + 1 + 1) 2 1 (.slice (some ⟨w.heap.size + 1 + 1, 0, none⟩) 0 0) 0 []) := by
    have h := World.ownsRow_made (base := w.heap.size + 1 + 1) (e := 2) (size := 1) ((w.alloc (.cells #[.int .i64 m.name, .slice x1 m.args.length y1, .int .i64 m.gives, .slice (some ⟨gc, 0, none⟩) m.code.length y2] 29)).alloc (.cells #[.int .i64 0, .slice none 0 0, .int .i64 0, .slice none 0 0] 29)) #[] 0 (by simp) (by decide) (by simp)
    unfold Hid
    simpa using h
  have HNN : Hid ((⟨w.heap.size, 1, none⟩ : Addr).block ≠ w.heap.size + 1) := by show w.heap.size ≠ w.heap.size + 1; omega
  have b1 := (M0.out.alloc (.cells #[] 2)).g1.1
  cases x1 with
  | none =>
    obtain ⟨hfe, _, ht1⟩ := Arr.nil HI.out
    obtain ⟨nm, ags, gv, cd⟩ := m
    dsimp only at hfe
    subst hfe
    subst ht1
    dsimp only [List.length_nil] at *
    clear HI
    go_enter Try.func29, Try.ntmps29
    go_wp2_with (at_builtin; refine wpList_append_own_none rfl _ _ 26 rfl (w.heap.size + 1 + 1) 2 k0 1 Try.underlying26 hif _ _ _ rfl HOW.out rfl ?_; refine forget ?_)
    intro w1 hu
    have hb1 : Below ((w.alloc (.cells #[.int .i64 nm, .slice none 0 0, .int .i64 gv, .slice (some ⟨gc, 0, none⟩) cd.length y2] 29)).alloc (.cells #[.int .i64 0, .slice none 0 0, .int .i64 0, .slice none 0 0] 29)).heap.size ((w.alloc (.cells #[.int .i64 nm, .slice none 0 0, .int .i64 gv, .slice (some ⟨gc, 0, none⟩) cd.length y2] 29)).alloc (.cells #[.int .i64 0, .slice none 0 0, .int .i64 0, .slice none 0 0] 29)) w1 := by rw [hu.out]; exact (Below.refl _ _).alloc (Nat.le_refl _) _
    have HS1 : Hid (GZ (w.heap.size + 1 + 1) w1.heap.size w1 (.slice (some ⟨w.heap.size + 1 + 1, 0, none⟩) 0 0) []) := by
      rw [hu.out]
      exact GZ.of (grow_of (l := []) HOW.out (by simp)).gint
    have M1 := M0.out.on hb1
    have R1 := R0.out.on hb1
    have HB1 : Hid (Below w.heap.size w w1) := below_over hwW hb1
    have hz1' : w.heap.size + 1 + 1 ≤ w1.heap.size := by
      have h1 := hb1.size
      have h2 := HZW.out
      omega
    clear hu
    obtain ⟨m1, f1⟩ := M1.g1
    have MX1 := M1.s1 (.slice (some ⟨w.heap.size + 1 + 1, 0, none⟩) 0 0)
    have RX1 := R1.far ⟨w.heap.size, 1, none⟩ (.slice (some ⟨w.heap.size + 1 + 1, 0, none⟩) 0 0) HNN.out
    have SX1 := HS1.out.keep (Keep.set (B := w.heap.size + 1 + 1) w1 (p := ⟨w.heap.size, 1, none⟩) (by show w.heap.size < w.heap.size + 1 + 1; omega) (.slice (some ⟨w.heap.size + 1 + 1, 0, none⟩) 0 0)) (Nat.le_refl _)
    have hwX := HB1.out.setCell (p := ⟨w.heap.size, 1, none⟩) (by simp) (.slice (some ⟨w.heap.size + 1 + 1, 0, none⟩) 0 0)
    have hzX1 : w.heap.size + 1 + 1 ≤ (w1.setCell ⟨w.heap.size, 1, none⟩ (.slice (some ⟨w.heap.size + 1 + 1, 0, none⟩) 0 0)).heap.size := by
      simp
      omega
    clear hb1 b1 HS1 M1 R1 HB1 HOW M0 R0 hwW HZW
    have MB : Hid (Cells (w1.setCell ⟨w.heap.size, 1, none⟩ (.slice (some ⟨w.heap.size + 1 + 1, 0, none⟩) 0 0)) w.heap.size [.int .i64 nm, .slice (some ⟨w.heap.size + 1 + 1, 0, none⟩) 0 0, .int .i64 gv, .slice (some ⟨gc, 0, none⟩) cd.length y2]) := MX1
    have RB : Hid (Cells (w1.setCell ⟨w.heap.size, 1, none⟩ (.slice (some ⟨w.heap.size + 1 + 1, 0, none⟩) 0 0)) (w.heap.size + 1) [.int .i64 0, .slice none 0 0, .int .i64 0, .slice none 0 0]) := RX1
    have HV1 : Hid (GZ (w.heap.size + 1 + 1) w1.heap.size (w1.setCell ⟨w.heap.size, 1, none⟩ (.slice (some ⟨w.heap.size + 1 + 1, 0, none⟩) 0 0)) (.slice (some ⟨w.heap.size + 1 + 1, 0, none⟩) 0 0) []) := SX1
    have HBX : Hid (Below w.heap.size w (w1.setCell ⟨w.heap.size, 1, none⟩ (.slice (some ⟨w.heap.size + 1 + 1, 0, none⟩) 0 0))) := hwX
    have hzX : w.heap.size + 1 + 1 ≤ (w1.setCell ⟨w.heap.size, 1, none⟩ (.slice (some ⟨w.heap.size + 1 + 1, 0, none⟩) 0 0)).heap.size := hzX1
    clear MX1 RX1 SX1 hwX hzX1
    have HO2 : Hid (((w1.setCell ⟨w.heap.size, 1, none⟩ (.slice (some ⟨w.heap.size + 1 + 1, 0, none⟩) 0 0)).alloc (.cells #[] 78)).ownsRow w1.heap.size 78 3 (.slice (some ⟨w1.heap.size, 0, none⟩) 0 0) 0 []) := by
      have h := World.ownsRow_made (base := w1.heap.size) (e := 78) (size := 3) (w1.setCell ⟨w.heap.size, 1, none⟩ (.slice (some ⟨w.heap.size + 1 + 1, 0, none⟩) 0 0)) #[] 0 (by simp) (by decide) (by simp)
      unfold Hid
      simpa using h
    have k3 := (MB.out.alloc (.cells #[] 78)).g3.1
    go_wp2_with (at_builtin; go_loud (refine wpList_append_own _ rfl _ _ 27 rfl w1.heap.size 78 j0 (.agg #[.int .i64 0, .int .i64 0, .int .i64 0]) 3 24 Try.underlying27 hj hy0 hy1 hy2 rfl (by decide) _ _ _ rfl HO2.out ⟨gc, 0, none⟩ cd.length y2 (flat cd) rfl (flat_len cd) (HR.out.on (HBX.out.alloc HBX.out.size _)).flat (flat_one _) (by unfold maxLen; omega) (by omega) (by simp) ?_))
    intro v5 w5 hown5 hgrow5 hnil5
    have hb5 : Below (w1.setCell ⟨w.heap.size, 1, none⟩ (.slice (some ⟨w.heap.size + 1 + 1, 0, none⟩) 0 0)).heap.size (w1.setCell ⟨w.heap.size, 1, none⟩ (.slice (some ⟨w.heap.size + 1 + 1, 0, none⟩) 0 0)) w5 := ((Below.refl _ _).alloc (Nat.le_refl _) _).grown hgrow5 (by simp) (fun g hg => by simp [Value.ownBlock] at hg ⊢; omega)
    have hcs := cs_of hown5 (fun h => by first | exact hnil5 h | exact absurd (hnil5.1 h).1 (by simp))
    obtain ⟨a5, c5, rfl⟩ := front.form hcs
    have HC5 : Hid (CS w1.heap.size w5 (.slice a5 cd.length c5) cd) := hcs
    have HV5 : Hid (GZ (w.heap.size + 1 + 1) w1.heap.size w5 (.slice (some ⟨w.heap.size + 1 + 1, 0, none⟩) 0 0) []) := HV1.out.on hb5
    have HZ5 : Hid (w1.heap.size ≤ w5.heap.size) := by show _ ≤ _; have := hb5.size; simpa using this
    have HW5 : Hid (Below w.heap.size w w5) := below_over HBX.out hb5
    have O3 := MB.out.on hb5
    have R3 := RB.out.on hb5
    clear hown5 hgrow5 hnil5 hcs k3 HV1 HBX MB RB hb5
    have N10 : (⟨w.heap.size, 3, none⟩ : Addr).block ≠ w.heap.size + 1 := by show w.heap.size ≠ w.heap.size + 1; omega
    have O4 := O3.s3 (.slice a5 cd.length c5)
    have R4 := R3.far ⟨w.heap.size, 3, none⟩ (.slice a5 cd.length c5) N10
    have R5 := (((R4.s0 (.int .i64 nm)).s1 (.slice (some ⟨w.heap.size + 1 + 1, 0, none⟩) 0 0)).s2 (.int .i64 gv)).s3 (.slice a5 cd.length c5)
    obtain ⟨o3, p3⟩ := O3.g3
    obtain ⟨i0, _⟩ := O4.g0
    obtain ⟨i1, _⟩ := O4.g1
    obtain ⟨i2, _⟩ := O4.g2
    obtain ⟨i3, _⟩ := O4.g3
    obtain ⟨r0, q0⟩ := R4.g0
    obtain ⟨r1, q1⟩ := R4.g1
    obtain ⟨r2, q2⟩ := R4.g2
    obtain ⟨r3, q3⟩ := R4.g3
    obtain ⟨e0, _⟩ := R5.g0
    obtain ⟨e1, _⟩ := R5.g1
    obtain ⟨e2, _⟩ := R5.g2
    obtain ⟨e3, _⟩ := R5.g3
    clear O4 R4 R5 R3 O3 N10
    go_wp2
    refine bodyPost_ret (v := .agg #[.int .i64 nm, .slice (some ⟨w.heap.size + 1 + 1, 0, none⟩) 0 0, .int .i64 gv, .slice a5 cd.length c5]) (by simp [results, Try.results29, go_sem, e0, e1, e2, e3]) rfl ?_
    have hk : ∀ (x : World) (j i : Nat) (v : Value), j < w.heap.size + 1 + 1 → Keep (w.heap.size + 1 + 1) x (x.setCell ⟨j, i, none⟩ v) := fun x j i v hj => Keep.set x (p := ⟨j, i, none⟩) hj v
    have hkk := ((((hk w5 w.heap.size 3 (.slice a5 cd.length c5) (by omega)).trans (hk _ (w.heap.size + 1) 0 (.int .i64 nm) (by omega))).trans (hk _ (w.heap.size + 1) 1 (.slice (some ⟨w.heap.size + 1 + 1, 0, none⟩) 0 0) (by omega))).trans (hk _ (w.heap.size + 1) 2 (.int .i64 gv) (by omega))).trans (hk _ (w.heap.size + 1) 3 (.slice a5 cd.length c5) (by omega))
    have hbb := ((((HW5.out.setCell (p := ⟨w.heap.size, 3, none⟩) (by simp) (.slice a5 cd.length c5)).setCell (p := ⟨w.heap.size + 1, 0, none⟩) (by simp) (.int .i64 nm)).setCell (p := ⟨w.heap.size + 1, 1, none⟩) (by simp) (.slice (some ⟨w.heap.size + 1 + 1, 0, none⟩) 0 0)).setCell (p := ⟨w.heap.size + 1, 2, none⟩) (by simp) (.int .i64 gv)).setCell (p := ⟨w.heap.size + 1, 3, none⟩) (by simp) (.slice a5 cd.length c5)
    exact ⟨some ⟨w.heap.size + 1 + 1, 0, none⟩, 0, a5, c5, rfl, ⟨w1.heap.size, by omega, by have := hkk.size; have := HZ5.out; omega, (HV5.out.keep hkk (Nat.le_refl _)).weak (by omega) (Nat.le_refl _), ((CZ.of HC5.out).keep hkk hz1').weak (Nat.le_refl _) hkk.size⟩, hbb, front.weak (HC5.out.on (hkk.mono hz1')) (by omega)⟩
  | some ad =>
    have HN : Hid (∀ x, Below ((w.alloc (.cells #[.int .i64 m.name, .slice (some ad) m.args.length y1, .int .i64 m.gives, .slice (some ⟨gc, 0, none⟩) m.code.length y2] 29)).alloc (.cells #[.int .i64 0, .slice none 0 0, .int .i64 0, .slice none 0 0] 29)).heap.size ((w.alloc (.cells #[.int .i64 m.name, .slice (some ad) m.args.length y1, .int .i64 m.gives, .slice (some ⟨gc, 0, none⟩) m.code.length y2] 29)).alloc (.cells #[.int .i64 0, .slice none 0 0, .int .i64 0, .slice none 0 0] 29)) x → ∀ j u, (nums m.args)[j]? = some u → x.cell? (ad.add j) = some u) := fun x hx => SI.nums (SI.on HI.out (Keep.of (below_over hwW hx)))
    go_enter Try.func29, Try.ntmps29
    go_wp2_with (at_builtin; refine wpList_append_own _ rfl _ _ 26 rfl (w.heap.size + 1 + 1) 2 k0 (.int .i64 0) 1 8 Try.underlying26 hif hz0 hz1 hz2 rfl (by decide) _ _ _ rfl HOW.out ad m.args.length y1 (nums m.args) rfl (by simp [nums]) (HN.out _ ((Below.refl _ _).alloc (Nat.le_refl _) _)) (nums_one _) (by unfold maxLen; omega) (by omega) (by simp) ?_)
    intro v1 w1 hown1 hgrow1 hnil1
    have hb1 : Below ((w.alloc (.cells #[.int .i64 m.name, .slice (some ad) m.args.length y1, .int .i64 m.gives, .slice (some ⟨gc, 0, none⟩) m.code.length y2] 29)).alloc (.cells #[.int .i64 0, .slice none 0 0, .int .i64 0, .slice none 0 0] 29)).heap.size ((w.alloc (.cells #[.int .i64 m.name, .slice (some ad) m.args.length y1, .int .i64 m.gives, .slice (some ⟨gc, 0, none⟩) m.code.length y2] 29)).alloc (.cells #[.int .i64 0, .slice none 0 0, .int .i64 0, .slice none 0 0] 29)) w1 := ((Below.refl _ _).alloc (Nat.le_refl _) _).grown hgrow1 (by simp) (fun g hg => by simp [Value.ownBlock] at hg ⊢; omega)
    have hsi := GZ.of (grow_of hown1 (fun h => by first | exact hnil1 h | exact absurd (hnil1.1 h).1 (by simp))).gint
    obtain ⟨a1, c1, rfl⟩ := hsi.form
    have HS1 : Hid (GZ (w.heap.size + 1 + 1) w1.heap.size w1 (.slice a1 m.args.length c1) m.args) := hsi
    have M1 := M0.out.on hb1
    have R1 := R0.out.on hb1
    have HB1 : Hid (Below w.heap.size w w1) := below_over hwW hb1
    have hz1' : w.heap.size + 1 + 1 ≤ w1.heap.size := by
      have h1 := hb1.size
      have h2 := HZW.out
      omega
    obtain ⟨m1, f1⟩ := M1.g1
    have MX1 := M1.s1 (.slice a1 m.args.length c1)
    have RX1 := R1.far ⟨w.heap.size, 1, none⟩ (.slice a1 m.args.length c1) HNN.out
    have SX1 := HS1.out.keep (Keep.set (B := w.heap.size + 1 + 1) w1 (p := ⟨w.heap.size, 1, none⟩) (by show w.heap.size < w.heap.size + 1 + 1; omega) (.slice a1 m.args.length c1)) (Nat.le_refl _)
    have hwX := HB1.out.setCell (p := ⟨w.heap.size, 1, none⟩) (by simp) (.slice a1 m.args.length c1)
    have hzX1 : w.heap.size + 1 + 1 ≤ (w1.setCell ⟨w.heap.size, 1, none⟩ (.slice a1 m.args.length c1)).heap.size := by
      simp
      omega
    clear hown1 hgrow1 hnil1 hsi hb1 b1 HS1 M1 R1 HB1 HOW M0 R0 hwW HZW
    have MB : Hid (Cells (w1.setCell ⟨w.heap.size, 1, none⟩ (.slice a1 m.args.length c1)) w.heap.size [.int .i64 m.name, .slice a1 m.args.length c1, .int .i64 m.gives, .slice (some ⟨gc, 0, none⟩) m.code.length y2]) := MX1
    have RB : Hid (Cells (w1.setCell ⟨w.heap.size, 1, none⟩ (.slice a1 m.args.length c1)) (w.heap.size + 1) [.int .i64 0, .slice none 0 0, .int .i64 0, .slice none 0 0]) := RX1
    have HV1 : Hid (GZ (w.heap.size + 1 + 1) w1.heap.size (w1.setCell ⟨w.heap.size, 1, none⟩ (.slice a1 m.args.length c1)) (.slice a1 m.args.length c1) m.args) := SX1
    have HBX : Hid (Below w.heap.size w (w1.setCell ⟨w.heap.size, 1, none⟩ (.slice a1 m.args.length c1))) := hwX
    have hzX : w.heap.size + 1 + 1 ≤ (w1.setCell ⟨w.heap.size, 1, none⟩ (.slice a1 m.args.length c1)).heap.size := hzX1
    clear MX1 RX1 SX1 hwX hzX1
    have HO2 : Hid (((w1.setCell ⟨w.heap.size, 1, none⟩ (.slice a1 m.args.length c1)).alloc (.cells #[] 78)).ownsRow w1.heap.size 78 3 (.slice (some ⟨w1.heap.size, 0, none⟩) 0 0) 0 []) := by
      have h := World.ownsRow_made (base := w1.heap.size) (e := 78) (size := 3) (w1.setCell ⟨w.heap.size, 1, none⟩ (.slice a1 m.args.length c1)) #[] 0 (by simp) (by decide) (by simp)
      unfold Hid
      simpa using h
    have k3 := (MB.out.alloc (.cells #[] 78)).g3.1
    go_wp2_with (at_builtin; go_loud (refine wpList_append_own _ rfl _ _ 27 rfl w1.heap.size 78 j0 (.agg #[.int .i64 0, .int .i64 0, .int .i64 0]) 3 24 Try.underlying27 hj hy0 hy1 hy2 rfl (by decide) _ _ _ rfl HO2.out ⟨gc, 0, none⟩ m.code.length y2 (flat m.code) rfl (flat_len m.code) (HR.out.on (HBX.out.alloc HBX.out.size _)).flat (flat_one _) (by unfold maxLen; omega) (by omega) (by simp) ?_))
    intro v5 w5 hown5 hgrow5 hnil5
    have hb5 : Below (w1.setCell ⟨w.heap.size, 1, none⟩ (.slice a1 m.args.length c1)).heap.size (w1.setCell ⟨w.heap.size, 1, none⟩ (.slice a1 m.args.length c1)) w5 := ((Below.refl _ _).alloc (Nat.le_refl _) _).grown hgrow5 (by simp) (fun g hg => by simp [Value.ownBlock] at hg ⊢; omega)
    have hcs := cs_of hown5 (fun h => by first | exact hnil5 h | exact absurd (hnil5.1 h).1 (by simp))
    obtain ⟨a5, c5, rfl⟩ := front.form hcs
    have HC5 : Hid (CS w1.heap.size w5 (.slice a5 m.code.length c5) m.code) := hcs
    have HV5 : Hid (GZ (w.heap.size + 1 + 1) w1.heap.size w5 (.slice a1 m.args.length c1) m.args) := HV1.out.on hb5
    have HZ5 : Hid (w1.heap.size ≤ w5.heap.size) := by show _ ≤ _; have := hb5.size; simpa using this
    have HW5 : Hid (Below w.heap.size w w5) := below_over HBX.out hb5
    have O3 := MB.out.on hb5
    have R3 := RB.out.on hb5
    clear hown5 hgrow5 hnil5 hcs k3 HV1 HBX MB RB hb5
    have N10 : (⟨w.heap.size, 3, none⟩ : Addr).block ≠ w.heap.size + 1 := by show w.heap.size ≠ w.heap.size + 1; omega
    have O4 := O3.s3 (.slice a5 m.code.length c5)
    have R4 := R3.far ⟨w.heap.size, 3, none⟩ (.slice a5 m.code.length c5) N10
    have R5 := (((R4.s0 (.int .i64 m.name)).s1 (.slice a1 m.args.length c1)).s2 (.int .i64 m.gives)).s3 (.slice a5 m.code.length c5)
    obtain ⟨o3, p3⟩ := O3.g3
    obtain ⟨i0, _⟩ := O4.g0
    obtain ⟨i1, _⟩ := O4.g1
    obtain ⟨i2, _⟩ := O4.g2
    obtain ⟨i3, _⟩ := O4.g3
    obtain ⟨r0, q0⟩ := R4.g0
    obtain ⟨r1, q1⟩ := R4.g1
    obtain ⟨r2, q2⟩ := R4.g2
    obtain ⟨r3, q3⟩ := R4.g3
    obtain ⟨e0, _⟩ := R5.g0
    obtain ⟨e1, _⟩ := R5.g1
    obtain ⟨e2, _⟩ := R5.g2
    obtain ⟨e3, _⟩ := R5.g3
    clear O4 R4 R5 R3 O3 N10
    go_wp2
    refine bodyPost_ret (v := .agg #[.int .i64 m.name, .slice a1 m.args.length c1, .int .i64 m.gives, .slice a5 m.code.length c5]) (by simp [results, Try.results29, go_sem, e0, e1, e2, e3]) rfl ?_
    have hk : ∀ (x : World) (j i : Nat) (v : Value), j < w.heap.size + 1 + 1 → Keep (w.heap.size + 1 + 1) x (x.setCell ⟨j, i, none⟩ v) := fun x j i v hj => Keep.set x (p := ⟨j, i, none⟩) hj v
    have hkk := ((((hk w5 w.heap.size 3 (.slice a5 m.code.length c5) (by omega)).trans (hk _ (w.heap.size + 1) 0 (.int .i64 m.name) (by omega))).trans (hk _ (w.heap.size + 1) 1 (.slice a1 m.args.length c1) (by omega))).trans (hk _ (w.heap.size + 1) 2 (.int .i64 m.gives) (by omega))).trans (hk _ (w.heap.size + 1) 3 (.slice a5 m.code.length c5) (by omega))
    have hbb := ((((HW5.out.setCell (p := ⟨w.heap.size, 3, none⟩) (by simp) (.slice a5 m.code.length c5)).setCell (p := ⟨w.heap.size + 1, 0, none⟩) (by simp) (.int .i64 m.name)).setCell (p := ⟨w.heap.size + 1, 1, none⟩) (by simp) (.slice a1 m.args.length c1)).setCell (p := ⟨w.heap.size + 1, 2, none⟩) (by simp) (.int .i64 m.gives)).setCell (p := ⟨w.heap.size + 1, 3, none⟩) (by simp) (.slice a5 m.code.length c5)
    exact ⟨a1, c1, a5, c5, rfl, ⟨w1.heap.size, by omega, by have := hkk.size; have := HZ5.out; omega, (HV5.out.keep hkk (Nat.le_refl _)).weak (by omega) (Nat.le_refl _), ((CZ.of HC5.out).keep hkk hz1').weak (Nat.le_refl _) hkk.size⟩, hbb, front.weak (HC5.out.on (hkk.mono hz1')) (by omega)⟩
end Pg
end Go.Proofs.Ytbfiijfaaknhaaa
