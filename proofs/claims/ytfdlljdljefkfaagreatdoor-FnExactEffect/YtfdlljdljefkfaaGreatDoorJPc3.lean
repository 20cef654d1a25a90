/- An append onto a list of one's own, as one step of a statement that draws its order. -/
import Derived.Test.YtfdlljdljefkfaaGreatDoorJDk6
import Derived.Maps.AppendAt
import Derived.Test.YtfdlljdljefkfaaGreatDoorJLo0
import Derived.Test.YtfdlljdljefkfaaGreatDoorJEn0
namespace Go.Proofs.YtfdlljdljefkfaaGreatDoor
namespace Pg
open Go.ChangeShapes Go.WideShapes Go.ChangeAt Go.RowKit St

theorem stepGrowAt (w : World) {ops : Array Oper} {o : Oper} {a : Act} {K : Act → World → Prop} {Q : Exit → Act → World → Prop} {E : Prop} (hgd : o.guard = none) (s x : Operand)
    (ho : o.op = .call { callee := .builtin .append, args := #[s, x], argTypes := #[27, 27] })
    (B g cv : Nat) (l : List Int) (hs : a.eval s = .slice (some ⟨g, 0, none⟩) l.length cv) (hg : Grow B w (.slice (some ⟨g, 0, none⟩) l.length cv) l) (hB : B ≤ w.heap.size)
    (z : Option Addr) (c B' : Nat) (r : List Int) (hx : a.eval x = .slice z r.length c) (hr : SI true B' w (.slice z r.length c) r) (hlen : l.length + r.length ≤ 1000)
    (h : ∀ g' cv' w', Grow B w' (.slice (some ⟨g', 0, none⟩) (l ++ r).length cv') (l ++ r) → Kept B w w' → (∀ b, b ≠ g → b < w.heap.size → w'.heap[b]? = w.heap[b]?) → (g' = g ∨ g' = w.heap.size) → K (a.put o.dst (.slice (some ⟨g', 0, none⟩) (l ++ r).length cv')) w') : if Region.wanted o (yielded ops a.tmps) = true then Oper.wp Tryz.prog o a w K Q else E := by
  obtain ⟨i0, hif, hz0, hz1, hz2⟩ := info_parts infoN
  cases z with
  | none =>
    obtain ⟨rfl, hn, rfl⟩ := SI.none_nil hr rfl
    refine stepAppNone w hgd s x 27 ho B 2 i0 1 Tryz.underlying27 hif _ l.length (nums l) hs hg.1 hx ?_
    have := h g cv w (by rw [List.append_nil]; exact hg) (Kept.refl _ _) (fun _ _ _ => rfl) (.inl rfl)
    rw [List.append_nil] at this
    exact this
  | some ad =>
    have hw : Region.wanted o (yielded ops a.tmps) = true := by simp [Region.wanted, hgd]
    rw [if_pos hw]
    obtain ⟨v', w', hr', h2, h3, h4, h5⟩ := run_append_own_at (P := Tryz.prog) w B 27 o.type 2 i0 (.int .i64 0) 1 8 Tryz.underlying27 hif hz0 hz1 hz2 rfl (by decide) (.slice (some ⟨g, 0, none⟩) l.length cv) l.length (nums l) hg.1 ad r.length c (nums r) (by rw [nums_length, Nat.mul_one]) (SI.nums hr) (nums_one r) (by unfold maxLen; omega) (by omega) hB
    have hG : Grow B w' v' (l ++ r) := ⟨by rw [List.length_append, nums_app]; exact h2, fun e => hg.2 (h4.1 e).1⟩
    obtain ⟨g', cv', hv⟩ := growForm hG
    unfold Oper.wp
    simp [execOp, ho, resolve, invoke, builtin, hs, hx, hr', Result.andThen]
    have := h g' cv' w' (by rw [← hv]; exact hG) (kept_grown hB hg.1 h3) (fun b hb hl => h3.block b hl (by simpa [Value.ownBlock] using hb)) (by rw [hv] at h5; simpa [Value.ownBlock] using h5)
    rw [← hv] at this
    exact this

theorem wpList_growAt (w : World) {ops : Array Oper} {rest : List Oper} {o : Oper} {a : Act} {Q : Exit → Act → World → Prop} (hgd : o.guard = none) (s x : Operand)
    (ho : o.op = .call { callee := .builtin .append, args := #[s, x], argTypes := #[27, 27] })
    (B g cv : Nat) (l : List Int) (hs : a.eval s = .slice (some ⟨g, 0, none⟩) l.length cv) (hg : Grow B w (.slice (some ⟨g, 0, none⟩) l.length cv) l) (hB : B ≤ w.heap.size)
    (z : Option Addr) (c B' : Nat) (r : List Int) (hx : a.eval x = .slice z r.length c) (hr : SI true B' w (.slice z r.length c) r) (hlen : l.length + r.length ≤ 1000)
    (h : ∀ g' cv' w', Grow B w' (.slice (some ⟨g', 0, none⟩) (l ++ r).length cv') (l ++ r) → Kept B w w' → (∀ b, b ≠ g → b < w.heap.size → w'.heap[b]? = w.heap[b]?) → (g' = g ∨ g' = w.heap.size) → wpList Tryz.prog ops Q rest (a.put o.dst (.slice (some ⟨g', 0, none⟩) (l ++ r).length cv')) w') : wpList Tryz.prog ops Q (o :: rest) a w := by
  obtain ⟨i0, hif, hz0, hz1, hz2⟩ := info_parts infoN
  cases z with
  | none =>
    obtain ⟨rfl, hn, rfl⟩ := SI.none_nil hr rfl
    refine wpList_append_own_none hgd s x 27 ho B 2 i0 1 Tryz.underlying27 hif _ l.length (nums l) hs hg.1 hx ?_
    have := h g cv w (by rw [List.append_nil]; exact hg) (Kept.refl _ _) (fun _ _ _ => rfl) (.inl rfl)
    rw [List.append_nil] at this
    exact this
  | some ad =>
    refine wpList_append_own_at w hgd s x 27 ho B 2 i0 (.int .i64 0) 1 8 Tryz.underlying27 hif hz0 hz1 hz2 rfl (by decide) _ l.length (nums l) hs hg.1 ad r.length c (nums r) hx (by rw [nums_length, Nat.mul_one]) (SI.nums hr) (nums_one r) (by unfold maxLen; omega) (by omega) hB ?_
    intro v' w' h2 h3 h4 h5
    have hG : Grow B w' v' (l ++ r) := ⟨by rw [List.length_append, nums_app]; exact h2, fun e => hg.2 (h4.1 e).1⟩
    obtain ⟨g', cv', hv⟩ := growForm hG
    have := h g' cv' w' (by rw [← hv]; exact hG) (kept_grown hB hg.1 h3) (fun b hb hl => h3.block b hl (by simpa [Value.ownBlock] using hb)) (by rw [hv] at h5; simpa [Value.ownBlock] using h5)
    rw [← hv] at this
    exact this
theorem grow_lt {B : Nat} {w : World} {g n cv : Nat} {l : List Int} (h : Grow B w (.slice (some ⟨g, 0, none⟩) n cv) l) : g < w.heap.size := by
  obtain ⟨g', c', he, _, hl, _⟩ := h.gint
  injection he with he _ _
  injection he with he
  injection he with he
  omega
end Pg
end Go.Proofs.YtfdlljdljefkfaaGreatDoor

/- The contract of the other side's copying of a method. -/
namespace Go.Proofs.YtfdlljdljefkfaaGreatDoor
namespace Pg
open Go.ChangeShapes Go.WideShapes Go.ChangeAt Go.RowKit St

theorem forget {P : Program} {ops : Array Oper} {Q : Exit → Act → World → Prop} {rest : List Oper} {a : Act} {w : World} (h : ∀ u, Hid (u = w) → wpList P ops Q rest a u) : wpList P ops Q rest a w := h w rfl

set_option maxRecDepth 100000 in
set_option maxHeartbeats 4000000 in
theorem l4Copy (B : Nat) (m : Meth) (va vc : Value) (hs : SmallM m) (w : World) (hv : MV front B w va vc m) :
    Calls Tryz.prog 34 #[.agg #[.int .i64 m.name, va, .int .i64 m.gives, vc]] w fun e w' => ∃ x1 y1 x2 y2, e = .returned (.agg #[.int .i64 m.name, .slice x1 m.args.length y1, .int .i64 m.gives, .slice x2 m.code.length y2]) ∧ AnsM w.heap.size w' (.slice x1 m.args.length y1) (.slice x2 m.code.length y2) m ∧ Below w.heap.size w w' ∧ CS w.heap.size w' (.slice x2 m.code.length y2) m.code := by
  obtain ⟨k0, hif, hz0, hz1, hz2⟩ := info_parts infoN
  obtain ⟨j0, hj, hy0, hy1, hy2⟩ := info_parts infoI
  obtain ⟨x1, y1, rfl⟩ := hv.1.form
  obtain ⟨gc, y2, rfl, _, _, hrow, _⟩ := hv.2
  have HI : Hid (SI true B w (.slice x1 m.args.length y1) m.args) := hv.1
  have HR : Hid (Row w gc 0 m.code) := hrow
  have hs1 := hs.1
  have hs2 := hs.2
  clear hv hrow hs
  have hwW : Below w.heap.size w ((w.alloc (.cells #[.int .i64 m.name, .slice x1 m.args.length y1, .int .i64 m.gives, .slice (some ⟨gc, 0, none⟩) m.code.length y2] 51)).alloc (.cells #[.int .i64 0, .slice none 0 0, .int .i64 0, .slice none 0 0] 51)) := ((Below.refl _ _).alloc (Nat.le_refl _) _).alloc (by simp) _
  have HZW : Hid (((w.alloc (.cells #[.int .i64 m.name, .slice x1 m.args.length y1, .int .i64 m.gives, .slice (some ⟨gc, 0, none⟩) m.code.length y2] 51)).alloc (.cells #[.int .i64 0, .slice none 0 0, .int .i64 0, .slice none 0 0] 51)).heap.size = w.heap.size + 1 + 1) := by show _ = _; simp
  have M0 : Hid (Cells ((w.alloc (.cells #[.int .i64 m.name, .slice x1 m.args.length y1, .int .i64 m.gives, .slice (some ⟨gc, 0, none⟩) m.code.length y2] 51)).alloc (.cells #[.int .i64 0, .slice none 0 0, .int .i64 0, .slice none 0 0] 51)) w.heap.size [.int .i64 m.name, .slice x1 m.args.length y1, .int .i64 m.gives, .slice (some ⟨gc, 0, none⟩) m.code.length y2]) := (Cells.new w _ rfl _ _).alloc _
  have R0 : Hid (Cells ((w.alloc (.cells #[.int .i64 m.name, .slice x1 m.args.length y1, .int .i64 m.gives, .slice (some ⟨gc, 0, none⟩) m.code.length y2] 51)).alloc (.cells #[.int .i64 0, .slice none 0 0, .int .i64 0, .slice none 0 0] 51)) (w.heap.size + 1) [.int .i64 0, .slice none 0 0, .int .i64 0, .slice none 0 0]) := Cells.new (w.alloc _) _ (by simp) _ _
  have HOW : Hid ((((w.alloc (.cells #[.int .i64 m.name, .slice x1 m.args.length y1, .int .i64 m.gives, .slice (some ⟨gc, 0, none⟩) m.code.length y2] 51)).alloc (.cells #[.int .i64 0, .slice none 0 0, .int .i64 0, .slice none 0 0] 51)).alloc (.cells #[] 2)).ownsRow (w.heap.size + 1 + 1) 2 1 (.slice (some ⟨w.heap.size + 1 + 1, 0, none⟩) 0 0) 0 []) := by
    have h := World.ownsRow_made (base := w.heap.size + 1 + 1) (e := 2) (size := 1) ((w.alloc (.cells #[.int .i64 m.name, .slice x1 m.args.length y1, .int .i64 m.gives, .slice (some ⟨gc, 0, none⟩) m.code.length y2] 51)).alloc (.cells #[.int .i64 0, .slice none 0 0, .int .i64 0, .slice none 0 0] 51)) #[] 0 (by simp) (by decide) (by simp)
    unfold Hid
    simpa using h
  have HNN : Hid ((⟨w.heap.size, 1, none⟩ : Addr).block ≠ w.heap.size + 1) := by show w.heap.size ≠ w.heap.size + 1; omega
  have b1 := (M0.out.alloc (.cells #[] 2)).g1.1
  cases x1 with
  | none =>
    obtain ⟨hfe, _, ht1⟩ := Arr.nil HI.out
    obtain ⟨nm, ags, gv, cd⟩ := m
    dsimp only at hfe
    subst hfe
    subst ht1
    dsimp only [List.length_nil] at *
    clear HI
    go_enter Tryz.func34, Tryz.ntmps34
    go_wp2_with (at_builtin; refine wpList_append_own_none rfl _ _ 27 rfl (w.heap.size + 1 + 1) 2 k0 1 Tryz.underlying27 hif _ _ _ rfl HOW.out rfl ?_; refine forget ?_)
    intro w1 hu
    have hb1 : Below ((w.alloc (.cells #[.int .i64 nm, .slice none 0 0, .int .i64 gv, .slice (some ⟨gc, 0, none⟩) cd.length y2] 51)).alloc (.cells #[.int .i64 0, .slice none 0 0, .int .i64 0, .slice none 0 0] 51)).heap.size ((w.alloc (.cells #[.int .i64 nm, .slice none 0 0, .int .i64 gv, .slice (some ⟨gc, 0, none⟩) cd.length y2] 51)).alloc (.cells #[.int .i64 0, .slice none 0 0, .int .i64 0, .slice none 0 0] 51)) w1 := by rw [hu.out]; exact (Below.refl _ _).alloc (Nat.le_refl _) _
    have HS1 : Hid (GZ (w.heap.size + 1 + 1) w1.heap.size w1 (.slice (some ⟨w.heap.size + 1 + 1, 0, none⟩) 0 0) []) := by
      rw [hu.out]
      exact GZ.of (grow_of (l := []) HOW.out (by simp)).gint
    have M1 := M0.out.on hb1
    have R1 := R0.out.on hb1
    have HB1 : Hid (Below w.heap.size w w1) := below_over hwW hb1
    have hz1' : w.heap.size + 1 + 1 ≤ w1.heap.size := by
      have h1 := hb1.size
      have h2 := HZW.out
      omega
    clear hu
    obtain ⟨m1, f1⟩ := M1.g1
    have MX1 := M1.s1 (.slice (some ⟨w.heap.size + 1 + 1, 0, none⟩) 0 0)
    have RX1 := R1.far ⟨w.heap.size, 1, none⟩ (.slice (some ⟨w.heap.size + 1 + 1, 0, none⟩) 0 0) HNN.out
    have SX1 := HS1.out.keep (Keep.set (B := w.heap.size + 1 + 1) w1 (p := ⟨w.heap.size, 1, none⟩) (by show w.heap.size < w.heap.size + 1 + 1; omega) (.slice (some ⟨w.heap.size + 1 + 1, 0, none⟩) 0 0)) (Nat.le_refl _)
    have hwX := HB1.out.setCell (p := ⟨w.heap.size, 1, none⟩) (by simp) (.slice (some ⟨w.heap.size + 1 + 1, 0, none⟩) 0 0)
    have hzX1 : w.heap.size + 1 + 1 ≤ (w1.setCell ⟨w.heap.size, 1, none⟩ (.slice (some ⟨w.heap.size + 1 + 1, 0, none⟩) 0 0)).heap.size := by
      simp
      omega
    clear hb1 b1 HS1 M1 R1 HB1 HOW M0 R0 hwW HZW
    have MB : Hid (Cells (w1.setCell ⟨w.heap.size, 1, none⟩ (.slice (some ⟨w.heap.size + 1 + 1, 0, none⟩) 0 0)) w.heap.size [.int .i64 nm, .slice (some ⟨w.heap.size + 1 + 1, 0, none⟩) 0 0, .int .i64 gv, .slice (some ⟨gc, 0, none⟩) cd.length y2]) := MX1
    have RB : Hid (Cells (w1.setCell ⟨w.heap.size, 1, none⟩ (.slice (some ⟨w.heap.size + 1 + 1, 0, none⟩) 0 0)) (w.heap.size + 1) [.int .i64 0, .slice none 0 0, .int .i64 0, .slice none 0 0]) := RX1
    have HV1 : Hid (GZ (w.heap.size + 1 + 1) w1.heap.size (w1.setCell ⟨w.heap.size, 1, none⟩ (.slice (some ⟨w.heap.size + 1 + 1, 0, none⟩) 0 0)) (.slice (some ⟨w.heap.size + 1 + 1, 0, none⟩) 0 0) []) := SX1
    have HBX : Hid (Below w.heap.size w (w1.setCell ⟨w.heap.size, 1, none⟩ (.slice (some ⟨w.heap.size + 1 + 1, 0, none⟩) 0 0))) := hwX
    have hzX : w.heap.size + 1 + 1 ≤ (w1.setCell ⟨w.heap.size, 1, none⟩ (.slice (some ⟨w.heap.size + 1 + 1, 0, none⟩) 0 0)).heap.size := hzX1
    clear MX1 RX1 SX1 hwX hzX1
    have HO2 : Hid (((w1.setCell ⟨w.heap.size, 1, none⟩ (.slice (some ⟨w.heap.size + 1 + 1, 0, none⟩) 0 0)).alloc (.cells #[] 39)).ownsRow w1.heap.size 39 3 (.slice (some ⟨w1.heap.size, 0, none⟩) 0 0) 0 []) := by
      have h := World.ownsRow_made (base := w1.heap.size) (e := 39) (size := 3) (w1.setCell ⟨w.heap.size, 1, none⟩ (.slice (some ⟨w.heap.size + 1 + 1, 0, none⟩) 0 0)) #[] 0 (by simp) (by decide) (by simp)
      unfold Hid
      simpa using h
    have k3 := (MB.out.alloc (.cells #[] 39)).g3.1
    go_wp2_with (at_builtin; go_loud (refine wpList_append_own _ rfl _ _ 49 rfl w1.heap.size 39 j0 (.agg #[.int .i64 0, .int .i64 0, .int .i64 0]) 3 24 Tryz.underlying49 hj hy0 hy1 hy2 rfl (by decide) _ _ _ rfl HO2.out ⟨gc, 0, none⟩ cd.length y2 (flat cd) rfl (flat_len cd) (HR.out.on (HBX.out.alloc HBX.out.size _)).flat (flat_one _) (by unfold maxLen; omega) (by omega) (by simp) ?_))
    intro v5 w5 hown5 hgrow5 hnil5
    have hb5 : Below (w1.setCell ⟨w.heap.size, 1, none⟩ (.slice (some ⟨w.heap.size + 1 + 1, 0, none⟩) 0 0)).heap.size (w1.setCell ⟨w.heap.size, 1, none⟩ (.slice (some ⟨w.heap.size + 1 + 1, 0, none⟩) 0 0)) w5 := ((Below.refl _ _).alloc (Nat.le_refl _) _).grown hgrow5 (by simp) (fun g hg => by simp [Value.ownBlock] at hg ⊢; omega)
    have hcs := cs_of hown5 (fun h => by first | exact hnil5 h | exact absurd (hnil5.1 h).1 (by simp))
    obtain ⟨a5, c5, rfl⟩ := front.form hcs
    have HC5 : Hid (CS w1.heap.size w5 (.slice a5 cd.length c5) cd) := hcs
    have HV5 : Hid (GZ (w.heap.size + 1 + 1) w1.heap.size w5 (.slice (some ⟨w.heap.size + 1 + 1, 0, none⟩) 0 0) []) := HV1.out.on hb5
    have HZ5 : Hid (w1.heap.size ≤ w5.heap.size) := by show _ ≤ _; have := hb5.size; simpa using this
    have HW5 : Hid (Below w.heap.size w w5) := below_over HBX.out hb5
    have O3 := MB.out.on hb5
    have R3 := RB.out.on hb5
    clear hown5 hgrow5 hnil5 hcs k3 HV1 HBX MB RB hb5
    have N10 : (⟨w.heap.size, 3, none⟩ : Addr).block ≠ w.heap.size + 1 := by show w.heap.size ≠ w.heap.size + 1; omega
    have O4 := O3.s3 (.slice a5 cd.length c5)
    have R4 := R3.far ⟨w.heap.size, 3, none⟩ (.slice a5 cd.length c5) N10
    have R5 := (((R4.s0 (.int .i64 nm)).s1 (.slice (some ⟨w.heap.size + 1 + 1, 0, none⟩) 0 0)).s2 (.int .i64 gv)).s3 (.slice a5 cd.length c5)
    obtain ⟨o3, p3⟩ := O3.g3
    obtain ⟨i0, _⟩ := O4.g0
    obtain ⟨i1, _⟩ := O4.g1
    obtain ⟨i2, _⟩ := O4.g2
    obtain ⟨i3, _⟩ := O4.g3
    obtain ⟨r0, q0⟩ := R4.g0
    obtain ⟨r1, q1⟩ := R4.g1
    obtain ⟨r2, q2⟩ := R4.g2
    obtain ⟨r3, q3⟩ := R4.g3
    obtain ⟨e0, _⟩ := R5.g0
    obtain ⟨e1, _⟩ := R5.g1
    obtain ⟨e2, _⟩ := R5.g2
    obtain ⟨e3, _⟩ := R5.g3
    clear O4 R4 R5 R3 O3 N10
    go_wp2
    refine bodyPost_ret (v := .agg #[.int .i64 nm, .slice (some ⟨w.heap.size + 1 + 1, 0, none⟩) 0 0, .int .i64 gv, .slice a5 cd.length c5]) (by simp [results, Tryz.results34, go_sem, e0, e1, e2, e3]) rfl ?_
    have hk : ∀ (x : World) (j i : Nat) (v : Value), j < w.heap.size + 1 + 1 → Keep (w.heap.size + 1 + 1) x (x.setCell ⟨j, i, none⟩ v) := fun x j i v hj => Keep.set x (p := ⟨j, i, none⟩) hj v
    have hkk := ((((hk w5 w.heap.size 3 (.slice a5 cd.length c5) (by omega)).trans (hk _ (w.heap.size + 1) 0 (.int .i64 nm) (by omega))).trans (hk _ (w.heap.size + 1) 1 (.slice (some ⟨w.heap.size + 1 + 1, 0, none⟩) 0 0) (by omega))).trans (hk _ (w.heap.size + 1) 2 (.int .i64 gv) (by omega))).trans (hk _ (w.heap.size + 1) 3 (.slice a5 cd.length c5) (by omega))
    have hbb := ((((HW5.out.setCell (p := ⟨w.heap.size, 3, none⟩) (by simp) (.slice a5 cd.length c5)).setCell (p := ⟨w.heap.size + 1, 0, none⟩) (by simp) (.int .i64 nm)).setCell (p := ⟨w.heap.size + 1, 1, none⟩) (by simp) (.slice (some ⟨w.heap.size + 1 + 1, 0, none⟩) 0 0)).setCell (p := ⟨w.heap.size + 1, 2, none⟩) (by simp) (.int .i64 gv)).setCell (p := ⟨w.heap.size + 1, 3, none⟩) (by simp) (.slice a5 cd.length c5)
    exact ⟨some ⟨w.heap.size + 1 + 1, 0, none⟩, 0, a5, c5, rfl, ⟨w1.heap.size, by omega, by have := hkk.size; have := HZ5.out; omega, (HV5.out.keep hkk (Nat.le_refl _)).weak (by omega) (Nat.le_refl _), ((CZ.of HC5.out).keep hkk hz1').weak (Nat.le_refl _) hkk.size⟩, hbb, front.weak (HC5.out.on (hkk.mono hz1')) (by omega)⟩
  | some ad =>
    have HN : Hid (∀ x, Below ((w.alloc (.cells #[.int .i64 m.name, .slice (some ad) m.args.length y1, .int .i64 m.gives, .slice (some ⟨gc, 0, none⟩) m.code.length y2] 51)).alloc (.cells #[.int .i64 0, .slice none 0 0, .int .i64 0, .slice none 0 0] 51)).heap.size ((w.alloc (.cells #[.int .i64 m.name, .slice (some ad) m.args.length y1, .int .i64 m.gives, .slice (some ⟨gc, 0, none⟩) m.code.length y2] 51)).alloc (.cells #[.int .i64 0, .slice none 0 0, .int .i64 0, .slice none 0 0] 51)) x → ∀ j u, (nums m.args)[j]? = some u → x.cell? (ad.add j) = some u) := fun x hx => SI.nums (SI.on HI.out (Keep.of (below_over hwW hx)))
    go_enter Tryz.func34, Tryz.ntmps34
    go_wp2_with (at_builtin; refine wpList_append_own _ rfl _ _ 27 rfl (w.heap.size + 1 + 1) 2 k0 (.int .i64 0) 1 8 Tryz.underlying27 hif hz0 hz1 hz2 rfl (by decide) _ _ _ rfl HOW.out ad m.args.length y1 (nums m.args) rfl (by simp [nums]) (HN.out _ ((Below.refl _ _).alloc (Nat.le_refl _) _)) (nums_one _) (by unfold maxLen; omega) (by omega) (by simp) ?_)
    intro v1 w1 hown1 hgrow1 hnil1
    have hb1 : Below ((w.alloc (.cells #[.int .i64 m.name, .slice (some ad) m.args.length y1, .int .i64 m.gives, .slice (some ⟨gc, 0, none⟩) m.code.length y2] 51)).alloc (.cells #[.int .i64 0, .slice none 0 0, .int .i64 0, .slice none 0 0] 51)).heap.size ((w.alloc (.cells #[.int .i64 m.name, .slice (some ad) m.args.length y1, .int .i64 m.gives, .slice (some ⟨gc, 0, none⟩) m.code.length y2] 51)).alloc (.cells #[.int .i64 0, .slice none 0 0, .int .i64 0, .slice none 0 0] 51)) w1 := ((Below.refl _ _).alloc (Nat.le_refl _) _).grown hgrow1 (by simp) (fun g hg => by simp [Value.ownBlock] at hg ⊢; omega)
    have hsi := GZ.of (grow_of hown1 (fun h => by first | exact hnil1 h | exact absurd (hnil1.1 h).1 (by simp))).gint
    obtain ⟨a1, c1, rfl⟩ := hsi.form
    have HS1 : Hid (GZ (w.heap.size + 1 + 1) w1.heap.size w1 (.slice a1 m.args.length c1) m.args) := hsi
    have M1 := M0.out.on hb1
    have R1 := R0.out.on hb1
    have HB1 : Hid (Below w.heap.size w w1) := below_over hwW hb1
    have hz1' : w.heap.size + 1 + 1 ≤ w1.heap.size := by
      have h1 := hb1.size
      have h2 := HZW.out
      omega
    obtain ⟨m1, f1⟩ := M1.g1
    have MX1 := M1.s1 (.slice a1 m.args.length c1)
    have RX1 := R1.far ⟨w.heap.size, 1, none⟩ (.slice a1 m.args.length c1) HNN.out
    have SX1 := HS1.out.keep (Keep.set (B := w.heap.size + 1 + 1) w1 (p := ⟨w.heap.size, 1, none⟩) (by show w.heap.size < w.heap.size + 1 + 1; omega) (.slice a1 m.args.length c1)) (Nat.le_refl _)
    have hwX := HB1.out.setCell (p := ⟨w.heap.size, 1, none⟩) (by simp) (.slice a1 m.args.length c1)
    have hzX1 : w.heap.size + 1 + 1 ≤ (w1.setCell ⟨w.heap.size, 1, none⟩ (.slice a1 m.args.length c1)).heap.size := by
      simp
      omega
    clear hown1 hgrow1 hnil1 hsi hb1 b1 HS1 M1 R1 HB1 HOW M0 R0 hwW HZW
    have MB : Hid (Cells (w1.setCell ⟨w.heap.size, 1, none⟩ (.slice a1 m.args.length c1)) w.heap.size [.int .i64 m.name, .slice a1 m.args.length c1, .int .i64 m.gives, .slice (some ⟨gc, 0, none⟩) m.code.length y2]) := MX1
    have RB : Hid (Cells (w1.setCell ⟨w.heap.size, 1, none⟩ (.slice a1 m.args.length c1)) (w.heap.size + 1) [.int .i64 0, .slice none 0 0, .int .i64 0, .slice none 0 0]) := RX1
    have HV1 : Hid (GZ (w.heap.size + 1 + 1) w1.heap.size (w1.setCell ⟨w.heap.size, 1, none⟩ (.slice a1 m.args.length c1)) (.slice a1 m.args.length c1) m.args) := SX1
    have HBX : Hid (Below w.heap.size w (w1.setCell ⟨w.heap.size, 1, none⟩ (.slice a1 m.args.length c1))) := hwX
    have hzX : w.heap.size + 1 + 1 ≤ (w1.setCell ⟨w.heap.size, 1, none⟩ (.slice a1 m.args.length c1)).heap.size := hzX1
    clear MX1 RX1 SX1 hwX hzX1
    have HO2 : Hid (((w1.setCell ⟨w.heap.size, 1, none⟩ (.slice a1 m.args.length c1)).alloc (.cells #[] 39)).ownsRow w1.heap.size 39 3 (.slice (some ⟨w1.heap.size, 0, none⟩) 0 0) 0 []) := by
      have h := World.ownsRow_made (base := w1.heap.size) (e := 39) (size := 3) (w1.setCell ⟨w.heap.size, 1, none⟩ (.slice a1 m.args.length c1)) #[] 0 (by simp) (by decide) (by simp)
      unfold Hid
      simpa using h
    have k3 := (MB.out.alloc (.cells #[] 39)).g3.1
    go_wp2_with (at_builtin; go_loud (refine wpList_append_own _ rfl _ _ 49 rfl w1.heap.size 39 j0 (.agg #[.int .i64 0, .int .i64 0, .int .i64 0]) 3 24 Tryz.underlying49 hj hy0 hy1 hy2 rfl (by decide) _ _ _ rfl HO2.out ⟨gc, 0, none⟩ m.code.length y2 (flat m.code) rfl (flat_len m.code) (HR.out.on (HBX.out.alloc HBX.out.size _)).flat (flat_one _) (by unfold maxLen; omega) (by omega) (by simp) ?_))
    intro v5 w5 hown5 hgrow5 hnil5
    have hb5 : Below (w1.setCell ⟨w.heap.size, 1, none⟩ (.slice a1 m.args.length c1)).heap.size (w1.setCell ⟨w.heap.size, 1, none⟩ (.slice a1 m.args.length c1)) w5 := ((Below.refl _ _).alloc (Nat.le_refl _) _).grown hgrow5 (by simp) (fun g hg => by simp [Value.ownBlock] at hg ⊢; omega)
    have hcs := cs_of hown5 (fun h => by first | exact hnil5 h | exact absurd (hnil5.1 h).1 (by simp))
    obtain ⟨a5, c5, rfl⟩ := front.form hcs
    have HC5 : Hid (CS w1.heap.size w5 (.slice a5 m.code.length c5) m.code) := hcs
    have HV5 : Hid (GZ (w.heap.size + 1 + 1) w1.heap.size w5 (.slice a1 m.args.length c1) m.args) := HV1.out.on hb5
    have HZ5 : Hid (w1.heap.size ≤ w5.heap.size) := by show _ ≤ _; have := hb5.size; simpa using this
    have HW5 : Hid (Below w.heap.size w w5) := below_over HBX.out hb5
    have O3 := MB.out.on hb5
    have R3 := RB.out.on hb5
    clear hown5 hgrow5 hnil5 hcs k3 HV1 HBX MB RB hb5
    have N10 : (⟨w.heap.size, 3, none⟩ : Addr).block ≠ w.heap.size + 1 := by show w.heap.size ≠ w.heap.size + 1; omega
    have O4 := O3.s3 (.slice a5 m.code.length c5)
    have R4 := R3.far ⟨w.heap.size, 3, none⟩ (.slice a5 m.code.length c5) N10
    have R5 := (((R4.s0 (.int .i64 m.name)).s1 (.slice a1 m.args.length c1)).s2 (.int .i64 m.gives)).s3 (.slice a5 m.code.length c5)
    obtain ⟨o3, p3⟩ := O3.g3
    obtain ⟨i0, _⟩ := O4.g0
    obtain ⟨i1, _⟩ := O4.g1
    obtain ⟨i2, _⟩ := O4.g2
    obtain ⟨i3, _⟩ := O4.g3
    obtain ⟨r0, q0⟩ := R4.g0
    obtain ⟨r1, q1⟩ := R4.g1
    obtain ⟨r2, q2⟩ := R4.g2
    obtain ⟨r3, q3⟩ := R4.g3
    obtain ⟨e0, _⟩ := R5.g0
    obtain ⟨e1, _⟩ := R5.g1
    obtain ⟨e2, _⟩ := R5.g2
    obtain ⟨e3, _⟩ := R5.g3
    clear O4 R4 R5 R3 O3 N10
    go_wp2
    refine bodyPost_ret (v := .agg #[.int .i64 m.name, .slice a1 m.args.length c1, .int .i64 m.gives, .slice a5 m.code.length c5]) (by simp [results, Tryz.results34, go_sem, e0, e1, e2, e3]) rfl ?_
    have hk : ∀ (x : World) (j i : Nat) (v : Value), j < w.heap.size + 1 + 1 → Keep (w.heap.size + 1 + 1) x (x.setCell ⟨j, i, none⟩ v) := fun x j i v hj => Keep.set x (p := ⟨j, i, none⟩) hj v
    have hkk := ((((hk w5 w.heap.size 3 (.slice a5 m.code.length c5) (by omega)).trans (hk _ (w.heap.size + 1) 0 (.int .i64 m.name) (by omega))).trans (hk _ (w.heap.size + 1) 1 (.slice a1 m.args.length c1) (by omega))).trans (hk _ (w.heap.size + 1) 2 (.int .i64 m.gives) (by omega))).trans (hk _ (w.heap.size + 1) 3 (.slice a5 m.code.length c5) (by omega))
    have hbb := ((((HW5.out.setCell (p := ⟨w.heap.size, 3, none⟩) (by simp) (.slice a5 m.code.length c5)).setCell (p := ⟨w.heap.size + 1, 0, none⟩) (by simp) (.int .i64 m.name)).setCell (p := ⟨w.heap.size + 1, 1, none⟩) (by simp) (.slice a1 m.args.length c1)).setCell (p := ⟨w.heap.size + 1, 2, none⟩) (by simp) (.int .i64 m.gives)).setCell (p := ⟨w.heap.size + 1, 3, none⟩) (by simp) (.slice a5 m.code.length c5)
    exact ⟨a1, c1, a5, c5, rfl, ⟨w1.heap.size, by omega, by have := hkk.size; have := HZ5.out; omega, (HV5.out.keep hkk (Nat.le_refl _)).weak (by omega) (Nat.le_refl _), ((CZ.of HC5.out).keep hkk hz1').weak (Nat.le_refl _) hkk.size⟩, hbb, front.weak (HC5.out.on (hkk.mono hz1')) (by omega)⟩
end Pg
end Go.Proofs.YtfdlljdljefkfaaGreatDoor

/- The contract of the other side's MethodOf. -/
namespace Go.Proofs.YtfdlljdljefkfaaGreatDoor
namespace Pg
open Go.ChangeShapes Go.WideShapes Go.ChangeAt Go.RowKit St

set_option maxRecDepth 100000 in
set_option maxHeartbeats 4000000 in
theorem specMethodOf (B : Nat) (p : Prg) (a : Option Addr) (cap : Nat) (t name : Int) (hsp : SmallP p) (w : World) (hp : SK front B w (.slice a p.length cap) p) :
    Calls Tryz.prog 18 #[.agg #[.slice a p.length cap], .int .i64 t, .int .i64 name] w fun e w' => MPost p t name w e w' := by
  have HSP : Hid (SmallP p) := hsp
  have HP : Hid (SK front B w (.slice a p.length cap) p) := hp
  clear hp hsp
  obtain ⟨W, hW⟩ : ∃ W, W = (w.alloc (.cells #[.slice a p.length cap] 37)).alloc (.cells #[.int .i64 0, .slice none 0 0, .int .i64 0, .slice none 0 0] 51) := ⟨_, rfl⟩
  have hwW : Below w.heap.size w W := by rw [hW]; exact ((Below.refl _ _).alloc (Nat.le_refl _) _).alloc (by simp) _
  have P0 : Hid (Cells W w.heap.size [.slice a p.length cap]) := by rw [hW]; exact (Cells.new w _ rfl _ _).alloc _
  have R0 : Hid (Cells W (w.heap.size + 1) [.int .i64 0, .slice none 0 0, .int .i64 0, .slice none 0 0]) := by rw [hW]; exact Cells.new (w.alloc _) _ (by simp) _ _
  have HZ : Hid (∀ u, Below W.heap.size W u → methF p t name = none → MPost p t name w (.returned (.tuple #[.agg #[.int .i64 0, .slice none 0 0, .int .i64 0, .slice none 0 0], .bool false])) ((((u.setCell ⟨w.heap.size + 1, 0, none⟩ (.int .i64 0)).setCell ⟨w.heap.size + 1, 1, none⟩ (.slice none 0 0)).setCell ⟨w.heap.size + 1, 2, none⟩ (.int .i64 0)).setCell ⟨w.heap.size + 1, 3, none⟩ (.slice none 0 0))) := fun u hu hn =>
    ⟨.inr ⟨hn, rfl⟩, ((((below_over hwW hu).setCell (p := ⟨w.heap.size + 1, 0, none⟩) (by simp) _).setCell (p := ⟨w.heap.size + 1, 1, none⟩) (by simp) _).setCell (p := ⟨w.heap.size + 1, 2, none⟩) (by simp) _).setCell (p := ⟨w.heap.size + 1, 3, none⟩) (by simp) _⟩
  go_enter Tryz.func18, Tryz.ntmps18
  go_wp2_with fail
  rw [← hW]
  clear hW
  refine (l4In B p a cap t HSP.out _ (SK.on HP.out (Keep.of hwW))).mono ?_
  rintro e w2 ⟨rfl, hb1⟩
  have hW2 : Below W.heap.size W w2 := hb1
  clear hb1
  cases hok : (okP p && inB p t)
  · have HN : Hid (methF p t name = none) := methF_no hok
    clear hok
    have RA := R0.out.on hW2
    obtain ⟨r0, q0⟩ := RA.g0
    obtain ⟨r1, q1⟩ := RA.g1
    obtain ⟨r2, q2⟩ := RA.g2
    obtain ⟨r3, q3⟩ := RA.g3
    have R5 := (((RA.s0 (.int .i64 0)).s1 (.slice none 0 0)).s2 (.int .i64 0)).s3 (.slice none 0 0)
    obtain ⟨e0, _⟩ := R5.g0
    obtain ⟨e1, _⟩ := R5.g1
    obtain ⟨e2, _⟩ := R5.g2
    obtain ⟨e3, _⟩ := R5.g3
    clear R5 RA
    go_wp2
    refine bodyPost_ret (v := .tuple #[.agg #[.int .i64 0, .slice none 0 0, .int .i64 0, .slice none 0 0], .bool false]) (by simp [results, Tryz.results18, go_sem, e0, e1, e2, e3]) rfl ?_
    exact HZ.out _ hW2 HN.out
  · simp only [Bool.and_eq_true, inB, decide_eq_true_eq] at hok
    obtain ⟨hk, h0, h1⟩ := hok
    obtain ⟨u, rfl⟩ := Int.eq_ofNat_of_zero_le h0
    have hup : u < p.length := by omega
    have hw2 : Below w.heap.size w w2 := below_over hwW hW2
    obtain ⟨b, o, rfl, _, vf, vm, d0, d1, d2, hcv⟩ := HP.out.get hup
    obtain ⟨z1, t1, rfl⟩ := hcv.1.form
    obtain ⟨z2, t2, rfl⟩ := hcv.2.form
    have l0 : b < w.heap.size := cell_lt d0
    have c0 := (hw2.cell l0).trans d0
    have c1 := (hw2.cell l0).trans d1
    have c2 := (hw2.cell l0).trans d2
    have HM : Hid (SM front B w (.slice z2 p[u].meths.length t2) p[u].meths) := hcv.2
    have hsc := HSP.out.2 _ (List.getElem_mem hup)
    have HSMM : Hid (∀ m ∈ p[u].meths, SmallM m) := hsc.2.2
    have hsl := hsc.2.1
    have HMF : Hid (methF p (u : Int) name = ownF p[u] name) := methF_at hk hup (List.getElem?_eq_getElem hup)
    generalize p[u] = c at *
    obtain ⟨pp, _⟩ := (P0.out.on hW2).g0
    have D2 : Hid (w.cell? ⟨b, o + u * 3 + 2, none⟩ = some (.slice z2 c.meths.length t2)) := by first | exact d2 | simpa [Nat.add_assoc] using d2
    clear hcv hsc d0 d1 d2 hk
    go_wp2_with fail
    refine (l4Own B c z1 z2 t2 c.fields.length t1 name hsl _ (SM.on HM.out (Keep.of hw2))).mono ?_
    rintro e w3 ⟨rfl, hb3⟩
    have hW3 : Below W.heap.size W w3 := below_over hW2 hb3
    have hw3 : Below w.heap.size w w3 := below_over hwW hW3
    obtain ⟨pp, _⟩ := (P0.out.on hW3).g0
    have c2 := (hb3.cell (cell_lt c2)).trans c2
    clear hb3 c0 c1 hW2 hw2
    rcases ownI_cases c name with ⟨hI, hF⟩ | ⟨kk, m, hkk, hx, hI, hF⟩
    · have HN : Hid (methF p (u : Int) name = none) := by show _ = _; rw [HMF.out]; exact hF
      rw [hI]
      clear hI hF
      have RA := R0.out.on hW3
      obtain ⟨r0, q0⟩ := RA.g0
      obtain ⟨r1, q1⟩ := RA.g1
      obtain ⟨r2, q2⟩ := RA.g2
      obtain ⟨r3, q3⟩ := RA.g3
      have R5 := (((RA.s0 (.int .i64 0)).s1 (.slice none 0 0)).s2 (.int .i64 0)).s3 (.slice none 0 0)
      obtain ⟨e0, _⟩ := R5.g0
      obtain ⟨e1, _⟩ := R5.g1
      obtain ⟨e2, _⟩ := R5.g2
      obtain ⟨e3, _⟩ := R5.g3
      clear R5 RA
      go_wp2
      refine bodyPost_ret (v := .tuple #[.agg #[.int .i64 0, .slice none 0 0, .int .i64 0, .slice none 0 0], .bool false]) (by simp [results, Tryz.results18, go_sem, e0, e1, e2, e3]) rfl ?_
      exact HZ.out _ hW3 HN.out
    · have HMS : Hid (methF p (u : Int) name = some m) := by show _ = _; rw [HMF.out]; exact hF
      have hkki : (kk : Int) < (c.meths.length : Int) := by omega
      have hkk0 : (0 : Int) ≤ (kk : Int) := by omega
      obtain ⟨bx, ox, rfl, _, wa, wc, g0, g1, g2, g3, hxv⟩ := HM.out.get hkk
      obtain ⟨x3, y3, rfl⟩ := hxv.1.form
      have exx : c.meths[kk] = m := by
        rw [List.getElem?_eq_getElem hkk] at hx
        simpa using hx
      rw [exx] at g0 g1 g2 hxv
      obtain ⟨gc, y4, rfl⟩ := front.form hxv.2
      have lx : bx < w.heap.size := cell_lt g1
      have g0' := (hw3.cell lx).trans g0
      have g1' := (hw3.cell lx).trans g1
      have g2' := (hw3.cell lx).trans g2
      have g3' := (hw3.cell lx).trans g3
      have HXV : Hid (MV front B w (.slice x3 m.args.length y3) (.slice gc m.code.length y4) m) := hxv
      have HSM : Hid (SmallM m) := HSMM.out m (List.mem_of_getElem? hx)
      rw [hI]
      clear hI hF exx hxv hx g0 g1 g2 g3 HZ
      go_wp2_with fail
      refine (l4Copy B m _ _ HSM.out _ (MV.on HXV.out (Keep.of hw3))).mono ?_
      rintro e w5 ⟨a4, c4, a5, c5, rfl, hmv, hb5, _⟩
      have RX := (R0.out.on hW3).on hb5
      obtain ⟨r0, q0⟩ := RX.g0
      obtain ⟨r1, q1⟩ := RX.g1
      obtain ⟨r2, q2⟩ := RX.g2
      obtain ⟨r3, q3⟩ := RX.g3
      have R5 := (((RX.s0 (.int .i64 m.name)).s1 (.slice a4 m.args.length c4)).s2 (.int .i64 m.gives)).s3 (.slice a5 m.code.length c5)
      obtain ⟨e0, _⟩ := R5.g0
      obtain ⟨e1, _⟩ := R5.g1
      obtain ⟨e2, _⟩ := R5.g2
      obtain ⟨e3, _⟩ := R5.g3
      have hsW : w.heap.size + 2 ≤ w3.heap.size := by
        have h1 := cell_lt (R0.out.g0).1
        have h2 := hW3.size
        simp at h1
        omega
      have hk : ∀ (x : World) (i : Nat) (v : Value), Keep (w.heap.size + 2) x (x.setCell ⟨w.heap.size + 1, i, none⟩ v) := fun x i v => Keep.set x (p := ⟨w.heap.size + 1, i, none⟩) (by simp) v
      have hkk' := (((hk w5 0 (.int .i64 m.name)).trans (hk _ 1 (.slice a4 m.args.length c4))).trans (hk _ 2 (.int .i64 m.gives))).trans (hk _ 3 (.slice a5 m.code.length c5))
      have HMVF : Hid (AnsM w.heap.size ((((w5.setCell ⟨w.heap.size + 1, 0, none⟩ (.int .i64 m.name)).setCell ⟨w.heap.size + 1, 1, none⟩ (.slice a4 m.args.length c4)).setCell ⟨w.heap.size + 1, 2, none⟩ (.int .i64 m.gives)).setCell ⟨w.heap.size + 1, 3, none⟩ (.slice a5 m.code.length c5)) (.slice a4 m.args.length c4) (.slice a5 m.code.length c5) m) :=
        (hmv.keep hkk' hsW).weak (by omega)
      have hw5 : Below w.heap.size w w5 := below_over hw3 hb5
      have HBF : Hid (Below w.heap.size w ((((w5.setCell ⟨w.heap.size + 1, 0, none⟩ (.int .i64 m.name)).setCell ⟨w.heap.size + 1, 1, none⟩ (.slice a4 m.args.length c4)).setCell ⟨w.heap.size + 1, 2, none⟩ (.int .i64 m.gives)).setCell ⟨w.heap.size + 1, 3, none⟩ (.slice a5 m.code.length c5))) := (((hw5.setCell (p := ⟨w.heap.size + 1, 0, none⟩) (by simp) _).setCell (p := ⟨w.heap.size + 1, 1, none⟩) (by simp) _).setCell (p := ⟨w.heap.size + 1, 2, none⟩) (by simp) _).setCell (p := ⟨w.heap.size + 1, 3, none⟩) (by simp) _
      clear hkk' hk hmv hb5 R5 RX hw5 pp c2 g0' g1' g2' g3'
      go_wp2
      refine bodyPost_ret (v := .tuple #[.agg #[.int .i64 m.name, .slice a4 m.args.length c4, .int .i64 m.gives, .slice a5 m.code.length c5], .bool true]) (by simp [results, Tryz.results18, go_sem, e0, e1, e2, e3]) rfl ?_
      exact ⟨.inl ⟨m, a4, c4, a5, c5, HMS.out, rfl, HMVF.out⟩, HBF.out⟩
end Pg
end Go.Proofs.YtfdlljdljefkfaaGreatDoor
