/- The contract of the draw of a method. -/
import Derived.Test.YtbgbddahniacbaaGreatDoorJDp0
import Derived.Maps.AppendAt
import Derived.Test.YtbgbddahniacbaaGreatDoorJGr0
namespace Go.Proofs.YtbgbddahniacbaaGreatDoor
namespace Cu
open Go.ChangeShapes Go.WideShapes Go.ChangeAt Go.RowKit St

/-- A method has been drawn, and the cursor stands. -/
def DrewM (B : Nat) (w : World) (c : Nat) (a : Option Addr) (len cap : Nat) (name : Int) (e : Ending) (w' : World) : Prop :=
  ∃ g y l, e = .returned (.agg #[.int .i64 name, .slice none 0 0, .int .i64 (-1), .slice (some ⟨g, 0, none⟩) l.length y]) ∧ Pg.CS w.heap.size w' (.slice (some ⟨g, 0, none⟩) l.length y) l ∧ l.length ≤ 42 ∧ Fits l ∧ At B w w' c a len cap
theorem own_cap {w : World} {B q g n cap : Nat} {e : TypeId} {xs : List Value} (h : w.ownsRow B e q (.slice (some ⟨g, 0, none⟩) n cap) n xs) : n ≤ cap := by
  obtain ⟨_, ⟨h, _⟩ | ⟨g', cap', cur, hv, h1, h2, h3, _⟩⟩ := h
  · simp at h
  · injection hv with e1 e2 e3
    omega

theorem own_src {w : World} {B g cap : Nat} {e : TypeId} {l : List Tx.Ins} {n : Nat} (h : w.ownsRow B e 3 (.slice (some ⟨g, 0, none⟩) n cap) n (flat l)) : ∀ j u, (flat l)[j]? = some u → w.cell? ((⟨g, 0, none⟩ : Addr).add j) = some u := by
  intro j u hu
  have h1 := (List.getElem?_eq_some_iff.1 hu).1
  have h2 : (flat l).length = n * 3 := h.1
  rw [Go.WideShapes.add_plain, Nat.zero_add, h.cellAt j (by omega)]
  exact hu
theorem own_on {u v : World} {B n q : Nat} {e : TypeId} {x : Value} {xs : List Value} (h : u.ownsRow B e q x n xs) (hb : Below u.heap.size u v) : v.ownsRow B e q x n xs := by
  have hl := h.lt
  obtain ⟨h0, ⟨h1, h2⟩ | ⟨g, cap, cur, rfl, h1, h2, h3⟩⟩ := h
  · exact ⟨h0, .inl ⟨h1, h2⟩⟩
  · exact ⟨h0, .inr ⟨g, cap, cur, rfl, h1, (hb.block g (hl g rfl).2).trans h2, h3⟩⟩
theorem cells_low {B k : Nat} {u w : World} {vs : List Value} (h : Pg.Cells u k vs) (hb : Below B u w) (hk : k < B) : Pg.Cells w k vs := fun i x hx => by
  obtain ⟨h1, h2⟩ := h i x hx
  exact ⟨(hb.cell (p := ⟨k, i, none⟩) hk).trans h1, (hb.frozen (p := ⟨k, i, none⟩) hk).trans h2⟩
theorem below_cut {B C : Nat} {u w : World} (h : Below B u w) (hC : C ≤ B) : Below C u w := ⟨h.os, h.tape, h.output, h.size, fun k hk => h.block k (by omega)⟩
theorem own_grown {u w : World} {B q n gl cl : Nat} {e : TypeId} {xs : List Value} {row : Option Nat} (h : u.ownsRow B e q (.slice (some ⟨gl, 0, none⟩) n cl) n xs) (hg : u.grownBy w row) (hne : some gl ≠ row) : w.ownsRow B e q (.slice (some ⟨gl, 0, none⟩) n cl) n xs := by
  have hl := (h.lt gl rfl).2
  obtain ⟨h0, ⟨h1, h2⟩ | ⟨g, cap, cur, hv, h1, h2, h3⟩⟩ := h
  · simp at h1
  · injection hv with e1 e2 e3
    injection e1 with e1
    injection e1 with e1
    subst e1 e3
    exact ⟨h0, .inr ⟨gl, cl, cur, rfl, h1, (hg.block gl hl hne).trans h2, h3⟩⟩
theorem fits_mid {l m r : List Tx.Ins} (h : Fits (l ++ r)) (k : Fits m) : Fits (l ++ (m ++ r)) := by
  rw [fits_iff] at *
  intro x hx
  rcases List.mem_append.1 hx with hx | hx
  · exact h x (List.mem_append_left _ hx)
  · rcases List.mem_append.1 hx with hx | hx
    · exact k x hx
    · exact h x (List.mem_append_right _ hx)
theorem split2 (l : List Tx.Ins) (h : 2 ≤ l.length) : ∃ l0 x y, l = l0 ++ [x, y] := by
  rcases List.eq_nil_or_concat l with rfl | ⟨k, y, rfl⟩
  · simp at h
  · rcases List.eq_nil_or_concat k with rfl | ⟨l0, x, rfl⟩
    · simp at h
    · exact ⟨l0, x, y, by simp⟩

set_option maxRecDepth 100000 in
set_option maxHeartbeats 4000000 in
theorem drawMethod_cur (B c : Nat) (name cls : Int) (calls : Bool) (hc1 : 1 ≤ cls) (hc2 : cls ≤ 5) (w : World) (a : Option Addr) (len cap : Nat) (h : Cur B w c a len cap) :
    Calls Tryz.prog 62 #[.pointer (some ⟨c, 0, none⟩), .int .i64 name, .bool calls, .int .i64 cls] w fun e w' => DrewM B w c a len cap name e w' := by
  obtain ⟨i0, hi, hz0, hz1, hz2⟩ := info_parts infoI
  have hcw : c < w.heap.size := h.2.1
  have H : Hid (Cur B w c a len cap) := h
  clear h
  obtain ⟨W, hW⟩ : ∃ W, W = (w.alloc (.cells #[.int .i64 0, .slice none 0 0, .int .i64 0, .slice none 0 0] 35)).alloc (.cells #[.int .i64 name, .slice none 0 0, .int .i64 (-1), .slice none 0 0] 35) := ⟨_, rfl⟩
  have HA : Hid (At B w W c a len cap) := by rw [hW]; exact ((At.start H.out).alloc _).alloc _
  have HZ : Hid (W.heap.size = w.heap.size + 1 + 1) := by show _ = _; rw [hW]; simp
  have R0 : Hid (Pg.Cells W w.heap.size [.int .i64 0, .slice none 0 0, .int .i64 0, .slice none 0 0]) := by rw [hW]; exact (Pg.Cells.new w _ rfl _ _).alloc _
  have M0 : Hid (Pg.Cells W (w.heap.size + 1) [.int .i64 name, .slice none 0 0, .int .i64 (-1), .slice none 0 0]) := by rw [hW]; exact Pg.Cells.new (w.alloc _) _ (by simp) _ _
  go_enter Tryz.func62, Tryz.ntmps62
  go_wp2_with fail
  rw [← hW]
  clear hW
  refine (drawCode_own B c W a len cap HA.out.2).mono ?_
  rintro e w2 ⟨v, l, rfl, hown, hvn, hl2, hl36, hfit, hat⟩
  obtain ⟨gv, cv, rfl, hBv⟩ := own_shape hown hvn
  obtain ⟨l0, x, y, rfl⟩ := split2 l hl2
  have hlen : (l0 ++ [x, y]).length = l0.length + 2 := by simp
  rw [hlen] at hown hl36 hl2 ⊢
  rw [HZ.out] at hown
  have hcv := own_cap hown
  have hl34 : l0.length ≤ 34 := by omega
  have HF0 : Hid (Fits (l0 ++ [x, y])) := hfit
  have hk1 : w.heap.size + 1 ≠ c := by omega
  have hk0 : w.heap.size ≠ c := by omega
  have M2 := cells_touch M0.out hat.1 hk1
  have R2 := cells_touch R0.out hat.1 hk0
  have A2 := HA.out.step hat
  have N10 : (⟨w.heap.size + 1, 3, none⟩ : Addr).block ≠ w.heap.size := by show w.heap.size + 1 ≠ w.heap.size; omega
  have M3 : Hid (Pg.Cells (w2.setCell ⟨w.heap.size + 1, 3, none⟩ (.slice (some ⟨gv, 0, none⟩) (l0.length + 2) cv)) (w.heap.size + 1) [.int .i64 name, .slice none 0 0, .int .i64 (-1), .slice (some ⟨gv, 0, none⟩) (l0.length + 2) cv]) := M2.s3 _
  have R3 : Hid (Pg.Cells (w2.setCell ⟨w.heap.size + 1, 3, none⟩ (.slice (some ⟨gv, 0, none⟩) (l0.length + 2) cv)) w.heap.size [.int .i64 0, .slice none 0 0, .int .i64 0, .slice none 0 0]) := R2.far ⟨w.heap.size + 1, 3, none⟩ (.slice (some ⟨gv, 0, none⟩) (l0.length + 2) cv) N10
  have O3 : Hid ((w2.setCell ⟨w.heap.size + 1, 3, none⟩ (.slice (some ⟨gv, 0, none⟩) (l0.length + 2) cv)).ownsRow (w.heap.size + 1 + 1) 73 3 (.slice (some ⟨gv, 0, none⟩) (l0.length + 2) cv) (l0.length + 2) (flat (l0 ++ [x, y]))) := own_set hown (p := ⟨w.heap.size + 1, 3, none⟩) (by show w.heap.size + 1 < w.heap.size + 1 + 1; omega) _
  have A3 : Hid (At B w (w2.setCell ⟨w.heap.size + 1, 3, none⟩ (.slice (some ⟨gv, 0, none⟩) (l0.length + 2) cv)) c a len cap) := A2.set hcw (p := ⟨w.heap.size + 1, 3, none⟩) (by show w.heap.size ≤ w.heap.size + 1; omega) _
  obtain ⟨m3, f3⟩ := M2.g3
  clear M2 R2 A2 hown hat hvn hfit M0 R0 HA hlen HZ hl2 hl36 hBv N10
  have b3 := M3.out.g3.1
  generalize hX : w2.setCell ⟨w.heap.size + 1, 3, none⟩ (.slice (some ⟨gv, 0, none⟩) (l0.length + 2) cv) = X at *
  have b4 := (M3.out.alloc (.cells #[] 73)).g3.1
  have hzX : w.heap.size + 1 + 1 ≤ X.heap.size := by
    have := O3.out.lt gv rfl
    omega
  have HSRC : Hid (∀ j u, (flat [x, y])[j]? = some u → (X.alloc (.cells #[] 73)).cell? ((⟨gv, l0.length * 3, none⟩ : Addr).add j) = some u) := by
    intro j u hu
    have hj : j < 6 := by
      have h1 := (List.getElem?_eq_some_iff.1 hu).1
      have h2 := flat_len [x, y]
      simp at h2
      omega
    have hc := O3.out.cellAt (l0.length * 3 + j) (by omega)
    rw [flat_append, List.getElem?_append_right (by rw [flat_len]; omega), flat_len, Nat.add_sub_cancel_left, hu] at hc
    rw [Go.WideShapes.add_plain]
    exact (((Below.refl _ X).alloc (Nat.le_refl _) _).cell (cell_lt hc)).trans hc
  go_wp2_with (at_builtin; refine wpList_append_own _ rfl _ _ 33 rfl X.heap.size 73 i0 (.agg #[.int .i64 0, .int .i64 0, .int .i64 0]) 3 24 Tryz.underlying33 hi hz0 hz1 hz2 rfl (by decide) _ _ _ rfl (World.ownsRow_made X #[] 0 (Nat.le_refl _) (by decide) (by simp)) ⟨gv, l0.length * 3, none⟩ 2 (cv - l0.length) (flat [x, y]) rfl rfl HSRC.out (flat_one _) (by unfold maxLen; omega) (by omega) (by simp) ?_)
  intro v4 w4 hown4 hgrow4 hnil4
  have hb4 : Below X.heap.size X w4 := ((Below.refl _ _).alloc (Nat.le_refl _) _).grown hgrow4 (by simp) (fun g hg => by simp [Value.ownBlock] at hg ⊢; omega)
  have HV4 : Hid (v4 ≠ .slice none 0 0) := fun h => by first | exact hnil4 h | exact absurd (hnil4.1 h).1 (by simp)
  obtain ⟨gl, cl, rfl, hBl⟩ := own_shape hown4 HV4.out
  have OL : Hid (w4.ownsRow (w.heap.size + 1 + 1) 73 3 (.slice (some ⟨gl, 0, none⟩) 2 cl) 2 (flat [x, y])) := own_base hown4 hzX
  have M4 := M3.out.on hb4
  have R4 := R3.out.on hb4
  have A4 := A3.out.low hcw (below_cut hb4 (by omega))
  have O4 : w4.ownsRow (w.heap.size + 1 + 1) 73 3 (.slice (some ⟨gv, 0, none⟩) (l0 ++ [x, y]).length cv) (l0 ++ [x, y]).length (flat (l0 ++ [x, y])) := by
    have h := own_on O3.out hb4
    rw [show (l0 ++ [x, y]).length = l0.length + 2 from by simp]
    exact h
  have O5 := own_front O4 (k := l0.length) (by simp)
  rw [List.take_left] at O5
  have N10 : (⟨w.heap.size + 1, 3, none⟩ : Addr).block ≠ w.heap.size := by show w.heap.size + 1 ≠ w.heap.size; omega
  have MY : Hid (Pg.Cells (w4.setCell ⟨w.heap.size + 1, 3, none⟩ (.slice (some ⟨gv, 0, none⟩) l0.length cv)) (w.heap.size + 1) [.int .i64 name, .slice none 0 0, .int .i64 (-1), .slice (some ⟨gv, 0, none⟩) l0.length cv]) := M4.s3 _
  have RY : Hid (Pg.Cells (w4.setCell ⟨w.heap.size + 1, 3, none⟩ (.slice (some ⟨gv, 0, none⟩) l0.length cv)) w.heap.size [.int .i64 0, .slice none 0 0, .int .i64 0, .slice none 0 0]) := R4.far ⟨w.heap.size + 1, 3, none⟩ (.slice (some ⟨gv, 0, none⟩) l0.length cv) N10
  have OY : Hid ((w4.setCell ⟨w.heap.size + 1, 3, none⟩ (.slice (some ⟨gv, 0, none⟩) l0.length cv)).ownsRow (w.heap.size + 1 + 1) 73 3 (.slice (some ⟨gv, 0, none⟩) l0.length cv) l0.length (flat l0)) := own_set O5 (p := ⟨w.heap.size + 1, 3, none⟩) (Nat.lt_succ_self _) _
  have OLY : Hid ((w4.setCell ⟨w.heap.size + 1, 3, none⟩ (.slice (some ⟨gv, 0, none⟩) l0.length cv)).ownsRow (w.heap.size + 1 + 1) 73 3 (.slice (some ⟨gl, 0, none⟩) 2 cl) 2 (flat [x, y])) := own_set OL.out (p := ⟨w.heap.size + 1, 3, none⟩) (Nat.lt_succ_self _) _
  have AY : Hid (At B w (w4.setCell ⟨w.heap.size + 1, 3, none⟩ (.slice (some ⟨gv, 0, none⟩) l0.length cv)) c a len cap) := A4.set hcw (p := ⟨w.heap.size + 1, 3, none⟩) (Nat.le_succ _) _
  obtain ⟨m4, f4⟩ := M4.g3
  have HNE : Hid (gl ≠ gv) := by
    show gl ≠ gv
    have h1 := (O3.out.lt gv rfl).2
    omega
  clear hown4 hgrow4 hnil4 hb4 OL M4 R4 A4 O4 O5 M3 R3 O3 A3 b3 b4 m3 f3 HSRC hX hzX HV4 N10
  cases calls
  · generalize hZ : w4.setCell ⟨w.heap.size + 1, 3, none⟩ (.slice (some ⟨gv, 0, none⟩) l0.length cv) = Z at *
    have MZ := MY
    have RZ := RY
    have OZ := OY
    have OLZ := OLY
    have AZ := AY
    have HFZ := HF0
    clear MY RY OY OLY AY
    have HSL : Hid (∀ j u, (flat [x, y])[j]? = some u → Z.cell? ((⟨gl, 0, none⟩ : Addr).add j) = some u) := own_src OLZ.out
    obtain ⟨z3, y3⟩ := MZ.out.g3
    have hzZ : w.heap.size + 1 + 1 ≤ Z.heap.size := by
      have := OLZ.out.lt gl rfl
      omega
    go_wp2_with (at_builtin; refine wpList_append_own _ rfl _ _ 33 rfl (w.heap.size + 1 + 1) 73 i0 (.agg #[.int .i64 0, .int .i64 0, .int .i64 0]) 3 24 Tryz.underlying33 hi hz0 hz1 hz2 rfl (by decide) _ _ _ rfl OZ.out ⟨gl, 0, none⟩ 2 cl (flat [x, y]) rfl rfl HSL.out (flat_one _) (by unfold maxLen; omega) (by omega) hzZ ?_)
    intro v6 w6 hown6 hgrow6 hnil6
    have hb6 : Below (w.heap.size + 1 + 1) Z w6 := (Below.refl _ _).grown hgrow6 hzZ (fun g hg => (OZ.out.lt g hg).1)
    have HV6 : Hid (v6 ≠ .slice none 0 0) := fun h => by first | exact hnil6 h | exact absurd (hnil6.1 h).1 (by simp)
    obtain ⟨g6, c6, rfl, hB6⟩ := own_shape hown6 HV6.out
    have O6 : Hid (w6.ownsRow (w.heap.size + 1 + 1) 73 3 (.slice (some ⟨g6, 0, none⟩) (l0.length + 2) c6) (l0 ++ [x, y]).length (flat (l0 ++ [x, y]))) := by
      show World.ownsRow _ _ _ _ _ _ _
      rw [flat_append, List.length_append]; exact hown6
    have M6 := cells_low MZ.out hb6 (by omega)
    have R6 := cells_low RZ.out hb6 (by omega)
    have A6 : Hid (At B w w6 c a len cap) := AZ.out.low hcw (below_cut hb6 (by omega))
    have N10 : (⟨w.heap.size + 1, 3, none⟩ : Addr).block ≠ w.heap.size := by show w.heap.size + 1 ≠ w.heap.size; omega
    have M7 := M6.s3 (.slice (some ⟨g6, 0, none⟩) (l0.length + 2) c6)
    have R7 := R6.far ⟨w.heap.size + 1, 3, none⟩ (.slice (some ⟨g6, 0, none⟩) (l0.length + 2) c6) N10
    have R8 := (((R7.s0 (.int .i64 name)).s1 (.slice none 0 0)).s2 (.int .i64 (-1))).s3 (.slice (some ⟨g6, 0, none⟩) (l0.length + 2) c6)
    obtain ⟨o3, p3⟩ := M6.g3
    obtain ⟨k0, _⟩ := M7.g0
    obtain ⟨k1, _⟩ := M7.g1
    obtain ⟨k2, _⟩ := M7.g2
    obtain ⟨k3, _⟩ := M7.g3
    obtain ⟨r0, q0⟩ := R7.g0
    obtain ⟨r1, q1⟩ := R7.g1
    obtain ⟨r2, q2⟩ := R7.g2
    obtain ⟨r3, q3⟩ := R7.g3
    obtain ⟨e0, _⟩ := R8.g0
    obtain ⟨e1, _⟩ := R8.g1
    obtain ⟨e2, _⟩ := R8.g2
    obtain ⟨e3, _⟩ := R8.g3
    have HOF : Hid ((((((w6.setCell ⟨w.heap.size + 1, 3, none⟩ (.slice (some ⟨g6, 0, none⟩) (l0.length + 2) c6)).setCell ⟨w.heap.size, 0, none⟩ (.int .i64 name)).setCell ⟨w.heap.size, 1, none⟩ (.slice none 0 0)).setCell ⟨w.heap.size, 2, none⟩ (.int .i64 (-1))).setCell ⟨w.heap.size, 3, none⟩ (.slice (some ⟨g6, 0, none⟩) (l0.length + 2) c6)).ownsRow (w.heap.size + 1 + 1) 73 3 (.slice (some ⟨g6, 0, none⟩) (l0.length + 2) c6) (l0 ++ [x, y]).length (flat (l0 ++ [x, y]))) :=
      own_set (own_set (own_set (own_set (own_set O6.out (p := ⟨w.heap.size + 1, 3, none⟩) (Nat.lt_succ_self _) _) (p := ⟨w.heap.size, 0, none⟩) (Nat.lt_succ_of_lt (Nat.lt_succ_self _)) _) (p := ⟨w.heap.size, 1, none⟩) (Nat.lt_succ_of_lt (Nat.lt_succ_self _)) _) (p := ⟨w.heap.size, 2, none⟩) (Nat.lt_succ_of_lt (Nat.lt_succ_self _)) _) (p := ⟨w.heap.size, 3, none⟩) (Nat.lt_succ_of_lt (Nat.lt_succ_self _)) _
    have HAF : Hid (At B w (((((w6.setCell ⟨w.heap.size + 1, 3, none⟩ (.slice (some ⟨g6, 0, none⟩) (l0.length + 2) c6)).setCell ⟨w.heap.size, 0, none⟩ (.int .i64 name)).setCell ⟨w.heap.size, 1, none⟩ (.slice none 0 0)).setCell ⟨w.heap.size, 2, none⟩ (.int .i64 (-1))).setCell ⟨w.heap.size, 3, none⟩ (.slice (some ⟨g6, 0, none⟩) (l0.length + 2) c6)) c a len cap) :=
      ((((A6.out.set hcw (p := ⟨w.heap.size + 1, 3, none⟩) (Nat.le_succ _) _).set hcw (p := ⟨w.heap.size, 0, none⟩) (Nat.le_refl _) _).set hcw (p := ⟨w.heap.size, 1, none⟩) (Nat.le_refl _) _).set hcw (p := ⟨w.heap.size, 2, none⟩) (Nat.le_refl _) _).set hcw (p := ⟨w.heap.size, 3, none⟩) (Nat.le_refl _) _
    clear hown6 hgrow6 hnil6 hb6 M6 R6 M7 R7 R8 A6 O6 z3 y3 N10 MZ RZ OZ OLZ AZ HSL HV6
    go_wp2
    refine bodyPost_ret (v := .agg #[.int .i64 name, .slice none 0 0, .int .i64 (-1), .slice (some ⟨g6, 0, none⟩) (l0.length + 2) c6]) (by simp [results, Tryz.results62, go_sem, e0, e1, e2, e3]) rfl ?_
    have hlf : (l0 ++ [x, y]).length = l0.length + 2 := by simp
    refine ⟨g6, c6, l0 ++ [x, y], by rw [hlf], ?_, by rw [hlf]; omega, HFZ.out, HAF.out⟩
    rw [hlf]
    exact got_of (own_base HOF.out (by omega)) (by simp)
  · by_cases hn : l0.length < 32
    · generalize hY : w4.setCell ⟨w.heap.size + 1, 3, none⟩ (.slice (some ⟨gv, 0, none⟩) l0.length cv) = wY at *
      have hnI : (l0.length : Int) < 32 := by omega
      go_wp2_with fail
      refine (below_at B c _ _ a len cap _ (At.start AY.out.2)).mono ?_
      rintro e w5 ⟨k, rfl, hk0', _, hk2, _, h5⟩
      have hk5 := hk2 (by omega)
      clear hY m4 f4 hk2
      have M5 : Hid (Pg.Cells w5 (w.heap.size + 1) [.int .i64 name, .slice none 0 0, .int .i64 (-1), .slice (some ⟨gv, 0, none⟩) l0.length cv]) := cells_touch MY.out h5.1 hk1
      have R5 : Hid (Pg.Cells w5 w.heap.size [.int .i64 0, .slice none 0 0, .int .i64 0, .slice none 0 0]) := cells_touch RY.out h5.1 hk0
      have O5 : Hid (w5.ownsRow (w.heap.size + 1 + 1) 73 3 (.slice (some ⟨gv, 0, none⟩) l0.length cv) l0.length (flat l0)) := own_touch OY.out h5.1 (by omega)
      have OL5 : Hid (w5.ownsRow (w.heap.size + 1 + 1) 73 3 (.slice (some ⟨gl, 0, none⟩) 2 cl) 2 (flat [x, y])) := own_touch OLY.out h5.1 (by omega)
      have A5 : Hid (At B w w5 c a len cap) := AY.out.step h5
      clear MY RY OY OLY AY h5
      go_wp2_with fail
      refine (below_at B c _ _ a len cap _ (At.start A5.out.2)).mono ?_
      rintro e w6 ⟨r, rfl, hr0, _, hr2, _, h6⟩
      have hr4 := hr2 (by omega)
      clear hr2
      have M6 : Hid (Pg.Cells w6 (w.heap.size + 1) [.int .i64 name, .slice none 0 0, .int .i64 (-1), .slice (some ⟨gv, 0, none⟩) l0.length cv]) := cells_touch M5.out h6.1 hk1
      have R6 : Hid (Pg.Cells w6 w.heap.size [.int .i64 0, .slice none 0 0, .int .i64 0, .slice none 0 0]) := cells_touch R5.out h6.1 hk0
      have O6 : Hid (w6.ownsRow (w.heap.size + 1 + 1) 73 3 (.slice (some ⟨gv, 0, none⟩) l0.length cv) l0.length (flat l0)) := own_touch O5.out h6.1 (by omega)
      have OL6 : Hid (w6.ownsRow (w.heap.size + 1 + 1) 73 3 (.slice (some ⟨gl, 0, none⟩) 2 cl) 2 (flat [x, y])) := own_touch OL5.out h6.1 (by omega)
      have A6 : Hid (At B w w6 c a len cap) := A5.out.step h6
      clear M5 R5 O5 OL5 A5 h6
      have hz6 : w.heap.size + 1 + 1 ≤ w6.heap.size := by
        have := OL6.out.lt gl rfl
        omega
      rcases (show r = 0 ∨ r = 1 ∨ r = 2 ∨ r = 3 by omega) with rfl | rfl | rfl | rfl
      · obtain ⟨m6, f6⟩ := M6.out.g3
        go_wp2_with (at_builtin; refine wpList_append_own _ rfl _ _ 33 rfl (w.heap.size + 1 + 1) 73 i0 (.agg #[.int .i64 0, .int .i64 0, .int .i64 0]) 3 24 Tryz.underlying33 hi hz0 hz1 hz2 rfl (by decide) _ _ _ rfl (O6.out.alloc _) ⟨w6.heap.size, 0, none⟩ 3 3 (flat [(14, k, 0), (17, k, 1), (19, 0, 0)]) rfl rfl (lit_flat w6 [(14, k, 0), (17, k, 1), (19, 0, 0)] _ _ rfl) (flat_one _) (by unfold maxLen; omega) (by omega) (by simp; omega) ?_)
        intro v7 w7 hown7 hgrow7 hnil7
        have hb7 : Below (w.heap.size + 1 + 1) w6 w7 := ((Below.refl _ _).alloc hz6 _).grown hgrow7 (by simp; omega) (fun g hg => (O6.out.lt g hg).1)
        have HV7 : Hid (v7 ≠ .slice none 0 0) := fun h => by first | exact hnil7 h | exact absurd (hnil7.1 h).1 (by simp)
        have OL7 : w7.ownsRow (w.heap.size + 1 + 1) 73 3 (.slice (some ⟨gl, 0, none⟩) 2 cl) 2 (flat [x, y]) := own_grown (OL6.out.alloc _) hgrow7 (fun h => HNE.out (by simpa [Value.ownBlock] using h))
        obtain ⟨g7, c7, rfl, hB7⟩ := own_shape hown7 HV7.out
        obtain ⟨lz, hlz⟩ : ∃ lz, lz = l0 ++ [(14, k, 0), (17, k, 1), (19, 0, 0)] := ⟨_, rfl⟩
        have hln : lz.length = l0.length + 3 := by rw [hlz]; simp
        have HFZ : Hid (Fits (lz ++ [x, y])) := by
          show Fits _
          rw [hlz, List.append_assoc]
          exact fits_mid HF0.out (by simp only [Fits, FitsI, and_true]; omega)
        have O7 : w7.ownsRow (w.heap.size + 1 + 1) 73 3 (.slice (some ⟨g7, 0, none⟩) lz.length c7) lz.length (flat lz) := by
          rw [hln, hlz, flat_append]; exact hown7
        have hlz40 : lz.length ≤ 40 := by omega
        rw [show l0.length + 3 = lz.length from hln.symm]
        have M7 := cells_low M6.out hb7 (by omega)
        have R7 := cells_low R6.out hb7 (by omega)
        have A7 := A6.out.low hcw (below_cut hb7 (by omega))
        obtain ⟨m7, f7⟩ := M7.g3
        have N10 : (⟨w.heap.size + 1, 3, none⟩ : Addr).block ≠ w.heap.size := by show w.heap.size + 1 ≠ w.heap.size; omega
        have MZ : Hid (Pg.Cells (w7.setCell ⟨w.heap.size + 1, 3, none⟩ (.slice (some ⟨g7, 0, none⟩) lz.length c7)) (w.heap.size + 1) [.int .i64 name, .slice none 0 0, .int .i64 (-1), .slice (some ⟨g7, 0, none⟩) lz.length c7]) := M7.s3 _
        have RZ : Hid (Pg.Cells (w7.setCell ⟨w.heap.size + 1, 3, none⟩ (.slice (some ⟨g7, 0, none⟩) lz.length c7)) w.heap.size [.int .i64 0, .slice none 0 0, .int .i64 0, .slice none 0 0]) := R7.far ⟨w.heap.size + 1, 3, none⟩ (.slice (some ⟨g7, 0, none⟩) lz.length c7) N10
        have OZ : Hid ((w7.setCell ⟨w.heap.size + 1, 3, none⟩ (.slice (some ⟨g7, 0, none⟩) lz.length c7)).ownsRow (w.heap.size + 1 + 1) 73 3 (.slice (some ⟨g7, 0, none⟩) lz.length c7) lz.length (flat lz)) := own_set O7 (p := ⟨w.heap.size + 1, 3, none⟩) (Nat.lt_succ_self _) _
        have OLZ : Hid ((w7.setCell ⟨w.heap.size + 1, 3, none⟩ (.slice (some ⟨g7, 0, none⟩) lz.length c7)).ownsRow (w.heap.size + 1 + 1) 73 3 (.slice (some ⟨gl, 0, none⟩) 2 cl) 2 (flat [x, y])) := own_set OL7 (p := ⟨w.heap.size + 1, 3, none⟩) (Nat.lt_succ_self _) _
        have AZ : Hid (At B w (w7.setCell ⟨w.heap.size + 1, 3, none⟩ (.slice (some ⟨g7, 0, none⟩) lz.length c7)) c a len cap) := A7.set hcw (p := ⟨w.heap.size + 1, 3, none⟩) (Nat.le_succ _) _
        clear hown7 hgrow7 hnil7 hb7 HV7 M7 R7 A7 O7 OL7 M6 R6 O6 OL6 A6 N10 m6 f6 hln
        generalize hZ : w7.setCell ⟨w.heap.size + 1, 3, none⟩ (.slice (some ⟨g7, 0, none⟩) lz.length c7) = Z at *
        have HLZ : Hid (lz = l0 ++ [(14, k, 0), (17, k, 1), (19, 0, 0)]) := hlz
        clear hlz
        have HSL : Hid (∀ j u, (flat [x, y])[j]? = some u → Z.cell? ((⟨gl, 0, none⟩ : Addr).add j) = some u) := own_src OLZ.out
        obtain ⟨z3, y3⟩ := MZ.out.g3
        have hzZ : w.heap.size + 1 + 1 ≤ Z.heap.size := by
          have := OLZ.out.lt gl rfl
          omega
        go_wp2_with (at_builtin; refine wpList_append_own _ rfl _ _ 33 rfl (w.heap.size + 1 + 1) 73 i0 (.agg #[.int .i64 0, .int .i64 0, .int .i64 0]) 3 24 Tryz.underlying33 hi hz0 hz1 hz2 rfl (by decide) _ _ _ rfl OZ.out ⟨gl, 0, none⟩ 2 cl (flat [x, y]) rfl rfl HSL.out (flat_one _) (by unfold maxLen; omega) (by omega) hzZ ?_)
        intro v6 w6 hown6 hgrow6 hnil6
        have hb6 : Below (w.heap.size + 1 + 1) Z w6 := (Below.refl _ _).grown hgrow6 hzZ (fun g hg => (OZ.out.lt g hg).1)
        have HV6 : Hid (v6 ≠ .slice none 0 0) := fun h => by first | exact hnil6 h | exact absurd (hnil6.1 h).1 (by simp)
        obtain ⟨g6, c6, rfl, hB6⟩ := own_shape hown6 HV6.out
        have O6 : Hid (w6.ownsRow (w.heap.size + 1 + 1) 73 3 (.slice (some ⟨g6, 0, none⟩) (lz.length + 2) c6) (lz ++ [x, y]).length (flat (lz ++ [x, y]))) := by
          show World.ownsRow _ _ _ _ _ _ _
          rw [flat_append, List.length_append]; exact hown6
        have M6 := cells_low MZ.out hb6 (by omega)
        have R6 := cells_low RZ.out hb6 (by omega)
        have A6 : Hid (At B w w6 c a len cap) := AZ.out.low hcw (below_cut hb6 (by omega))
        have N10 : (⟨w.heap.size + 1, 3, none⟩ : Addr).block ≠ w.heap.size := by show w.heap.size + 1 ≠ w.heap.size; omega
        have M7 := M6.s3 (.slice (some ⟨g6, 0, none⟩) (lz.length + 2) c6)
        have R7 := R6.far ⟨w.heap.size + 1, 3, none⟩ (.slice (some ⟨g6, 0, none⟩) (lz.length + 2) c6) N10
        have R8 := (((R7.s0 (.int .i64 name)).s1 (.slice none 0 0)).s2 (.int .i64 (-1))).s3 (.slice (some ⟨g6, 0, none⟩) (lz.length + 2) c6)
        obtain ⟨o3, p3⟩ := M6.g3
        obtain ⟨k0, _⟩ := M7.g0
        obtain ⟨k1, _⟩ := M7.g1
        obtain ⟨k2, _⟩ := M7.g2
        obtain ⟨k3, _⟩ := M7.g3
        obtain ⟨r0, q0⟩ := R7.g0
        obtain ⟨r1, q1⟩ := R7.g1
        obtain ⟨r2, q2⟩ := R7.g2
        obtain ⟨r3, q3⟩ := R7.g3
        obtain ⟨e0, _⟩ := R8.g0
        obtain ⟨e1, _⟩ := R8.g1
        obtain ⟨e2, _⟩ := R8.g2
        obtain ⟨e3, _⟩ := R8.g3
        have HOF : Hid ((((((w6.setCell ⟨w.heap.size + 1, 3, none⟩ (.slice (some ⟨g6, 0, none⟩) (lz.length + 2) c6)).setCell ⟨w.heap.size, 0, none⟩ (.int .i64 name)).setCell ⟨w.heap.size, 1, none⟩ (.slice none 0 0)).setCell ⟨w.heap.size, 2, none⟩ (.int .i64 (-1))).setCell ⟨w.heap.size, 3, none⟩ (.slice (some ⟨g6, 0, none⟩) (lz.length + 2) c6)).ownsRow (w.heap.size + 1 + 1) 73 3 (.slice (some ⟨g6, 0, none⟩) (lz.length + 2) c6) (lz ++ [x, y]).length (flat (lz ++ [x, y]))) :=
          own_set (own_set (own_set (own_set (own_set O6.out (p := ⟨w.heap.size + 1, 3, none⟩) (Nat.lt_succ_self _) _) (p := ⟨w.heap.size, 0, none⟩) (Nat.lt_succ_of_lt (Nat.lt_succ_self _)) _) (p := ⟨w.heap.size, 1, none⟩) (Nat.lt_succ_of_lt (Nat.lt_succ_self _)) _) (p := ⟨w.heap.size, 2, none⟩) (Nat.lt_succ_of_lt (Nat.lt_succ_self _)) _) (p := ⟨w.heap.size, 3, none⟩) (Nat.lt_succ_of_lt (Nat.lt_succ_self _)) _
        have HAF : Hid (At B w (((((w6.setCell ⟨w.heap.size + 1, 3, none⟩ (.slice (some ⟨g6, 0, none⟩) (lz.length + 2) c6)).setCell ⟨w.heap.size, 0, none⟩ (.int .i64 name)).setCell ⟨w.heap.size, 1, none⟩ (.slice none 0 0)).setCell ⟨w.heap.size, 2, none⟩ (.int .i64 (-1))).setCell ⟨w.heap.size, 3, none⟩ (.slice (some ⟨g6, 0, none⟩) (lz.length + 2) c6)) c a len cap) :=
          ((((A6.out.set hcw (p := ⟨w.heap.size + 1, 3, none⟩) (Nat.le_succ _) _).set hcw (p := ⟨w.heap.size, 0, none⟩) (Nat.le_refl _) _).set hcw (p := ⟨w.heap.size, 1, none⟩) (Nat.le_refl _) _).set hcw (p := ⟨w.heap.size, 2, none⟩) (Nat.le_refl _) _).set hcw (p := ⟨w.heap.size, 3, none⟩) (Nat.le_refl _) _
        clear hown6 hgrow6 hnil6 hb6 M6 R6 M7 R7 R8 A6 O6 z3 y3 N10 MZ RZ OZ OLZ AZ HSL HV6
        go_wp2
        refine bodyPost_ret (v := .agg #[.int .i64 name, .slice none 0 0, .int .i64 (-1), .slice (some ⟨g6, 0, none⟩) (lz.length + 2) c6]) (by simp [results, Tryz.results62, go_sem, e0, e1, e2, e3]) rfl ?_
        have hlf : (lz ++ [x, y]).length = lz.length + 2 := by simp
        refine ⟨g6, c6, lz ++ [x, y], by rw [hlf], ?_, by rw [hlf]; omega, HFZ.out, HAF.out⟩
        rw [hlf]
        exact got_of (own_base HOF.out (by omega)) (by simp)
      · obtain ⟨m6, f6⟩ := M6.out.g3
        go_wp2_with (at_builtin; refine wpList_append_own _ rfl _ _ 33 rfl (w.heap.size + 1 + 1) 73 i0 (.agg #[.int .i64 0, .int .i64 0, .int .i64 0]) 3 24 Tryz.underlying33 hi hz0 hz1 hz2 rfl (by decide) _ _ _ rfl (O6.out.alloc _) ⟨w6.heap.size, 0, none⟩ 3 3 (flat [(14, k, 0), (15, k, 0), (19, 0, 0)]) rfl rfl (lit_flat w6 [(14, k, 0), (15, k, 0), (19, 0, 0)] _ _ rfl) (flat_one _) (by unfold maxLen; omega) (by omega) (by simp; omega) ?_)
        intro v7 w7 hown7 hgrow7 hnil7
        have hb7 : Below (w.heap.size + 1 + 1) w6 w7 := ((Below.refl _ _).alloc hz6 _).grown hgrow7 (by simp; omega) (fun g hg => (O6.out.lt g hg).1)
        have HV7 : Hid (v7 ≠ .slice none 0 0) := fun h => by first | exact hnil7 h | exact absurd (hnil7.1 h).1 (by simp)
        have OL7 : w7.ownsRow (w.heap.size + 1 + 1) 73 3 (.slice (some ⟨gl, 0, none⟩) 2 cl) 2 (flat [x, y]) := own_grown (OL6.out.alloc _) hgrow7 (fun h => HNE.out (by simpa [Value.ownBlock] using h))
        obtain ⟨g7, c7, rfl, hB7⟩ := own_shape hown7 HV7.out
        obtain ⟨lz, hlz⟩ : ∃ lz, lz = l0 ++ [(14, k, 0), (15, k, 0), (19, 0, 0)] := ⟨_, rfl⟩
        have hln : lz.length = l0.length + 3 := by rw [hlz]; simp
        have HFZ : Hid (Fits (lz ++ [x, y])) := by
          show Fits _
          rw [hlz, List.append_assoc]
          exact fits_mid HF0.out (by simp only [Fits, FitsI, and_true]; omega)
        have O7 : w7.ownsRow (w.heap.size + 1 + 1) 73 3 (.slice (some ⟨g7, 0, none⟩) lz.length c7) lz.length (flat lz) := by
          rw [hln, hlz, flat_append]; exact hown7
        have hlz40 : lz.length ≤ 40 := by omega
        rw [show l0.length + 3 = lz.length from hln.symm]
        have M7 := cells_low M6.out hb7 (by omega)
        have R7 := cells_low R6.out hb7 (by omega)
        have A7 := A6.out.low hcw (below_cut hb7 (by omega))
        obtain ⟨m7, f7⟩ := M7.g3
        have N10 : (⟨w.heap.size + 1, 3, none⟩ : Addr).block ≠ w.heap.size := by show w.heap.size + 1 ≠ w.heap.size; omega
        have MZ : Hid (Pg.Cells (w7.setCell ⟨w.heap.size + 1, 3, none⟩ (.slice (some ⟨g7, 0, none⟩) lz.length c7)) (w.heap.size + 1) [.int .i64 name, .slice none 0 0, .int .i64 (-1), .slice (some ⟨g7, 0, none⟩) lz.length c7]) := M7.s3 _
        have RZ : Hid (Pg.Cells (w7.setCell ⟨w.heap.size + 1, 3, none⟩ (.slice (some ⟨g7, 0, none⟩) lz.length c7)) w.heap.size [.int .i64 0, .slice none 0 0, .int .i64 0, .slice none 0 0]) := R7.far ⟨w.heap.size + 1, 3, none⟩ (.slice (some ⟨g7, 0, none⟩) lz.length c7) N10
        have OZ : Hid ((w7.setCell ⟨w.heap.size + 1, 3, none⟩ (.slice (some ⟨g7, 0, none⟩) lz.length c7)).ownsRow (w.heap.size + 1 + 1) 73 3 (.slice (some ⟨g7, 0, none⟩) lz.length c7) lz.length (flat lz)) := own_set O7 (p := ⟨w.heap.size + 1, 3, none⟩) (Nat.lt_succ_self _) _
        have OLZ : Hid ((w7.setCell ⟨w.heap.size + 1, 3, none⟩ (.slice (some ⟨g7, 0, none⟩) lz.length c7)).ownsRow (w.heap.size + 1 + 1) 73 3 (.slice (some ⟨gl, 0, none⟩) 2 cl) 2 (flat [x, y])) := own_set OL7 (p := ⟨w.heap.size + 1, 3, none⟩) (Nat.lt_succ_self _) _
        have AZ : Hid (At B w (w7.setCell ⟨w.heap.size + 1, 3, none⟩ (.slice (some ⟨g7, 0, none⟩) lz.length c7)) c a len cap) := A7.set hcw (p := ⟨w.heap.size + 1, 3, none⟩) (Nat.le_succ _) _
        clear hown7 hgrow7 hnil7 hb7 HV7 M7 R7 A7 O7 OL7 M6 R6 O6 OL6 A6 N10 m6 f6 hln
        generalize hZ : w7.setCell ⟨w.heap.size + 1, 3, none⟩ (.slice (some ⟨g7, 0, none⟩) lz.length c7) = Z at *
        have HLZ : Hid (lz = l0 ++ [(14, k, 0), (15, k, 0), (19, 0, 0)]) := hlz
        clear hlz
        have HSL : Hid (∀ j u, (flat [x, y])[j]? = some u → Z.cell? ((⟨gl, 0, none⟩ : Addr).add j) = some u) := own_src OLZ.out
        obtain ⟨z3, y3⟩ := MZ.out.g3
        have hzZ : w.heap.size + 1 + 1 ≤ Z.heap.size := by
          have := OLZ.out.lt gl rfl
          omega
        go_wp2_with (at_builtin; refine wpList_append_own _ rfl _ _ 33 rfl (w.heap.size + 1 + 1) 73 i0 (.agg #[.int .i64 0, .int .i64 0, .int .i64 0]) 3 24 Tryz.underlying33 hi hz0 hz1 hz2 rfl (by decide) _ _ _ rfl OZ.out ⟨gl, 0, none⟩ 2 cl (flat [x, y]) rfl rfl HSL.out (flat_one _) (by unfold maxLen; omega) (by omega) hzZ ?_)
        intro v6 w6 hown6 hgrow6 hnil6
        have hb6 : Below (w.heap.size + 1 + 1) Z w6 := (Below.refl _ _).grown hgrow6 hzZ (fun g hg => (OZ.out.lt g hg).1)
        have HV6 : Hid (v6 ≠ .slice none 0 0) := fun h => by first | exact hnil6 h | exact absurd (hnil6.1 h).1 (by simp)
        obtain ⟨g6, c6, rfl, hB6⟩ := own_shape hown6 HV6.out
        have O6 : Hid (w6.ownsRow (w.heap.size + 1 + 1) 73 3 (.slice (some ⟨g6, 0, none⟩) (lz.length + 2) c6) (lz ++ [x, y]).length (flat (lz ++ [x, y]))) := by
          show World.ownsRow _ _ _ _ _ _ _
          rw [flat_append, List.length_append]; exact hown6
        have M6 := cells_low MZ.out hb6 (by omega)
        have R6 := cells_low RZ.out hb6 (by omega)
        have A6 : Hid (At B w w6 c a len cap) := AZ.out.low hcw (below_cut hb6 (by omega))
        have N10 : (⟨w.heap.size + 1, 3, none⟩ : Addr).block ≠ w.heap.size := by show w.heap.size + 1 ≠ w.heap.size; omega
        have M7 := M6.s3 (.slice (some ⟨g6, 0, none⟩) (lz.length + 2) c6)
        have R7 := R6.far ⟨w.heap.size + 1, 3, none⟩ (.slice (some ⟨g6, 0, none⟩) (lz.length + 2) c6) N10
        have R8 := (((R7.s0 (.int .i64 name)).s1 (.slice none 0 0)).s2 (.int .i64 (-1))).s3 (.slice (some ⟨g6, 0, none⟩) (lz.length + 2) c6)
        obtain ⟨o3, p3⟩ := M6.g3
        obtain ⟨k0, _⟩ := M7.g0
        obtain ⟨k1, _⟩ := M7.g1
        obtain ⟨k2, _⟩ := M7.g2
        obtain ⟨k3, _⟩ := M7.g3
        obtain ⟨r0, q0⟩ := R7.g0
        obtain ⟨r1, q1⟩ := R7.g1
        obtain ⟨r2, q2⟩ := R7.g2
        obtain ⟨r3, q3⟩ := R7.g3
        obtain ⟨e0, _⟩ := R8.g0
        obtain ⟨e1, _⟩ := R8.g1
        obtain ⟨e2, _⟩ := R8.g2
        obtain ⟨e3, _⟩ := R8.g3
        have HOF : Hid ((((((w6.setCell ⟨w.heap.size + 1, 3, none⟩ (.slice (some ⟨g6, 0, none⟩) (lz.length + 2) c6)).setCell ⟨w.heap.size, 0, none⟩ (.int .i64 name)).setCell ⟨w.heap.size, 1, none⟩ (.slice none 0 0)).setCell ⟨w.heap.size, 2, none⟩ (.int .i64 (-1))).setCell ⟨w.heap.size, 3, none⟩ (.slice (some ⟨g6, 0, none⟩) (lz.length + 2) c6)).ownsRow (w.heap.size + 1 + 1) 73 3 (.slice (some ⟨g6, 0, none⟩) (lz.length + 2) c6) (lz ++ [x, y]).length (flat (lz ++ [x, y]))) :=
          own_set (own_set (own_set (own_set (own_set O6.out (p := ⟨w.heap.size + 1, 3, none⟩) (Nat.lt_succ_self _) _) (p := ⟨w.heap.size, 0, none⟩) (Nat.lt_succ_of_lt (Nat.lt_succ_self _)) _) (p := ⟨w.heap.size, 1, none⟩) (Nat.lt_succ_of_lt (Nat.lt_succ_self _)) _) (p := ⟨w.heap.size, 2, none⟩) (Nat.lt_succ_of_lt (Nat.lt_succ_self _)) _) (p := ⟨w.heap.size, 3, none⟩) (Nat.lt_succ_of_lt (Nat.lt_succ_self _)) _
        have HAF : Hid (At B w (((((w6.setCell ⟨w.heap.size + 1, 3, none⟩ (.slice (some ⟨g6, 0, none⟩) (lz.length + 2) c6)).setCell ⟨w.heap.size, 0, none⟩ (.int .i64 name)).setCell ⟨w.heap.size, 1, none⟩ (.slice none 0 0)).setCell ⟨w.heap.size, 2, none⟩ (.int .i64 (-1))).setCell ⟨w.heap.size, 3, none⟩ (.slice (some ⟨g6, 0, none⟩) (lz.length + 2) c6)) c a len cap) :=
          ((((A6.out.set hcw (p := ⟨w.heap.size + 1, 3, none⟩) (Nat.le_succ _) _).set hcw (p := ⟨w.heap.size, 0, none⟩) (Nat.le_refl _) _).set hcw (p := ⟨w.heap.size, 1, none⟩) (Nat.le_refl _) _).set hcw (p := ⟨w.heap.size, 2, none⟩) (Nat.le_refl _) _).set hcw (p := ⟨w.heap.size, 3, none⟩) (Nat.le_refl _) _
        clear hown6 hgrow6 hnil6 hb6 M6 R6 M7 R7 R8 A6 O6 z3 y3 N10 MZ RZ OZ OLZ AZ HSL HV6
        go_wp2
        refine bodyPost_ret (v := .agg #[.int .i64 name, .slice none 0 0, .int .i64 (-1), .slice (some ⟨g6, 0, none⟩) (lz.length + 2) c6]) (by simp [results, Tryz.results62, go_sem, e0, e1, e2, e3]) rfl ?_
        have hlf : (lz ++ [x, y]).length = lz.length + 2 := by simp
        refine ⟨g6, c6, lz ++ [x, y], by rw [hlf], ?_, by rw [hlf]; omega, HFZ.out, HAF.out⟩
        rw [hlf]
        exact got_of (own_base HOF.out (by omega)) (by simp)
      · obtain ⟨m6, f6⟩ := M6.out.g3
        go_wp2_with (at_builtin; refine wpList_append_own _ rfl _ _ 33 rfl (w.heap.size + 1 + 1) 73 i0 (.agg #[.int .i64 0, .int .i64 0, .int .i64 0]) 3 24 Tryz.underlying33 hi hz0 hz1 hz2 rfl (by decide) _ _ _ rfl (O6.out.alloc _) ⟨w6.heap.size, 0, none⟩ 6 6 (flat [(14, k, 0), (8, 0, 0), (1, 5, 0), (16, k, 0), (15, k, 0), (19, 0, 0)]) rfl rfl (lit_flat w6 [(14, k, 0), (8, 0, 0), (1, 5, 0), (16, k, 0), (15, k, 0), (19, 0, 0)] _ _ rfl) (flat_one _) (by unfold maxLen; omega) (by omega) (by simp; omega) ?_)
        intro v7 w7 hown7 hgrow7 hnil7
        have hb7 : Below (w.heap.size + 1 + 1) w6 w7 := ((Below.refl _ _).alloc hz6 _).grown hgrow7 (by simp; omega) (fun g hg => (O6.out.lt g hg).1)
        have HV7 : Hid (v7 ≠ .slice none 0 0) := fun h => by first | exact hnil7 h | exact absurd (hnil7.1 h).1 (by simp)
        have OL7 : w7.ownsRow (w.heap.size + 1 + 1) 73 3 (.slice (some ⟨gl, 0, none⟩) 2 cl) 2 (flat [x, y]) := own_grown (OL6.out.alloc _) hgrow7 (fun h => HNE.out (by simpa [Value.ownBlock] using h))
        obtain ⟨g7, c7, rfl, hB7⟩ := own_shape hown7 HV7.out
        obtain ⟨lz, hlz⟩ : ∃ lz, lz = l0 ++ [(14, k, 0), (8, 0, 0), (1, 5, 0), (16, k, 0), (15, k, 0), (19, 0, 0)] := ⟨_, rfl⟩
        have hln : lz.length = l0.length + 6 := by rw [hlz]; simp
        have HFZ : Hid (Fits (lz ++ [x, y])) := by
          show Fits _
          rw [hlz, List.append_assoc]
          exact fits_mid HF0.out (by simp only [Fits, FitsI, and_true]; omega)
        have O7 : w7.ownsRow (w.heap.size + 1 + 1) 73 3 (.slice (some ⟨g7, 0, none⟩) lz.length c7) lz.length (flat lz) := by
          rw [hln, hlz, flat_append]; exact hown7
        have hlz40 : lz.length ≤ 40 := by omega
        rw [show l0.length + 6 = lz.length from hln.symm]
        have M7 := cells_low M6.out hb7 (by omega)
        have R7 := cells_low R6.out hb7 (by omega)
        have A7 := A6.out.low hcw (below_cut hb7 (by omega))
        obtain ⟨m7, f7⟩ := M7.g3
        have N10 : (⟨w.heap.size + 1, 3, none⟩ : Addr).block ≠ w.heap.size := by show w.heap.size + 1 ≠ w.heap.size; omega
        have MZ : Hid (Pg.Cells (w7.setCell ⟨w.heap.size + 1, 3, none⟩ (.slice (some ⟨g7, 0, none⟩) lz.length c7)) (w.heap.size + 1) [.int .i64 name, .slice none 0 0, .int .i64 (-1), .slice (some ⟨g7, 0, none⟩) lz.length c7]) := M7.s3 _
        have RZ : Hid (Pg.Cells (w7.setCell ⟨w.heap.size + 1, 3, none⟩ (.slice (some ⟨g7, 0, none⟩) lz.length c7)) w.heap.size [.int .i64 0, .slice none 0 0, .int .i64 0, .slice none 0 0]) := R7.far ⟨w.heap.size + 1, 3, none⟩ (.slice (some ⟨g7, 0, none⟩) lz.length c7) N10
        have OZ : Hid ((w7.setCell ⟨w.heap.size + 1, 3, none⟩ (.slice (some ⟨g7, 0, none⟩) lz.length c7)).ownsRow (w.heap.size + 1 + 1) 73 3 (.slice (some ⟨g7, 0, none⟩) lz.length c7) lz.length (flat lz)) := own_set O7 (p := ⟨w.heap.size + 1, 3, none⟩) (Nat.lt_succ_self _) _
        have OLZ : Hid ((w7.setCell ⟨w.heap.size + 1, 3, none⟩ (.slice (some ⟨g7, 0, none⟩) lz.length c7)).ownsRow (w.heap.size + 1 + 1) 73 3 (.slice (some ⟨gl, 0, none⟩) 2 cl) 2 (flat [x, y])) := own_set OL7 (p := ⟨w.heap.size + 1, 3, none⟩) (Nat.lt_succ_self _) _
        have AZ : Hid (At B w (w7.setCell ⟨w.heap.size + 1, 3, none⟩ (.slice (some ⟨g7, 0, none⟩) lz.length c7)) c a len cap) := A7.set hcw (p := ⟨w.heap.size + 1, 3, none⟩) (Nat.le_succ _) _
        clear hown7 hgrow7 hnil7 hb7 HV7 M7 R7 A7 O7 OL7 M6 R6 O6 OL6 A6 N10 m6 f6 hln
        generalize hZ : w7.setCell ⟨w.heap.size + 1, 3, none⟩ (.slice (some ⟨g7, 0, none⟩) lz.length c7) = Z at *
        have HLZ : Hid (lz = l0 ++ [(14, k, 0), (8, 0, 0), (1, 5, 0), (16, k, 0), (15, k, 0), (19, 0, 0)]) := hlz
        clear hlz
        have HSL : Hid (∀ j u, (flat [x, y])[j]? = some u → Z.cell? ((⟨gl, 0, none⟩ : Addr).add j) = some u) := own_src OLZ.out
        obtain ⟨z3, y3⟩ := MZ.out.g3
        have hzZ : w.heap.size + 1 + 1 ≤ Z.heap.size := by
          have := OLZ.out.lt gl rfl
          omega
        go_wp2_with (at_builtin; refine wpList_append_own _ rfl _ _ 33 rfl (w.heap.size + 1 + 1) 73 i0 (.agg #[.int .i64 0, .int .i64 0, .int .i64 0]) 3 24 Tryz.underlying33 hi hz0 hz1 hz2 rfl (by decide) _ _ _ rfl OZ.out ⟨gl, 0, none⟩ 2 cl (flat [x, y]) rfl rfl HSL.out (flat_one _) (by unfold maxLen; omega) (by omega) hzZ ?_)
        intro v6 w6 hown6 hgrow6 hnil6
        have hb6 : Below (w.heap.size + 1 + 1) Z w6 := (Below.refl _ _).grown hgrow6 hzZ (fun g hg => (OZ.out.lt g hg).1)
        have HV6 : Hid (v6 ≠ .slice none 0 0) := fun h => by first | exact hnil6 h | exact absurd (hnil6.1 h).1 (by simp)
        obtain ⟨g6, c6, rfl, hB6⟩ := own_shape hown6 HV6.out
        have O6 : Hid (w6.ownsRow (w.heap.size + 1 + 1) 73 3 (.slice (some ⟨g6, 0, none⟩) (lz.length + 2) c6) (lz ++ [x, y]).length (flat (lz ++ [x, y]))) := by
          show World.ownsRow _ _ _ _ _ _ _
          rw [flat_append, List.length_append]; exact hown6
        have M6 := cells_low MZ.out hb6 (by omega)
        have R6 := cells_low RZ.out hb6 (by omega)
        have A6 : Hid (At B w w6 c a len cap) := AZ.out.low hcw (below_cut hb6 (by omega))
        have N10 : (⟨w.heap.size + 1, 3, none⟩ : Addr).block ≠ w.heap.size := by show w.heap.size + 1 ≠ w.heap.size; omega
        have M7 := M6.s3 (.slice (some ⟨g6, 0, none⟩) (lz.length + 2) c6)
        have R7 := R6.far ⟨w.heap.size + 1, 3, none⟩ (.slice (some ⟨g6, 0, none⟩) (lz.length + 2) c6) N10
        have R8 := (((R7.s0 (.int .i64 name)).s1 (.slice none 0 0)).s2 (.int .i64 (-1))).s3 (.slice (some ⟨g6, 0, none⟩) (lz.length + 2) c6)
        obtain ⟨o3, p3⟩ := M6.g3
        obtain ⟨k0, _⟩ := M7.g0
        obtain ⟨k1, _⟩ := M7.g1
        obtain ⟨k2, _⟩ := M7.g2
        obtain ⟨k3, _⟩ := M7.g3
        obtain ⟨r0, q0⟩ := R7.g0
        obtain ⟨r1, q1⟩ := R7.g1
        obtain ⟨r2, q2⟩ := R7.g2
        obtain ⟨r3, q3⟩ := R7.g3
        obtain ⟨e0, _⟩ := R8.g0
        obtain ⟨e1, _⟩ := R8.g1
        obtain ⟨e2, _⟩ := R8.g2
        obtain ⟨e3, _⟩ := R8.g3
        have HOF : Hid ((((((w6.setCell ⟨w.heap.size + 1, 3, none⟩ (.slice (some ⟨g6, 0, none⟩) (lz.length + 2) c6)).setCell ⟨w.heap.size, 0, none⟩ (.int .i64 name)).setCell ⟨w.heap.size, 1, none⟩ (.slice none 0 0)).setCell ⟨w.heap.size, 2, none⟩ (.int .i64 (-1))).setCell ⟨w.heap.size, 3, none⟩ (.slice (some ⟨g6, 0, none⟩) (lz.length + 2) c6)).ownsRow (w.heap.size + 1 + 1) 73 3 (.slice (some ⟨g6, 0, none⟩) (lz.length + 2) c6) (lz ++ [x, y]).length (flat (lz ++ [x, y]))) :=
          own_set (own_set (own_set (own_set (own_set O6.out (p := ⟨w.heap.size + 1, 3, none⟩) (Nat.lt_succ_self _) _) (p := ⟨w.heap.size, 0, none⟩) (Nat.lt_succ_of_lt (Nat.lt_succ_self _)) _) (p := ⟨w.heap.size, 1, none⟩) (Nat.lt_succ_of_lt (Nat.lt_succ_self _)) _) (p := ⟨w.heap.size, 2, none⟩) (Nat.lt_succ_of_lt (Nat.lt_succ_self _)) _) (p := ⟨w.heap.size, 3, none⟩) (Nat.lt_succ_of_lt (Nat.lt_succ_self _)) _
        have HAF : Hid (At B w (((((w6.setCell ⟨w.heap.size + 1, 3, none⟩ (.slice (some ⟨g6, 0, none⟩) (lz.length + 2) c6)).setCell ⟨w.heap.size, 0, none⟩ (.int .i64 name)).setCell ⟨w.heap.size, 1, none⟩ (.slice none 0 0)).setCell ⟨w.heap.size, 2, none⟩ (.int .i64 (-1))).setCell ⟨w.heap.size, 3, none⟩ (.slice (some ⟨g6, 0, none⟩) (lz.length + 2) c6)) c a len cap) :=
          ((((A6.out.set hcw (p := ⟨w.heap.size + 1, 3, none⟩) (Nat.le_succ _) _).set hcw (p := ⟨w.heap.size, 0, none⟩) (Nat.le_refl _) _).set hcw (p := ⟨w.heap.size, 1, none⟩) (Nat.le_refl _) _).set hcw (p := ⟨w.heap.size, 2, none⟩) (Nat.le_refl _) _).set hcw (p := ⟨w.heap.size, 3, none⟩) (Nat.le_refl _) _
        clear hown6 hgrow6 hnil6 hb6 M6 R6 M7 R7 R8 A6 O6 z3 y3 N10 MZ RZ OZ OLZ AZ HSL HV6
        go_wp2
        refine bodyPost_ret (v := .agg #[.int .i64 name, .slice none 0 0, .int .i64 (-1), .slice (some ⟨g6, 0, none⟩) (lz.length + 2) c6]) (by simp [results, Tryz.results62, go_sem, e0, e1, e2, e3]) rfl ?_
        have hlf : (lz ++ [x, y]).length = lz.length + 2 := by simp
        refine ⟨g6, c6, lz ++ [x, y], by rw [hlf], ?_, by rw [hlf]; omega, HFZ.out, HAF.out⟩
        rw [hlf]
        exact got_of (own_base HOF.out (by omega)) (by simp)
      · obtain ⟨m6, f6⟩ := M6.out.g3
        go_wp2_with (at_builtin; refine wpList_append_own_at _ rfl _ _ 33 rfl (w.heap.size + 1 + 1) 73 i0 (.agg #[.int .i64 0, .int .i64 0, .int .i64 0]) 3 24 Tryz.underlying33 hi hz0 hz1 hz2 rfl (by decide) _ _ _ rfl (O6.out.alloc _) ⟨w6.heap.size, 0, none⟩ 5 5 (flat [(13, 0, 0), (3, 4, 0), (2, 4, 0), (17, k, 1), (19, 0, 0)]) rfl rfl (lit_flat w6 [(13, 0, 0), (3, 4, 0), (2, 4, 0), (17, k, 1), (19, 0, 0)] _ _ rfl) (flat_one _) (by unfold maxLen; omega) (by omega) (by simp; omega) ?_)
        intro v7 w7 hown7 hgrow7 hnil7 hloc7
        have hb7 : Below (w.heap.size + 1 + 1) w6 w7 := ((Below.refl _ _).alloc hz6 _).grown hgrow7 (by simp; omega) (fun g hg => (O6.out.lt g hg).1)
        have HV7 : Hid (v7 ≠ .slice none 0 0) := fun h => by first | exact hnil7 h | exact absurd (hnil7.1 h).1 (by simp)
        have OL7 : w7.ownsRow (w.heap.size + 1 + 1) 73 3 (.slice (some ⟨gl, 0, none⟩) 2 cl) 2 (flat [x, y]) := own_grown (OL6.out.alloc _) hgrow7 (fun h => HNE.out (by simpa [Value.ownBlock] using h))
        obtain ⟨g7, c7, rfl, hB7⟩ := own_shape hown7 HV7.out
        have HN7 : Hid (gl ≠ g7) := by
          show gl ≠ g7
          have h1 := (OL6.out.lt gl rfl).2
          have h2 := HNE.out
          simp [Value.ownBlock] at hloc7
          omega
        have O7 : w7.ownsRow (w.heap.size + 1 + 1) 73 3 (.slice (some ⟨g7, 0, none⟩) (l0.length + 5) c7) (l0.length + 5) (flat (l0 ++ [(13, 0, 0), (3, 4, 0), (2, 4, 0), (17, k, 1), (19, 0, 0)])) := by
          rw [flat_append]; exact hown7
        have M7 := cells_low M6.out hb7 (by omega)
        have R7 := cells_low R6.out hb7 (by omega)
        have A7 := A6.out.low hcw (below_cut hb7 (by omega))
        obtain ⟨m7, f7⟩ := M7.g3
        have N10 : (⟨w.heap.size + 1, 3, none⟩ : Addr).block ≠ w.heap.size := by show w.heap.size + 1 ≠ w.heap.size; omega
        have MQ : Hid (Pg.Cells (w7.setCell ⟨w.heap.size + 1, 3, none⟩ (.slice (some ⟨g7, 0, none⟩) (l0.length + 5) c7)) (w.heap.size + 1) [.int .i64 name, .slice none 0 0, .int .i64 (-1), .slice (some ⟨g7, 0, none⟩) (l0.length + 5) c7]) := M7.s3 _
        have RQ : Hid (Pg.Cells (w7.setCell ⟨w.heap.size + 1, 3, none⟩ (.slice (some ⟨g7, 0, none⟩) (l0.length + 5) c7)) w.heap.size [.int .i64 0, .slice none 0 0, .int .i64 0, .slice none 0 0]) := R7.far ⟨w.heap.size + 1, 3, none⟩ (.slice (some ⟨g7, 0, none⟩) (l0.length + 5) c7) N10
        have OQ : Hid ((w7.setCell ⟨w.heap.size + 1, 3, none⟩ (.slice (some ⟨g7, 0, none⟩) (l0.length + 5) c7)).ownsRow (w.heap.size + 1 + 1) 73 3 (.slice (some ⟨g7, 0, none⟩) (l0.length + 5) c7) (l0.length + 5) (flat (l0 ++ [(13, 0, 0), (3, 4, 0), (2, 4, 0), (17, k, 1), (19, 0, 0)]))) := own_set O7 (p := ⟨w.heap.size + 1, 3, none⟩) (Nat.lt_succ_self _) _
        have OLQ : Hid ((w7.setCell ⟨w.heap.size + 1, 3, none⟩ (.slice (some ⟨g7, 0, none⟩) (l0.length + 5) c7)).ownsRow (w.heap.size + 1 + 1) 73 3 (.slice (some ⟨gl, 0, none⟩) 2 cl) 2 (flat [x, y])) := own_set OL7 (p := ⟨w.heap.size + 1, 3, none⟩) (Nat.lt_succ_self _) _
        have AQ : Hid (At B w (w7.setCell ⟨w.heap.size + 1, 3, none⟩ (.slice (some ⟨g7, 0, none⟩) (l0.length + 5) c7)) c a len cap) := A7.set hcw (p := ⟨w.heap.size + 1, 3, none⟩) (Nat.le_succ _) _
        clear hown7 hgrow7 hnil7 hb7 HV7 M7 R7 A7 O7 OL7 M6 R6 O6 OL6 A6 N10 m6 f6 hloc7
        generalize hQ : w7.setCell ⟨w.heap.size + 1, 3, none⟩ (.slice (some ⟨g7, 0, none⟩) (l0.length + 5) c7) = wQ at *
        go_wp2_with fail
        refine (once_at B c _ _ a len cap _ (At.start AQ.out.2)).mono ?_
        rintro e w8 ⟨r, rfl, h8⟩
        have M8 := cells_touch MQ.out h8.1 hk1
        have R8 := cells_touch RQ.out h8.1 hk0
        have O8 := own_touch OQ.out h8.1 (by omega)
        have OL8 := own_touch OLQ.out h8.1 (by omega)
        have A8 := AQ.out.step h8
        clear MQ RQ OQ OLQ AQ h8 hQ m7 f7
        cases r
        · obtain ⟨lz, hlz⟩ : ∃ lz, lz = l0 ++ [(13, 0, 0), (3, 4, 0), (2, 4, 0), (17, k, 1), (19, 0, 0)] := ⟨_, rfl⟩
          have hln : lz.length = l0.length + 5 := by rw [hlz]; simp
          have HFZ : Hid (Fits (lz ++ [x, y])) := by
            show Fits _
            rw [hlz, List.append_assoc]
            exact fits_mid HF0.out (by simp only [Fits, FitsI, and_true]; omega)
          have hlz40 : lz.length ≤ 40 := by omega
          rw [← hlz, ← hln] at O8
          rw [← hln] at M8
          have MZ : Hid (Pg.Cells w8 _ _) := M8
          have RZ : Hid (Pg.Cells w8 _ _) := R8
          have OZ : Hid (World.ownsRow w8 _ _ _ _ _ _) := O8
          have OLZ : Hid (World.ownsRow w8 _ _ _ _ _ _) := OL8
          have AZ : Hid (At B w w8 c a len cap) := A8
          clear M8 R8 O8 OL8 A8 hlz
          rw [← hln]
          clear hln
          have HSL : Hid (∀ j u, (flat [x, y])[j]? = some u → w8.cell? ((⟨gl, 0, none⟩ : Addr).add j) = some u) := own_src OLZ.out
          obtain ⟨z3, y3⟩ := MZ.out.g3
          have hzZ : w.heap.size + 1 + 1 ≤ w8.heap.size := by
            have := OLZ.out.lt gl rfl
            omega
          go_wp2_with (at_builtin; refine wpList_append_own _ rfl _ _ 33 rfl (w.heap.size + 1 + 1) 73 i0 (.agg #[.int .i64 0, .int .i64 0, .int .i64 0]) 3 24 Tryz.underlying33 hi hz0 hz1 hz2 rfl (by decide) _ _ _ rfl OZ.out ⟨gl, 0, none⟩ 2 cl (flat [x, y]) rfl rfl HSL.out (flat_one _) (by unfold maxLen; omega) (by omega) hzZ ?_)
          intro v6 w6 hown6 hgrow6 hnil6
          have hb6 : Below (w.heap.size + 1 + 1) w8 w6 := (Below.refl _ _).grown hgrow6 hzZ (fun g hg => (OZ.out.lt g hg).1)
          have HV6 : Hid (v6 ≠ .slice none 0 0) := fun h => by first | exact hnil6 h | exact absurd (hnil6.1 h).1 (by simp)
          obtain ⟨g6, c6, rfl, hB6⟩ := own_shape hown6 HV6.out
          have O6 : Hid (w6.ownsRow (w.heap.size + 1 + 1) 73 3 (.slice (some ⟨g6, 0, none⟩) (lz.length + 2) c6) (lz ++ [x, y]).length (flat (lz ++ [x, y]))) := by
            show World.ownsRow _ _ _ _ _ _ _
            rw [flat_append, List.length_append]; exact hown6
          have M6 := cells_low MZ.out hb6 (by omega)
          have R6 := cells_low RZ.out hb6 (by omega)
          have A6 : Hid (At B w w6 c a len cap) := AZ.out.low hcw (below_cut hb6 (by omega))
          have N10 : (⟨w.heap.size + 1, 3, none⟩ : Addr).block ≠ w.heap.size := by show w.heap.size + 1 ≠ w.heap.size; omega
          have M7 := M6.s3 (.slice (some ⟨g6, 0, none⟩) (lz.length + 2) c6)
          have R7 := R6.far ⟨w.heap.size + 1, 3, none⟩ (.slice (some ⟨g6, 0, none⟩) (lz.length + 2) c6) N10
          have R8 := (((R7.s0 (.int .i64 name)).s1 (.slice none 0 0)).s2 (.int .i64 (-1))).s3 (.slice (some ⟨g6, 0, none⟩) (lz.length + 2) c6)
          obtain ⟨o3, p3⟩ := M6.g3
          obtain ⟨k0, _⟩ := M7.g0
          obtain ⟨k1, _⟩ := M7.g1
          obtain ⟨k2, _⟩ := M7.g2
          obtain ⟨k3, _⟩ := M7.g3
          obtain ⟨r0, q0⟩ := R7.g0
          obtain ⟨r1, q1⟩ := R7.g1
          obtain ⟨r2, q2⟩ := R7.g2
          obtain ⟨r3, q3⟩ := R7.g3
          obtain ⟨e0, _⟩ := R8.g0
          obtain ⟨e1, _⟩ := R8.g1
          obtain ⟨e2, _⟩ := R8.g2
          obtain ⟨e3, _⟩ := R8.g3
          have HOF : Hid ((((((w6.setCell ⟨w.heap.size + 1, 3, none⟩ (.slice (some ⟨g6, 0, none⟩) (lz.length + 2) c6)).setCell ⟨w.heap.size, 0, none⟩ (.int .i64 name)).setCell ⟨w.heap.size, 1, none⟩ (.slice none 0 0)).setCell ⟨w.heap.size, 2, none⟩ (.int .i64 (-1))).setCell ⟨w.heap.size, 3, none⟩ (.slice (some ⟨g6, 0, none⟩) (lz.length + 2) c6)).ownsRow (w.heap.size + 1 + 1) 73 3 (.slice (some ⟨g6, 0, none⟩) (lz.length + 2) c6) (lz ++ [x, y]).length (flat (lz ++ [x, y]))) :=
            own_set (own_set (own_set (own_set (own_set O6.out (p := ⟨w.heap.size + 1, 3, none⟩) (Nat.lt_succ_self _) _) (p := ⟨w.heap.size, 0, none⟩) (Nat.lt_succ_of_lt (Nat.lt_succ_self _)) _) (p := ⟨w.heap.size, 1, none⟩) (Nat.lt_succ_of_lt (Nat.lt_succ_self _)) _) (p := ⟨w.heap.size, 2, none⟩) (Nat.lt_succ_of_lt (Nat.lt_succ_self _)) _) (p := ⟨w.heap.size, 3, none⟩) (Nat.lt_succ_of_lt (Nat.lt_succ_self _)) _
          have HAF : Hid (At B w (((((w6.setCell ⟨w.heap.size + 1, 3, none⟩ (.slice (some ⟨g6, 0, none⟩) (lz.length + 2) c6)).setCell ⟨w.heap.size, 0, none⟩ (.int .i64 name)).setCell ⟨w.heap.size, 1, none⟩ (.slice none 0 0)).setCell ⟨w.heap.size, 2, none⟩ (.int .i64 (-1))).setCell ⟨w.heap.size, 3, none⟩ (.slice (some ⟨g6, 0, none⟩) (lz.length + 2) c6)) c a len cap) :=
            ((((A6.out.set hcw (p := ⟨w.heap.size + 1, 3, none⟩) (Nat.le_succ _) _).set hcw (p := ⟨w.heap.size, 0, none⟩) (Nat.le_refl _) _).set hcw (p := ⟨w.heap.size, 1, none⟩) (Nat.le_refl _) _).set hcw (p := ⟨w.heap.size, 2, none⟩) (Nat.le_refl _) _).set hcw (p := ⟨w.heap.size, 3, none⟩) (Nat.le_refl _) _
          clear hown6 hgrow6 hnil6 hb6 M6 R6 M7 R7 R8 A6 O6 z3 y3 N10 MZ RZ OZ OLZ AZ HSL HV6
          go_wp2
          refine bodyPost_ret (v := .agg #[.int .i64 name, .slice none 0 0, .int .i64 (-1), .slice (some ⟨g6, 0, none⟩) (lz.length + 2) c6]) (by simp [results, Tryz.results62, go_sem, e0, e1, e2, e3]) rfl ?_
          have hlf : (lz ++ [x, y]).length = lz.length + 2 := by simp
          refine ⟨g6, c6, lz ++ [x, y], by rw [hlf], ?_, by rw [hlf]; omega, HFZ.out, HAF.out⟩
          rw [hlf]
          exact got_of (own_base HOF.out (by omega)) (by simp)
        · have hd : ∀ i, i < 3 → ∃ v, w8.cell? ⟨g7, l0.length * 3 + i, none⟩ = some v := fun i hi => by
            have hc := O8.cellAt (l0.length * 3 + i) (by omega)
            have hl : l0.length * 3 + i < (flat (l0 ++ [(13, 0, 0), (3, 4, 0), (2, 4, 0), (17, k, 1), (19, 0, 0)])).length := by
              rw [flat_len]
              simp
              omega
            rw [List.getElem?_eq_getElem hl] at hc
            exact ⟨_, hc⟩
          obtain ⟨x0, d0⟩ := hd 0 (by omega)
          obtain ⟨x1, d1⟩ := hd 1 (by omega)
          obtain ⟨x2, d2⟩ := hd 2 (by omega)
          rw [Nat.add_zero] at d0
          have f0 := O8.frozenAt (l0.length * 3)
          have f1 := O8.frozenAt (l0.length * 3 + 1)
          have f2 := O8.frozenAt (l0.length * 3 + 2)
          have T1 := O8.stored (l0.length * 3) (.int .i64 14)
          have T2 := T1.1.stored (l0.length * 3 + 1) (.int .i64 k)
          have T3 := T2.1.stored (l0.length * 3 + 2) (.int .i64 0)
          obtain ⟨lz, hlz⟩ : ∃ lz, lz = l0 ++ [(14, k, 0), (3, 4, 0), (2, 4, 0), (17, k, 1), (19, 0, 0)] := ⟨_, rfl⟩
          have hln : lz.length = l0.length + 5 := by rw [hlz]; simp
          have HFZ : Hid (Fits (lz ++ [x, y])) := by
            show Fits _
            rw [hlz, List.append_assoc]
            exact fits_mid HF0.out (by simp only [Fits, FitsI, and_true]; omega)
          have hlz40 : lz.length ≤ 40 := by omega
          have hfl : (((flat (l0 ++ [(13, 0, 0), (3, 4, 0), (2, 4, 0), (17, k, 1), (19, 0, 0)])).set (l0.length * 3) (.int .i64 14)).set (l0.length * 3 + 1) (.int .i64 k)).set (l0.length * 3 + 2) (.int .i64 0) = flat lz := by
            rw [hlz, flat_append, flat_append, ← flat_len l0]
            simp [List.set_append_right, flat]
          have O9 := T3.1
          rw [hfl] at O9
          have OL9 := own_grown (own_grown (own_grown OL8 T1.2 (fun h => HN7.out (by simpa using h))) T2.2 (fun h => HN7.out (by simpa using h))) T3.2 (fun h => HN7.out (by simpa using h))
          have hg7a : g7 ≠ w.heap.size + 1 := by omega
          have hg7b : g7 ≠ w.heap.size := by omega
          have M9 := ((M8.far ⟨g7, l0.length * 3, none⟩ (.int .i64 14) hg7a).far ⟨g7, l0.length * 3 + 1, none⟩ (.int .i64 k) hg7a).far ⟨g7, l0.length * 3 + 2, none⟩ (.int .i64 0) hg7a
          have R9 := ((R8.far ⟨g7, l0.length * 3, none⟩ (.int .i64 14) hg7b).far ⟨g7, l0.length * 3 + 1, none⟩ (.int .i64 k) hg7b).far ⟨g7, l0.length * 3 + 2, none⟩ (.int .i64 0) hg7b
          have hg7c : w.heap.size ≤ g7 := by omega
          have A9 := ((A8.set hcw (p := ⟨g7, l0.length * 3, none⟩) hg7c (.int .i64 14)).set hcw (p := ⟨g7, l0.length * 3 + 1, none⟩) hg7c (.int .i64 k)).set hcw (p := ⟨g7, l0.length * 3 + 2, none⟩) hg7c (.int .i64 0)
          obtain ⟨m8, _⟩ := M8.g3
          rw [← hln] at O9 M9
          have MZ : Hid (Pg.Cells _ _ _) := M9
          have RZ : Hid (Pg.Cells _ _ _) := R9
          have OZ : Hid (World.ownsRow _ _ _ _ _ _ _) := O9
          have OLZ : Hid (World.ownsRow _ _ _ _ _ _ _) := OL9
          have AZ : Hid (At B w _ c a len cap) := A9
          clear hd T1 T2 T3 M8 R8 O8 OL8 A8 O9 OL9 M9 R9 A9 hfl hlz
          generalize hZ : ((w8.setCell ⟨g7, l0.length * 3, none⟩ (.int .i64 14)).setCell ⟨g7, l0.length * 3 + 1, none⟩ (.int .i64 k)).setCell ⟨g7, l0.length * 3 + 2, none⟩ (.int .i64 0) = Z at *
          have HLN : Hid (lz.length = l0.length + 5) := hln
          clear hln
          have HSL : Hid (∀ j u, (flat [x, y])[j]? = some u → Z.cell? ((⟨gl, 0, none⟩ : Addr).add j) = some u) := own_src OLZ.out
          obtain ⟨z3, y3⟩ := MZ.out.g3
          have hzZ : w.heap.size + 1 + 1 ≤ Z.heap.size := by
            have := OLZ.out.lt gl rfl
            omega
          go_wp2_with (at_builtin; refine wpList_append_own _ rfl _ _ 33 rfl (w.heap.size + 1 + 1) 73 i0 (.agg #[.int .i64 0, .int .i64 0, .int .i64 0]) 3 24 Tryz.underlying33 hi hz0 hz1 hz2 rfl (by decide) _ _ _ rfl OZ.out ⟨gl, 0, none⟩ 2 cl (flat [x, y]) rfl rfl HSL.out (flat_one _) (by unfold maxLen; omega) (by omega) hzZ ?_)
          intro v6 w6 hown6 hgrow6 hnil6
          have hb6 : Below (w.heap.size + 1 + 1) Z w6 := (Below.refl _ _).grown hgrow6 hzZ (fun g hg => (OZ.out.lt g hg).1)
          have HV6 : Hid (v6 ≠ .slice none 0 0) := fun h => by first | exact hnil6 h | exact absurd (hnil6.1 h).1 (by simp)
          obtain ⟨g6, c6, rfl, hB6⟩ := own_shape hown6 HV6.out
          have O6 : Hid (w6.ownsRow (w.heap.size + 1 + 1) 73 3 (.slice (some ⟨g6, 0, none⟩) (lz.length + 2) c6) (lz ++ [x, y]).length (flat (lz ++ [x, y]))) := by
            show World.ownsRow _ _ _ _ _ _ _
            rw [flat_append, List.length_append]; exact hown6
          have M6 := cells_low MZ.out hb6 (by omega)
          have R6 := cells_low RZ.out hb6 (by omega)
          have A6 : Hid (At B w w6 c a len cap) := AZ.out.low hcw (below_cut hb6 (by omega))
          have N10 : (⟨w.heap.size + 1, 3, none⟩ : Addr).block ≠ w.heap.size := by show w.heap.size + 1 ≠ w.heap.size; omega
          have M7 := M6.s3 (.slice (some ⟨g6, 0, none⟩) (lz.length + 2) c6)
          have R7 := R6.far ⟨w.heap.size + 1, 3, none⟩ (.slice (some ⟨g6, 0, none⟩) (lz.length + 2) c6) N10
          have R8 := (((R7.s0 (.int .i64 name)).s1 (.slice none 0 0)).s2 (.int .i64 (-1))).s3 (.slice (some ⟨g6, 0, none⟩) (lz.length + 2) c6)
          obtain ⟨o3, p3⟩ := M6.g3
          obtain ⟨k0, _⟩ := M7.g0
          obtain ⟨k1, _⟩ := M7.g1
          obtain ⟨k2, _⟩ := M7.g2
          obtain ⟨k3, _⟩ := M7.g3
          obtain ⟨r0, q0⟩ := R7.g0
          obtain ⟨r1, q1⟩ := R7.g1
          obtain ⟨r2, q2⟩ := R7.g2
          obtain ⟨r3, q3⟩ := R7.g3
          obtain ⟨e0, _⟩ := R8.g0
          obtain ⟨e1, _⟩ := R8.g1
          obtain ⟨e2, _⟩ := R8.g2
          obtain ⟨e3, _⟩ := R8.g3
          have HOF : Hid ((((((w6.setCell ⟨w.heap.size + 1, 3, none⟩ (.slice (some ⟨g6, 0, none⟩) (lz.length + 2) c6)).setCell ⟨w.heap.size, 0, none⟩ (.int .i64 name)).setCell ⟨w.heap.size, 1, none⟩ (.slice none 0 0)).setCell ⟨w.heap.size, 2, none⟩ (.int .i64 (-1))).setCell ⟨w.heap.size, 3, none⟩ (.slice (some ⟨g6, 0, none⟩) (lz.length + 2) c6)).ownsRow (w.heap.size + 1 + 1) 73 3 (.slice (some ⟨g6, 0, none⟩) (lz.length + 2) c6) (lz ++ [x, y]).length (flat (lz ++ [x, y]))) :=
            own_set (own_set (own_set (own_set (own_set O6.out (p := ⟨w.heap.size + 1, 3, none⟩) (Nat.lt_succ_self _) _) (p := ⟨w.heap.size, 0, none⟩) (Nat.lt_succ_of_lt (Nat.lt_succ_self _)) _) (p := ⟨w.heap.size, 1, none⟩) (Nat.lt_succ_of_lt (Nat.lt_succ_self _)) _) (p := ⟨w.heap.size, 2, none⟩) (Nat.lt_succ_of_lt (Nat.lt_succ_self _)) _) (p := ⟨w.heap.size, 3, none⟩) (Nat.lt_succ_of_lt (Nat.lt_succ_self _)) _
          have HAF : Hid (At B w (((((w6.setCell ⟨w.heap.size + 1, 3, none⟩ (.slice (some ⟨g6, 0, none⟩) (lz.length + 2) c6)).setCell ⟨w.heap.size, 0, none⟩ (.int .i64 name)).setCell ⟨w.heap.size, 1, none⟩ (.slice none 0 0)).setCell ⟨w.heap.size, 2, none⟩ (.int .i64 (-1))).setCell ⟨w.heap.size, 3, none⟩ (.slice (some ⟨g6, 0, none⟩) (lz.length + 2) c6)) c a len cap) :=
            ((((A6.out.set hcw (p := ⟨w.heap.size + 1, 3, none⟩) (Nat.le_succ _) _).set hcw (p := ⟨w.heap.size, 0, none⟩) (Nat.le_refl _) _).set hcw (p := ⟨w.heap.size, 1, none⟩) (Nat.le_refl _) _).set hcw (p := ⟨w.heap.size, 2, none⟩) (Nat.le_refl _) _).set hcw (p := ⟨w.heap.size, 3, none⟩) (Nat.le_refl _) _
          clear hown6 hgrow6 hnil6 hb6 M6 R6 M7 R7 R8 A6 O6 z3 y3 N10 MZ RZ OZ OLZ AZ HSL HV6
          go_wp2
          refine bodyPost_ret (v := .agg #[.int .i64 name, .slice none 0 0, .int .i64 (-1), .slice (some ⟨g6, 0, none⟩) (lz.length + 2) c6]) (by simp [results, Tryz.results62, go_sem, e0, e1, e2, e3]) rfl ?_
          have hlf : (lz ++ [x, y]).length = lz.length + 2 := by simp
          refine ⟨g6, c6, lz ++ [x, y], by rw [hlf], ?_, by rw [hlf]; omega, HFZ.out, HAF.out⟩
          rw [hlf]
          exact got_of (own_base HOF.out (by omega)) (by simp)
    · have hnI : ¬ ((l0.length : Int) < 32) := by omega
      generalize hZ : w4.setCell ⟨w.heap.size + 1, 3, none⟩ (.slice (some ⟨gv, 0, none⟩) l0.length cv) = Z at *
      have MZ := MY
      have RZ := RY
      have OZ := OY
      have OLZ := OLY
      have AZ := AY
      have HFZ := HF0
      clear MY RY OY OLY AY
      have HSL : Hid (∀ j u, (flat [x, y])[j]? = some u → Z.cell? ((⟨gl, 0, none⟩ : Addr).add j) = some u) := own_src OLZ.out
      obtain ⟨z3, y3⟩ := MZ.out.g3
      have hzZ : w.heap.size + 1 + 1 ≤ Z.heap.size := by
        have := OLZ.out.lt gl rfl
        omega
      go_wp2_with (at_builtin; refine wpList_append_own _ rfl _ _ 33 rfl (w.heap.size + 1 + 1) 73 i0 (.agg #[.int .i64 0, .int .i64 0, .int .i64 0]) 3 24 Tryz.underlying33 hi hz0 hz1 hz2 rfl (by decide) _ _ _ rfl OZ.out ⟨gl, 0, none⟩ 2 cl (flat [x, y]) rfl rfl HSL.out (flat_one _) (by unfold maxLen; omega) (by omega) hzZ ?_)
      intro v6 w6 hown6 hgrow6 hnil6
      have hb6 : Below (w.heap.size + 1 + 1) Z w6 := (Below.refl _ _).grown hgrow6 hzZ (fun g hg => (OZ.out.lt g hg).1)
      have HV6 : Hid (v6 ≠ .slice none 0 0) := fun h => by first | exact hnil6 h | exact absurd (hnil6.1 h).1 (by simp)
      obtain ⟨g6, c6, rfl, hB6⟩ := own_shape hown6 HV6.out
      have O6 : Hid (w6.ownsRow (w.heap.size + 1 + 1) 73 3 (.slice (some ⟨g6, 0, none⟩) (l0.length + 2) c6) (l0 ++ [x, y]).length (flat (l0 ++ [x, y]))) := by
        show World.ownsRow _ _ _ _ _ _ _
        rw [flat_append, List.length_append]; exact hown6
      have M6 := cells_low MZ.out hb6 (by omega)
      have R6 := cells_low RZ.out hb6 (by omega)
      have A6 : Hid (At B w w6 c a len cap) := AZ.out.low hcw (below_cut hb6 (by omega))
      have N10 : (⟨w.heap.size + 1, 3, none⟩ : Addr).block ≠ w.heap.size := by show w.heap.size + 1 ≠ w.heap.size; omega
      have M7 := M6.s3 (.slice (some ⟨g6, 0, none⟩) (l0.length + 2) c6)
      have R7 := R6.far ⟨w.heap.size + 1, 3, none⟩ (.slice (some ⟨g6, 0, none⟩) (l0.length + 2) c6) N10
      have R8 := (((R7.s0 (.int .i64 name)).s1 (.slice none 0 0)).s2 (.int .i64 (-1))).s3 (.slice (some ⟨g6, 0, none⟩) (l0.length + 2) c6)
      obtain ⟨o3, p3⟩ := M6.g3
      obtain ⟨k0, _⟩ := M7.g0
      obtain ⟨k1, _⟩ := M7.g1
      obtain ⟨k2, _⟩ := M7.g2
      obtain ⟨k3, _⟩ := M7.g3
      obtain ⟨r0, q0⟩ := R7.g0
      obtain ⟨r1, q1⟩ := R7.g1
      obtain ⟨r2, q2⟩ := R7.g2
      obtain ⟨r3, q3⟩ := R7.g3
      obtain ⟨e0, _⟩ := R8.g0
      obtain ⟨e1, _⟩ := R8.g1
      obtain ⟨e2, _⟩ := R8.g2
      obtain ⟨e3, _⟩ := R8.g3
      have HOF : Hid ((((((w6.setCell ⟨w.heap.size + 1, 3, none⟩ (.slice (some ⟨g6, 0, none⟩) (l0.length + 2) c6)).setCell ⟨w.heap.size, 0, none⟩ (.int .i64 name)).setCell ⟨w.heap.size, 1, none⟩ (.slice none 0 0)).setCell ⟨w.heap.size, 2, none⟩ (.int .i64 (-1))).setCell ⟨w.heap.size, 3, none⟩ (.slice (some ⟨g6, 0, none⟩) (l0.length + 2) c6)).ownsRow (w.heap.size + 1 + 1) 73 3 (.slice (some ⟨g6, 0, none⟩) (l0.length + 2) c6) (l0 ++ [x, y]).length (flat (l0 ++ [x, y]))) :=
        own_set (own_set (own_set (own_set (own_set O6.out (p := ⟨w.heap.size + 1, 3, none⟩) (Nat.lt_succ_self _) _) (p := ⟨w.heap.size, 0, none⟩) (Nat.lt_succ_of_lt (Nat.lt_succ_self _)) _) (p := ⟨w.heap.size, 1, none⟩) (Nat.lt_succ_of_lt (Nat.lt_succ_self _)) _) (p := ⟨w.heap.size, 2, none⟩) (Nat.lt_succ_of_lt (Nat.lt_succ_self _)) _) (p := ⟨w.heap.size, 3, none⟩) (Nat.lt_succ_of_lt (Nat.lt_succ_self _)) _
      have HAF : Hid (At B w (((((w6.setCell ⟨w.heap.size + 1, 3, none⟩ (.slice (some ⟨g6, 0, none⟩) (l0.length + 2) c6)).setCell ⟨w.heap.size, 0, none⟩ (.int .i64 name)).setCell ⟨w.heap.size, 1, none⟩ (.slice none 0 0)).setCell ⟨w.heap.size, 2, none⟩ (.int .i64 (-1))).setCell ⟨w.heap.size, 3, none⟩ (.slice (some ⟨g6, 0, none⟩) (l0.length + 2) c6)) c a len cap) :=
        ((((A6.out.set hcw (p := ⟨w.heap.size + 1, 3, none⟩) (Nat.le_succ _) _).set hcw (p := ⟨w.heap.size, 0, none⟩) (Nat.le_refl _) _).set hcw (p := ⟨w.heap.size, 1, none⟩) (Nat.le_refl _) _).set hcw (p := ⟨w.heap.size, 2, none⟩) (Nat.le_refl _) _).set hcw (p := ⟨w.heap.size, 3, none⟩) (Nat.le_refl _) _
      clear hown6 hgrow6 hnil6 hb6 M6 R6 M7 R7 R8 A6 O6 z3 y3 N10 MZ RZ OZ OLZ AZ HSL HV6
      go_wp2
      refine bodyPost_ret (v := .agg #[.int .i64 name, .slice none 0 0, .int .i64 (-1), .slice (some ⟨g6, 0, none⟩) (l0.length + 2) c6]) (by simp [results, Tryz.results62, go_sem, e0, e1, e2, e3]) rfl ?_
      have hlf : (l0 ++ [x, y]).length = l0.length + 2 := by simp
      refine ⟨g6, c6, l0 ++ [x, y], by rw [hlf], ?_, by rw [hlf]; omega, HFZ.out, HAF.out⟩
      rw [hlf]
      exact got_of (own_base HOF.out (by omega)) (by simp)
end Cu
end Go.Proofs.YtbgbddahniacbaaGreatDoor

/- Rows of methods and of classes, laid flat. -/
namespace Go.Proofs.YtbgbddahniacbaaGreatDoor
namespace Pg
open Go.ChangeShapes Go.WideShapes Go.ChangeAt Go.RowKit St

/-- The cells of a row of methods. -/
def flatM : List (Meth × Value × Value) → List Value
  | [] => []
  | x :: l => .int .i64 x.1.name :: x.2.1 :: .int .i64 x.1.gives :: x.2.2 :: flatM l
theorem flatM_len (l : List (Meth × Value × Value)) : (flatM l).length = l.length * 4 := by
  induction l with
  | nil => rfl
  | cons x l ih => simp only [flatM, List.length_cons, ih]; omega
theorem flatM_snoc (l : List (Meth × Value × Value)) (x : Meth × Value × Value) : flatM (l ++ [x]) = flatM l ++ [.int .i64 x.1.name, x.2.1, .int .i64 x.1.gives, x.2.2] := by
  induction l with
  | nil => rfl
  | cons y l ih => simp only [List.cons_append, flatM, ih]
theorem flatM_at : ∀ (l : List (Meth × Value × Value)) (j : Nat) (x : Meth × Value × Value), l[j]? = some x → (flatM l)[j * 4]? = some (.int .i64 x.1.name) ∧ (flatM l)[j * 4 + 1]? = some x.2.1 ∧ (flatM l)[j * 4 + 2]? = some (.int .i64 x.1.gives) ∧ (flatM l)[j * 4 + 3]? = some x.2.2
  | [], _, _, h => by simp at h
  | y :: l, 0, x, h => by simp at h; subst h; simp [flatM]
  | y :: l, j + 1, x, h => by
    have := flatM_at l j x (by simpa using h)
    rw [show (j + 1) * 4 = j * 4 + 1 + 1 + 1 + 1 from by omega, show j * 4 + 1 + 1 + 1 + 1 + 1 = j * 4 + 1 + 1 + 1 + 1 + 1 from rfl]
    simp only [flatM, List.getElem?_cons_succ]
    exact this
/-- The cells of a row of classes. -/
def flatK : List (Cls × Value × Value) → List Value
  | [] => []
  | x :: l => .int .i64 x.1.super :: x.2.1 :: x.2.2 :: flatK l
theorem flatK_len (l : List (Cls × Value × Value)) : (flatK l).length = l.length * 3 := by
  induction l with
  | nil => rfl
  | cons x l ih => simp only [flatK, List.length_cons, ih]; omega
theorem flatK_snoc (l : List (Cls × Value × Value)) (x : Cls × Value × Value) : flatK (l ++ [x]) = flatK l ++ [.int .i64 x.1.super, x.2.1, x.2.2] := by
  induction l with
  | nil => rfl
  | cons y l ih => simp only [List.cons_append, flatK, ih]
theorem flatK_at : ∀ (l : List (Cls × Value × Value)) (j : Nat) (x : Cls × Value × Value), l[j]? = some x → (flatK l)[j * 3]? = some (.int .i64 x.1.super) ∧ (flatK l)[j * 3 + 1]? = some x.2.1 ∧ (flatK l)[j * 3 + 2]? = some x.2.2
  | [], _, _, h => by simp at h
  | y :: l, 0, x, h => by simp at h; subst h; simp [flatK]
  | y :: l, j + 1, x, h => by
    have := flatK_at l j x (by simpa using h)
    rw [show (j + 1) * 3 = j * 3 + 1 + 1 + 1 from by omega]
    simp only [flatK, List.getElem?_cons_succ]
    exact this
/-- Slices take one cell. -/
theorem one_slice {v : Value} (h : ∃ a n c, v = .slice a n c) : v.oneCell' = true := by
  obtain ⟨a, n, c, rfl⟩ := h; rfl

/-- A row of methods whose parts stand. -/
theorem sm_of {S S' : Nat} {w : World} {v : Value} {ms : List Meth} {l : List (Meth × Value × Value)} (e : l.map (·.1) = ms) (hS : S ≤ S') (hown : w.ownsRow S' 35 4 v ms.length (flatM l)) (hd : ∀ x ∈ l, MV front S w x.2.1 x.2.2 x.1) : SM front S w v ms := by
  obtain ⟨h0, ⟨hv, hn⟩ | ⟨g, cap, cur, hv, hB, hblk, hle, hmx, hsz, htk⟩⟩ := hown
  · refine ⟨none, 0, by rw [hv, hn], fun _ _ => rfl, fun hp => by omega⟩
  · have hgw : g < w.heap.size := (Array.getElem?_eq_some_iff.1 hblk).1
    refine ⟨some ⟨g, 0, none⟩, cap, hv, fun _ h => by simp at h, fun hp => ⟨g, 0, rfl, (by omega), ⟨hgw, fun _ j hj => by simp [World.frozen?, hblk]⟩, fun j m hj => ?_⟩⟩
    obtain ⟨x, hx⟩ : ∃ x, l[j]? = some x := by
      rw [← e, List.getElem?_map] at hj
      cases hq : l[j]? with
      | none => rw [hq] at hj; simp at hj
      | some x => exact ⟨x, rfl⟩
    have hxm : x.1 = m := by rw [← e, List.getElem?_map, hx] at hj; simpa using hj
    have k2 := hd x (List.mem_of_getElem? hx)
    obtain ⟨a0, a1, a2, a3⟩ := flatM_at l j x hx
    have hcell : ∀ i u, (flatM l)[i]? = some u → w.cell? ⟨g, 0 + i, none⟩ = some u := fun i u hu => by
      have := World.ownsRow.cells (w := w) ⟨h0, .inr ⟨g, cap, cur, hv, hB, hblk, hle, hmx, hsz, htk⟩⟩ (g := g) (by rw [hv]; rfl) i u hu
      rwa [Go.WideShapes.add_plain] at this
    subst hxm
    refine ⟨x.2.1, x.2.2, ?_, ?_, ?_, ?_, k2⟩
    · have := hcell _ _ a0; rwa [Nat.zero_add] at this ⊢
    · have := hcell _ _ a1; rw [Nat.zero_add] at this ⊢; exact this
    · have := hcell _ _ a2; rw [Nat.zero_add] at this ⊢; exact this
    · have := hcell _ _ a3; rw [Nat.zero_add] at this ⊢; exact this
end Pg
end Go.Proofs.YtbgbddahniacbaaGreatDoor
