/- The contract of the draw of a method. -/
import Derived.Test.YtogbkdhejdcpeaaDoorJDp0
import Derived.Maps.AppendAt
namespace Go.Proofs.YtogbkdhejdcpeaaDoor
namespace Cu
open Go.ChangeShapes Go.WideShapes Go.ChangeAt Go.RowKit St

/-- A method has been drawn, and the cursor stands. -/
def DrewM (B : Nat) (w : World) (c : Nat) (a : Option Addr) (len cap : Nat) (name : Int) (e : Ending) (w' : World) : Prop :=
  ∃ g y l, e = .returned (.agg #[.int .i64 name, .slice none 0 0, .int .i64 (-1), .slice (some ⟨g, 0, none⟩) l.length y]) ∧ Pg.CS w.heap.size w' (.slice (some ⟨g, 0, none⟩) l.length y) l ∧ l.length ≤ 42 ∧ Fits l ∧ At B w w' c a len cap
theorem own_cap {w : World} {B q g n cap : Nat} {e : TypeId} {xs : List Value} (h : w.ownsRow B e q (.slice (some ⟨g, 0, none⟩) n cap) n xs) : n ≤ cap := by
  obtain ⟨_, ⟨h, _⟩ | ⟨g', cap', cur, hv, h1, h2, h3, _⟩⟩ := h
  · simp at h
  · injection hv with e1 e2 e3
    omega

theorem own_src {w : World} {B g cap : Nat} {e : TypeId} {l : List Tx.Ins} {n : Nat} (h : w.ownsRow B e 3 (.slice (some ⟨g, 0, none⟩) n cap) n (flat l)) : ∀ j u, (flat l)[j]? = some u → w.cell? ((⟨g, 0, none⟩ : Addr).add j) = some u := by
  intro j u hu
  have h1 := (List.getElem?_eq_some_iff.1 hu).1
  have h2 : (flat l).length = n * 3 := h.1
  rw [Go.WideShapes.add_plain, Nat.zero_add, h.cellAt j (by omega)]
  exact hu
theorem own_on {u v : World} {B n q : Nat} {e : TypeId} {x : Value} {xs : List Value} (h : u.ownsRow B e q x n xs) (hb : Below u.heap.size u v) : v.ownsRow B e q x n xs := by
  have hl := h.lt
  obtain ⟨h0, ⟨h1, h2⟩ | ⟨g, cap, cur, rfl, h1, h2, h3⟩⟩ := h
  · exact ⟨h0, .inl ⟨h1, h2⟩⟩
  · exact ⟨h0, .inr ⟨g, cap, cur, rfl, h1, (hb.block g (hl g rfl).2).trans h2, h3⟩⟩
theorem cells_low {B k : Nat} {u w : World} {vs : List Value} (h : Pg.Cells u k vs) (hb : Below B u w) (hk : k < B) : Pg.Cells w k vs := fun i x hx => by
  obtain ⟨h1, h2⟩ := h i x hx
  exact ⟨(hb.cell (p := ⟨k, i, none⟩) hk).trans h1, (hb.frozen (p := ⟨k, i, none⟩) hk).trans h2⟩
theorem below_cut {B C : Nat} {u w : World} (h : Below B u w) (hC : C ≤ B) : Below C u w := ⟨h.os, h.tape, h.output, h.size, fun k hk => h.block k (by omega)⟩
theorem own_grown {u w : World} {B q n gl cl : Nat} {e : TypeId} {xs : List Value} {row : Option Nat} (h : u.ownsRow B e q (.slice (some ⟨gl, 0, none⟩) n cl) n xs) (hg : u.grownBy w row) (hne : some gl ≠ row) : w.ownsRow B e q (.slice (some ⟨gl, 0, none⟩) n cl) n xs := by
  have hl := (h.lt gl rfl).2
  obtain ⟨h0, ⟨h1, h2⟩ | ⟨g, cap, cur, hv, h1, h2, h3⟩⟩ := h
  · simp at h1
  · injection hv with e1 e2 e3
    injection e1 with e1
    injection e1 with e1
    subst e1 e3
    exact ⟨h0, .inr ⟨gl, cl, cur, rfl, h1, (hg.block gl hl hne).trans h2, h3⟩⟩
theorem fits_mid {l m r : List Tx.Ins} (h : Fits (l ++ r)) (k : Fits m) : Fits (l ++ (m ++ r)) := by
  rw [fits_iff] at *
  intro x hx
  rcases List.mem_append.1 hx with hx | hx
  · exact h x (List.mem_append_left _ hx)
  · rcases List.mem_append.1 hx with hx | hx
    · exact k x hx
    · exact h x (List.mem_append_right _ hx)
theorem split2 (l : List Tx.Ins) (h : 2 ≤ l.length) : ∃ l0 x y, l = l0 ++ [x, y] := by
  rcases List.eq_nil_or_concat l with rfl | ⟨k, y, rfl⟩
  · simp at h
  · rcases List.eq_nil_or_concat k with rfl | ⟨l0, x, rfl⟩
    · simp at h
    · exact ⟨l0, x, y, by simp⟩

set_option maxRecDepth 100000 in
set_option maxHeartbeats 4000000 in
theorem drawMethod_cur (B c : Nat) (name cls : Int) (calls : Bool) (hc1 : 1 ≤ cls) (hc2 : cls ≤ 5) (w : World) (a : Option Addr) (len cap : Nat) (h : Cur B w c a len cap) :
    Calls Tryd.prog 71 #[.pointer (some ⟨c, 0, none⟩), .int .i64 name, .bool calls, .int .i64 cls] w fun e w' => DrewM B w c a len cap name e w' := by
  obtain ⟨i0, hi, hz0, hz1, hz2⟩ := info_parts infoI
  have hcw : c < w.heap.size := h.2.1
  have H : Hid (Cur B w c a len cap) := h
  clear h
  obtain ⟨W, hW⟩ : ∃ W, W = (w.alloc (.cells #[.int .i64 0, .slice none 0 0, .int .i64 0, .slice none 0 0] 35)).alloc (.cells #[.int .i64 name, .slice none 0 0, .int .i64 (-1), .slice none 0 0] 35) := ⟨_, rfl⟩
  have HA : Hid (At B w W c a len cap) := by rw [hW]; exact ((At.start H.out).alloc _).alloc _
  have HZ : Hid (W.heap.size = w.heap.size + 1 + 1) := by show _ = _; rw [hW]; simp
  have R0 : Hid (Pg.Cells W w.heap.size [.int .i64 0, .slice none 0 0, .int .i64 0, .slice none 0 0]) := by rw [hW]; exact (Pg.Cells.new w _ rfl _ _).alloc _
  have M0 : Hid (Pg.Cells W (w.heap.size + 1) [.int .i64 name, .slice none 0 0, .int .i64 (-1), .slice none 0 0]) := by rw [hW]; exact Pg.Cells.new (w.alloc _) _ (by simp) _ _
  go_enter Tryd.func71, Tryd.ntmps71
  go_wp2_with fail
  rw [← hW]
  clear hW
  refine (drawCode_own B c W a len cap HA.out.2).mono ?_
  rintro e w2 ⟨v, l, rfl, hown, hvn, hl2, hl36, hfit, hat⟩
  obtain ⟨gv, cv, rfl, hBv⟩ := own_shape hown hvn
  obtain ⟨l0, x, y, rfl⟩ := split2 l hl2
  have hlen : (l0 ++ [x, y]).length = l0.length + 2 := by simp
  rw [hlen] at hown hl36 hl2 ⊢
  rw [HZ.out] at hown
  have hcv := own_cap hown
  have hl34 : l0.length ≤ 34 := by omega
  have HF0 : Hid (Fits (l0 ++ [x, y])) := hfit
  have hk1 : w.heap.size + 1 ≠ c := by omega
  have hk0 : w.heap.size ≠ c := by omega
  have M2 := cells_touch M0.out hat.1 hk1
  have R2 := cells_touch R0.out hat.1 hk0
  have A2 := HA.out.step hat
  have N10 : (⟨w.heap.size + 1, 3, none⟩ : Addr).block ≠ w.heap.size := by show w.heap.size + 1 ≠ w.heap.size; omega
  have M3 : Hid (Pg.Cells (w2.setCell ⟨w.heap.size + 1, 3, none⟩ (.slice (some ⟨gv, 0, none⟩) (l0.length + 2) cv)) (w.heap.size + 1) [.int .i64 name, .slice none 0 0, .int .i64 (-1), .slice (some ⟨gv, 0, none⟩) (l0.length + 2) cv]) := M2.s3 _
  have R3 : Hid (Pg.Cells (w2.setCell ⟨w.heap.size + 1, 3, none⟩ (.slice (some ⟨gv, 0, none⟩) (l0.length + 2) cv)) w.heap.size [.int .i64 0, .slice none 0 0, .int .i64 0, .slice none 0 0]) := R2.far ⟨w.heap.size + 1, 3, none⟩ (.slice (some ⟨gv, 0, none⟩) (l0.length + 2) cv) N10
  have O3 : Hid ((w2.setCell ⟨w.heap.size + 1, 3, none⟩ (.slice (some ⟨gv, 0, none⟩) (l0.length + 2) cv)).ownsRow (w.heap.size + 1 + 1) 64 3 (.slice (some ⟨gv, 0, none⟩) (l0.length + 2) cv) (l0.length + 2) (flat (l0 ++ [x, y]))) := own_set hown (p := ⟨w.heap.size + 1, 3, none⟩) (by show w.heap.size + 1 < w.heap.size + 1 + 1; omega) _
  have A3 : Hid (At B w (w2.setCell ⟨w.heap.size + 1, 3, none⟩ (.slice (some ⟨gv, 0, none⟩) (l0.length + 2) cv)) c a len cap) := A2.set hcw (p := ⟨w.heap.size + 1, 3, none⟩) (by show w.heap.size ≤ w.heap.size + 1; omega) _
  obtain ⟨m3, f3⟩ := M2.g3
  clear M2 R2 A2 hown hat hvn hfit M0 R0 HA hlen HZ hl2 hl36 hBv N10
  have b3 := M3.out.g3.1
  generalize hX : w2.setCell ⟨w.heap.size + 1, 3, none⟩ (.slice (some ⟨gv, 0, none⟩) (l0.length + 2) cv) = X at *
  have b4 := (M3.out.alloc (.cells #[] 64)).g3.1
  have hzX : w.heap.size + 1 + 1 ≤ X.heap.size := by
    have := O3.out.lt gv rfl
    omega
  have HSRC : Hid (∀ j u, (flat [x, y])[j]? = some u → (X.alloc (.cells #[] 64)).cell? ((⟨gv, l0.length * 3, none⟩ : Addr).add j) = some u) := by
    intro j u hu
    have hj : j < 6 := by
      have h1 := (List.getElem?_eq_some_iff.1 hu).1
      have h2 := flat_len [x, y]
      simp at h2
      omega
    have hc := O3.out.cellAt (l0.length * 3 + j) (by omega)
    rw [flat_append, List.getElem?_append_right (by rw [flat_len]; omega), flat_len, Nat.add_sub_cancel_left, hu] at hc
    rw [Go.WideShapes.add_plain]
    exact (((Below.refl _ X).alloc (Nat.le_refl _) _).cell (cell_lt hc)).trans hc
  go_wp2_with (at_builtin; refine wpList_append_own _ rfl _ _ 33 rfl X.heap.size 64 i0 (.agg #[.int .i64 0, .int .i64 0, .int .i64 0]) 3 24 Tryd.underlying33 hi hz0 hz1 hz2 rfl (by decide) _ _ _ rfl (World.ownsRow_made X #[] 0 (Nat.le_refl _) (by decide) (by simp)) ⟨gv, l0.length * 3, none⟩ 2 (cv - l0.length) (flat [x, y]) rfl rfl HSRC.out (flat_one _) (by unfold maxLen; omega) (by omega) (by simp) ?_)
  intro v4 w4 hown4 hgrow4 hnil4
  have hb4 : Below X.heap.size X w4 := ((Below.refl _ _).alloc (Nat.le_refl _) _).grown hgrow4 (by simp) (fun g hg => by simp [Value.ownBlock] at hg ⊢; omega)
  have HV4 : Hid (v4 ≠ .slice none 0 0) := fun h => by first | exact hnil4 h | exact absurd (hnil4.1 h).1 (by simp)
  obtain ⟨gl, cl, rfl, hBl⟩ := own_shape hown4 HV4.out
  have OL : Hid (w4.ownsRow (w.heap.size + 1 + 1) 64 3 (.slice (some ⟨gl, 0, none⟩) 2 cl) 2 (flat [x, y])) := own_base hown4 hzX
  have M4 := M3.out.on hb4
  have R4 := R3.out.on hb4
  have A4 := A3.out.low hcw (below_cut hb4 (by omega))
  have O4 : w4.ownsRow (w.heap.size + 1 + 1) 64 3 (.slice (some ⟨gv, 0, none⟩) (l0 ++ [x, y]).length cv) (l0 ++ [x, y]).length (flat (l0 ++ [x, y])) := by
    have h := own_on O3.out hb4
    rw [show (l0 ++ [x, y]).length = l0.length + 2 from by simp]
    exact h
  have O5 := own_front O4 (k := l0.length) (by simp)
  rw [List.take_left] at O5
  have N10 : (⟨w.heap.size + 1, 3, none⟩ : Addr).block ≠ w.heap.size := by show w.heap.size + 1 ≠ w.heap.size; omega
  have MY : Hid (Pg.Cells (w4.setCell ⟨w.heap.size + 1, 3, none⟩ (.slice (some ⟨gv, 0, none⟩) l0.length cv)) (w.heap.size + 1) [.int .i64 name, .slice none 0 0, .int .i64 (-1), .slice (some ⟨gv, 0, none⟩) l0.length cv]) := M4.s3 _
  have RY : Hid (Pg.Cells (w4.setCell ⟨w.heap.size + 1, 3, none⟩ (.slice (some ⟨gv, 0, none⟩) l0.length cv)) w.heap.size [.int .i64 0, .slice none 0 0, .int .i64 0, .slice none 0 0]) := R4.far ⟨w.heap.size + 1, 3, none⟩ (.slice (some ⟨gv, 0, none⟩) l0.length cv) N10
  have OY : Hid ((w4.setCell ⟨w.heap.size + 1, 3, none⟩ (.slice (some ⟨gv, 0, none⟩) l0.length cv)).ownsRow (w.heap.size + 1 + 1) 64 3 (.slice (some ⟨gv, 0, none⟩) l0.length cv) l0.length (flat l0)) := own_set O5 (p := ⟨w.heap.size + 1, 3, none⟩) (Nat.lt_succ_self _) _
  have OLY : Hid ((w4.setCell ⟨w.heap.size + 1, 3, none⟩ (.slice (some ⟨gv, 0, none⟩) l0.length cv)).ownsRow (w.heap.size + 1 + 1) 64 3 (.slice (some ⟨gl, 0, none⟩) 2 cl) 2 (flat [x, y])) := own_set OL.out (p := ⟨w.heap.size + 1, 3, none⟩) (Nat.lt_succ_self _) _
  have AY : Hid (At B w (w4.setCell ⟨w.heap.size + 1, 3, none⟩ (.slice (some ⟨gv, 0, none⟩) l0.length cv)) c a len cap) := A4.set hcw (p := ⟨w.heap.size + 1, 3, none⟩) (Nat.le_succ _) _
  obtain ⟨m4, f4⟩ := M4.g3
  have HNE : Hid (gl ≠ gv) := by
    show gl ≠ gv
    have h1 := (O3.out.lt gv rfl).2
    omega
  clear hown4 hgrow4 hnil4 hb4 OL M4 R4 A4 O4 O5 M3 R3 O3 A3 b3 b4 m3 f3 HSRC hX hzX HV4 N10
  cases calls
  · generalize hZ : w4.setCell ⟨w.heap.size + 1, 3, none⟩ (.slice (some ⟨gv, 0, none⟩) l0.length cv) = Z at *
    have MZ := MY
    have RZ := RY
    have OZ := OY
    have OLZ := OLY
    have AZ := AY
    have HFZ := HF0
    clear MY RY OY OLY AY
    have HSL : Hid (∀ j u, (flat [x, y])[j]? = some u → Z.cell? ((⟨gl, 0, none⟩ : Addr).add j) = some u) := own_src OLZ.out
    obtain ⟨z3, y3⟩ := MZ.out.g3
    have hzZ : w.heap.size + 1 + 1 ≤ Z.heap.size := by
      have := OLZ.out.lt gl rfl
      omega
    go_wp2_with (at_builtin; refine wpList_append_own _ rfl _ _ 33 rfl (w.heap.size + 1 + 1) 64 i0 (.agg #[.int .i64 0, .int .i64 0, .int .i64 0]) 3 24 Tryd.underlying33 hi hz0 hz1 hz2 rfl (by decide) _ _ _ rfl OZ.out ⟨gl, 0, none⟩ 2 cl (flat [x, y]) rfl rfl HSL.out (flat_one _) (by unfold maxLen; omega) (by omega) hzZ ?_)
    intro v6 w6 hown6 hgrow6 hnil6
    have hb6 : Below (w.heap.size + 1 + 1) Z w6 := (Below.refl _ _).grown hgrow6 hzZ (fun g hg => (OZ.out.lt g hg).1)
    have HV6 : Hid (v6 ≠ .slice none 0 0) := fun h => by first | exact hnil6 h | exact absurd (hnil6.1 h).1 (by simp)
    obtain ⟨g6, c6, rfl, hB6⟩ := own_shape hown6 HV6.out
    have O6 : Hid (w6.ownsRow (w.heap.size + 1 + 1) 64 3 (.slice (some ⟨g6, 0, none⟩) (l0.length + 2) c6) (l0 ++ [x, y]).length (flat (l0 ++ [x, y]))) := by
      show World.ownsRow _ _ _ _ _ _ _
      rw [flat_append, List.length_append]; exact hown6
    have M6 := cells_low MZ.out hb6 (by omega)
    have R6 := cells_low RZ.out hb6 (by omega)
    have A6 : Hid (At B w w6 c a len cap) := AZ.out.low hcw (below_cut hb6 (by omega))
    have N10 : (⟨w.heap.size + 1, 3, none⟩ : Addr).block ≠ w.heap.size := by show w.heap.size + 1 ≠ w.heap.size; omega
    have M7 := M6.s3 (.slice (some ⟨g6, 0, none⟩) (l0.length + 2) c6)
    have R7 := R6.far ⟨w.heap.size + 1, 3, none⟩ (.slice (some ⟨g6, 0, none⟩) (l0.length + 2) c6) N10
    have R8 := (((R7.s0 (.int .i64 name)).s1 (.slice none 0 0)).s2 (.int .i64 (-1))).s3 (.slice (some ⟨g6, 0, none⟩) (l0.length + 2) c6)
    obtain ⟨o3, p3⟩ := M6.g3
    obtain ⟨k0, _⟩ := M7.g0
    obtain ⟨k1, _⟩ := M7.g1
    obtain ⟨k2, _⟩ := M7.g2
    obtain ⟨k3, _⟩ := M7.g3
    obtain ⟨r0, q0⟩ := R7.g0
    obtain ⟨r1, q1⟩ := R7.g1
    obtain ⟨r2, q2⟩ := R7.g2
    obtain ⟨r3, q3⟩ := R7.g3
    obtain ⟨e0, _⟩ := R8.g0
    obtain ⟨e1, _⟩ := R8.g1
    obtain ⟨e2, _⟩ := R8.g2
    obtain ⟨e3, _⟩ := R8.g3
    have HOF : Hid ((((((w6.setCell ⟨w.heap.size + 1, 3, none⟩ (.slice (some ⟨g6, 0, none⟩) (l0.length + 2) c6)).setCell ⟨w.heap.size, 0, none⟩ (.int .i64 name)).setCell ⟨w.heap.size, 1, none⟩ (.slice none 0 0)).setCell ⟨w.heap.size, 2, none⟩ (.int .i64 (-1))).setCell ⟨w.heap.size, 3, none⟩ (.slice (some ⟨g6, 0, none⟩) (l0.length + 2) c6)).ownsRow (w.heap.size + 1 + 1) 64 3 (.slice (some ⟨g6, 0, none⟩) (l0.length + 2) c6) (l0 ++ [x, y]).length (flat (l0 ++ [x, y]))) :=
      own_set (own_set (own_set (own_set (own_set O6.out (p := ⟨w.heap.size + 1, 3, none⟩) (Nat.lt_succ_self _) _) (p := ⟨w.heap.size, 0, none⟩) (Nat.lt_succ_of_lt (Nat.lt_succ_self _)) _) (p := ⟨w.heap.size, 1, none⟩) (Nat.lt_succ_of_lt (Nat.lt_succ_self _)) _) (p := ⟨w.heap.size, 2, none⟩) (Nat.lt_succ_of_lt (Nat.lt_succ_self _)) _) (p := ⟨w.heap.size, 3, none⟩) (Nat.lt_succ_of_lt (Nat.lt_succ_self _)) _
    have HAF : Hid (At B w (((((w6.setCell ⟨w.heap.size + 1, 3, none⟩ (.slice (some ⟨g6, 0, none⟩) (l0.length + 2) c6)).setCell ⟨w.heap.size, 0, none⟩ (.int .i64 name)).setCell ⟨w.heap.size, 1, none⟩ (.slice none 0 0)).setCell ⟨w.heap.size, 2, none⟩ (.int .i64 (-1))).setCell ⟨w.heap.size, 3, none⟩ (.slice (some ⟨g6, 0, none⟩) (l0.length + 2) c6)) c a len cap) :=
      ((((A6.out.set hcw (p := ⟨w.heap.size + 1, 3, none⟩) (Nat.le_succ _) _).set hcw (p := ⟨w.heap.size, 0, none⟩) (Nat.le_refl _) _).set hcw (p := ⟨w.heap.size, 1, none⟩) (Nat.le_refl _) _).set hcw (p := ⟨w.heap.size, 2, none⟩) (Nat.le_refl _) _).set hcw (p := ⟨w.heap.size, 3, none⟩) (Nat.le_refl _) _
    clear hown6 hgrow6 hnil6 hb6 M6 R6 M7 R7 R8 A6 O6 z3 y3 N10 MZ RZ OZ OLZ AZ HSL HV6
    go_wp2
    refine bodyPost_ret (v := .agg #[.int .i64 name, .slice none 0 0, .int .i64 (-1), .slice (some ⟨g6, 0, none⟩) (l0.length + 2) c6]) (by simp [results, Tryd.results71, go_sem, e0, e1, e2, e3]) rfl ?_
    have hlf : (l0 ++ [x, y]).length = l0.length + 2 := by simp
    refine ⟨g6, c6, l0 ++ [x, y], by rw [hlf], ?_, by rw [hlf]; omega, HFZ.out, HAF.out⟩
    rw [hlf]
    exact got_of (own_base HOF.out (by omega)) (by simp)
  · by_cases hn : l0.length < 32
    · generalize hY : w4.setCell ⟨w.heap.size + 1, 3, none⟩ (.slice (some ⟨gv, 0, none⟩) l0.length cv) = wY at *
      have hnI : (l0.length : Int) < 32 := by omega
      go_wp2_with fail
      refine (below_at B c _ _ a len cap _ (At.start AY.out.2)).mono ?_
      rintro e w5 ⟨k, rfl, hk0', _, hk2, _, h5⟩
      have hk5 := hk2 (by omega)
      clear hY m4 f4 hk2
      have M5 : Hid (Pg.Cells w5 (w.heap.size + 1) [.int .i64 name, .slice none 0 0, .int .i64 (-1), .slice (some ⟨gv, 0, none⟩) l0.length cv]) := cells_touch MY.out h5.1 hk1
      have R5 : Hid (Pg.Cells w5 w.heap.size [.int .i64 0, .slice none 0 0, .int .i64 0, .slice none 0 0]) := cells_touch RY.out h5.1 hk0
      have O5 : Hid (w5.ownsRow (w.heap.size + 1 + 1) 64 3 (.slice (some ⟨gv, 0, none⟩) l0.length cv) l0.length (flat l0)) := own_touch OY.out h5.1 (by omega)
      have OL5 : Hid (w5.ownsRow (w.heap.size + 1 + 1) 64 3 (.slice (some ⟨gl, 0, none⟩) 2 cl) 2 (flat [x, y])) := own_touch OLY.out h5.1 (by omega)
      have A5 : Hid (At B w w5 c a len cap) := AY.out.step h5
      clear MY RY OY OLY AY h5
      go_wp2_with fail
      refine (below_at B c _ _ a len cap _ (At.start A5.out.2)).mono ?_
      rintro e w6 ⟨r, rfl, hr0, _, hr2, _, h6⟩
      have hr4 := hr2 (by omega)
      clear hr2
      have M6 : Hid (Pg.Cells w6 (w.heap.size + 1) [.int .i64 name, .slice none 0 0, .int .i64 (-1), .slice (some ⟨gv, 0, none⟩) l0.length cv]) := cells_touch M5.out h6.1 hk1
      have R6 : Hid (Pg.Cells w6 w.heap.size [.int .i64 0, .slice none 0 0, .int .i64 0, .slice none 0 0]) := cells_touch R5.out h6.1 hk0
      have O6 : Hid (w6.ownsRow (w.heap.size + 1 + 1) 64 3 (.slice (some ⟨gv, 0, none⟩) l0.length cv) l0.length (flat l0)) := own_touch O5.out h6.1 (by omega)
      have OL6 : Hid (w6.ownsRow (w.heap.size + 1 + 1) 64 3 (.slice (some ⟨gl, 0, none⟩) 2 cl) 2 (flat [x, y])) := own_touch OL5.out h6.1 (by omega)
      have A6 : Hid (At B w w6 c a len cap) := A5.out.step h6
      clear M5 R5 O5 OL5 A5 h6
      have hz6 : w.heap.size + 1 + 1 ≤ w6.heap.size := by
        have := OL6.out.lt gl rfl
        omega
      rcases (show r = 0 ∨ r = 1 ∨ r = 2 ∨ r = 3 by omega) with rfl | rfl | rfl | rfl
      · obtain ⟨m6, f6⟩ := M6.out.g3
        go_wp2_with (at_builtin; refine wpList_append_own _ rfl _ _ 33 rfl (w.heap.size + 1 + 1) 64 i0 (.agg #[.int .i64 0, .int .i64 0, .int .i64 0]) 3 24 Tryd.underlying33 hi hz0 hz1 hz2 rfl (by decide) _ _ _ rfl (O6.out.alloc _) ⟨w6.heap.size, 0, none⟩ 3 3 (flat [(14, k, 0), (17, k, 1), (19, 0, 0)]) rfl rfl (lit_flat w6 [(14, k, 0), (17, k, 1), (19, 0, 0)] _ _ rfl) (flat_one _) (by unfold maxLen; omega) (by omega) (by simp; omega) ?_)
        intro v7 w7 hown7 hgrow7 hnil7
        have hb7 : Below (w.heap.size + 1 + 1) w6 w7 := ((Below.refl _ _).alloc hz6 _).grown hgrow7 (by simp; omega) (fun g hg => (O6.out.lt g hg).1)
        have HV7 : Hid (v7 ≠ .slice none 0 0) := fun h => by first | exact hnil7 h | exact absurd (hnil7.1 h).1 (by simp)
        have OL7 : w7.ownsRow (w.heap.size + 1 + 1) 64 3 (.slice (some ⟨gl, 0, none⟩) 2 cl) 2 (flat [x, y]) := own_grown (OL6.out.alloc _) hgrow7 (fun h => HNE.out (by simpa [Value.ownBlock] using h))
        obtain ⟨g7, c7, rfl, hB7⟩ := own_shape hown7 HV7.out
        obtain ⟨lz, hlz⟩ : ∃ lz, lz = l0 ++ [(14, k, 0), (17, k, 1), (19, 0, 0)] := ⟨_, rfl⟩
        have hln : lz.length = l0.length + 3 := by rw [hlz]; simp
        have HFZ : Hid (Fits (lz ++ [x, y])) := by
          show Fits _
          rw [hlz, List.append_assoc]
          exact fits_mid HF0.out (by simp only [Fits, FitsI, and_true]; omega)
        have O7 : w7.ownsRow (w.heap.size + 1 + 1) 64 3 (.slice (some ⟨g7, 0, none⟩) lz.length c7) lz.length (flat lz) := by
          rw [hln, hlz, flat_append]; exact hown7
        have hlz40 : lz.length ≤ 40 := by omega
        rw [show l0.length + 3 = lz.length from hln.symm]
        have M7 := cells_low M6.out hb7 (by omega)
        have R7 := cells_low R6.out hb7 (by omega)
        have A7 := A6.out.low hcw (below_cut hb7 (by omega))
        obtain ⟨m7, f7⟩ := M7.g3
        have N10 : (⟨w.heap.size + 1, 3, none⟩ : Addr).block ≠ w.heap.size := by show w.heap.size + 1 ≠ w.heap.size; omega
        have MZ : Hid (Pg.Cells (w7.setCell ⟨w.heap.size + 1, 3, none⟩ (.slice (some ⟨g7, 0, none⟩) lz.length c7)) (w.heap.size + 1) [.int .i64 name, .slice none 0 0, .int .i64 (-1), .slice (some ⟨g7, 0, none⟩) lz.length c7]) := M7.s3 _
        have RZ : Hid (Pg.Cells (w7.setCell ⟨w.heap.size + 1, 3, none⟩ (.slice (some ⟨g7, 0, none⟩) lz.length c7)) w.heap.size [.int .i64 0, .slice none 0 0, .int .i64 0, .slice none 0 0]) := R7.far ⟨w.heap.size + 1, 3, none⟩ (.slice (some ⟨g7, 0, none⟩) lz.length c7) N10
        have OZ : Hid ((w7.setCell ⟨w.heap.size + 1, 3, none⟩ (.slice (some ⟨g7, 0, none⟩) lz.length c7)).ownsRow (w.heap.size + 1 + 1) 64 3 (.slice (some ⟨g7, 0, none⟩) lz.length c7) lz.length (flat lz)) := own_set O7 (p := ⟨w.heap.size + 1, 3, none⟩) (Nat.lt_succ_self _) _
        have OLZ : Hid ((w7.setCell ⟨w.heap.size + 1, 3, none⟩ (.slice (some ⟨g7, 0, none⟩) lz.length c7)).ownsRow (w.heap.size + 1 + 1) 64 3 (.slice (some ⟨gl, 0, none⟩) 2 cl) 2 (flat [x, y])) := own_set OL7 (p := ⟨w.heap.size + 1, 3, none⟩) (Nat.lt_succ_self _) _
        have AZ : Hid (At B w (w7.setCell ⟨w.heap.size + 1, 3, none⟩ (.slice (some ⟨g7, 0, none⟩) lz.length c7)) c a len cap) := A7.set hcw (p := ⟨w.heap.size + 1, 3, none⟩) (Nat.le_succ _) _
        clear hown7 hgrow7 hnil7 hb7 HV7 M7 R7 A7 O7 OL7 M6 R6 O6 OL6 A6 N10 m6 f6 hln
        generalize hZ : w7.setCell ⟨w.heap.size + 1, 3, none⟩ (.slice (some ⟨g7, 0, none⟩) lz.length c7) = Z at *
        have HLZ : Hid (lz = l0 ++ [(14, k, 0), (17, k, 1), (19, 0, 0)]) := hlz
        clear hlz
        have HSL : Hid (∀ j u, (flat [x, y])[j]? = some u → Z.cell? ((⟨gl, 0, none⟩ : Addr).add j) = some u) := own_src OLZ.out
        obtain ⟨z3, y3⟩ := MZ.out.g3
        have hzZ : w.heap.size + 1 + 1 ≤ Z.heap.size := by
          have := OLZ.out.lt gl rfl
          omega
        go_wp2_with (at_builtin; refine wpList_append_own _ rfl _ _ 33 rfl (w.heap.size + 1 + 1) 64 i0 (.agg #[.int .i64 0, .int .i64 0, .int .i64 0]) 3 24 Tryd.underlying33 hi hz0 hz1 hz2 rfl (by decide) _ _ _ rfl OZ.out ⟨gl, 0, none⟩ 2 cl (flat [x, y]) rfl rfl HSL.out (flat_one _) (by unfold maxLen; omega) (by omega) hzZ ?_)
        intro v6 w6 hown6 hgrow6 hnil6
        have hb6 : Below (w.heap.size + 1 + 1) Z w6 := (Below.refl _ _).grown hgrow6 hzZ (fun g hg => (OZ.out.lt g hg).1)
        have HV6 : Hid (v6 ≠ .slice none 0 0) := fun h => by first | exact hnil6 h | exact absurd (hnil6.1 h).1 (by simp)
        obtain ⟨g6, c6, rfl, hB6⟩ := own_shape hown6 HV6.out
        have O6 : Hid (w6.ownsRow (w.heap.size + 1 + 1) 64 3 (.slice (some ⟨g6, 0, none⟩) (lz.length + 2) c6) (lz ++ [x, y]).length (flat (lz ++ [x, y]))) := by
          show World.ownsRow _ _ _ _ _ _ _
          rw [flat_append, List.length_append]; exact hown6
        have M6 := cells_low MZ.out hb6 (by omega)
        have R6 := cells_low RZ.out hb6 (by omega)
        have A6 : Hid (At B w w6 c a len cap) := AZ.out.low hcw (below_cut hb6 (by omega))
        have N10 : (⟨w.heap.size + 1, 3, none⟩ : Addr).block ≠ w.heap.size := by show w.heap.size + 1 ≠ w.heap.size; omega
        have M7 := M6.s3 (.slice (some ⟨g6, 0, none⟩) (lz.length + 2) c6)
        have R7 := R6.far ⟨w.heap.size + 1, 3, none⟩ (.slice (some ⟨g6, 0, none⟩) (lz.length + 2) c6) N10
        have R8 := (((R7.s0 (.int .i64 name)).s1 (.slice none 0 0)).s2 (.int .i64 (-1))).s3 (.slice (some ⟨g6, 0, none⟩) (lz.length + 2) c6)
        obtain ⟨o3, p3⟩ := M6.g3
        obtain ⟨k0, _⟩ := M7.g0
        obtain ⟨k1, _⟩ := M7.g1
        obtain ⟨k2, _⟩ := M7.g2
        obtain ⟨k3, _⟩ := M7.g3
        obtain ⟨r0, q0⟩ := R7.g0
        obtain ⟨r1, q1⟩ := R7.g1
        obtain ⟨r2, q2⟩ := R7.g2
        obtain ⟨r3, q3⟩ := R7.g3
        obtain ⟨e0, _⟩ := R8.g0
        obtain ⟨e1, _⟩ := R8.g1
        obtain ⟨e2, _⟩ := R8.g2
        obtain ⟨e3, _⟩ := R8.g3
        have HOF : Hid ((((((w6.setCell ⟨w.heap.size + 1, 3, none⟩ (.slice (some ⟨g6, 0, none⟩) (lz.length + 2) c6)).setCell ⟨w.heap.size, 0, none⟩ (.int .i64 name)).setCell ⟨w.heap.size, 1, none⟩ (.slice none 0 0)).setCell ⟨w.heap.size, 2, none⟩ (.int .i64 (-1))).setCell ⟨w.heap.size, 3, none⟩ (.slice (some ⟨g6, 0, none⟩) (lz.length + 2) c6)).ownsRow (w.heap.size + 1 + 1) 64 3 (.slice (some ⟨g6, 0, none⟩) (lz.length + 2) c6) (lz ++ [x, y]).length (flat (lz ++ [x, y]))) :=
          own_set (own_set (own_set (own_set (own_set O6.out (p := ⟨w.heap.size + 1, 3, none⟩) (Nat.lt_succ_self _) _) (p := ⟨w.heap.size, 0, none⟩) (Nat.lt_succ_of_lt (Nat.lt_succ_self _)) _) (p := ⟨w.heap.size, 1, none⟩) (Nat.lt_succ_of_lt (Nat.lt_succ_self _)) _) (p := ⟨w.heap.size, 2, none⟩) (Nat.lt_succ_of_lt (Nat.lt_succ_self _)) _) (p := ⟨w.heap.size, 3, none⟩) (Nat.lt_succ_of_lt (Nat.lt_succ_self _)) _
        have HAF : Hid (At B w (((((w6.setCell ⟨w.heap.size + 1, 3, none⟩ (.slice (some ⟨g6, 0, none⟩) (lz.length + 2) c6)).setCell ⟨w.heap.size, 0, none⟩ (.int .i64 name)).setCell ⟨w.heap.size, 1, none⟩ (.slice none 0 0)).setCell ⟨w.heap.size, 2, none⟩ (.int .i64 (-1))).setCell ⟨w.heap.size, 3, none⟩ (.slice (some ⟨g6, 0, none⟩) (lz.length + 2) c6)) c a len cap) :=
          ((((A6.out.set hcw (p := ⟨w.heap.size + 1, 3, none⟩) (Nat.le_succ _) _).set hcw (p := ⟨w.heap.size, 0, none⟩) (Nat.le_refl _) _).set hcw (p := ⟨w.heap.size, 1, none⟩) (Nat.le_refl _) _).set hcw (p := ⟨w.heap.size, 2, none⟩) (Nat.le_refl _) _).set hcw (p := ⟨w.heap.size, 3, none⟩) (Nat.le_refl _) _
        clear hown6 hgrow6 hnil6 hb6 M6 R6 M7 R7 R8 A6 O6 z3 y3 N10 MZ RZ OZ OLZ AZ HSL HV6
        go_wp2
        refine bodyPost_ret (v := .agg #[.int .i64 name, .slice none 0 0, .int .i64 (-1), .slice (some ⟨g6, 0, none⟩) (lz.length + 2) c6]) (by simp [results, Tryd.results71, go_sem, e0, e1, e2, e3]) rfl ?_
        have hlf : (lz ++ [x, y]).length = lz.length + 2 := by simp
        refine ⟨g6, c6, lz ++ [x, y], by rw [hlf], ?_, by rw [hlf]; omega, HFZ.out, HAF.out⟩
        rw [hlf]
        exact got_of (own_base HOF.out (by omega)) (by simp)
      · obtain ⟨m6, f6⟩ := M6.out.g3
        go_wp2_with (at_builtin; refine wpList_append_own _ rfl _ _ 33 rfl (w.heap.size + 1 + 1) 64 i0 (.agg #[.int .i64 0, .int .i64 0, .int .i64 0]) 3 24 Tryd.underlying33 hi hz0 hz1 hz2 rfl (by decide) _ _ _ rfl (O6.out.alloc _) ⟨w6.heap.size, 0, none⟩ 3 3 (flat [(14, k, 0), (15, k, 0), (19, 0, 0)]) rfl rfl (lit_flat w6 [(14, k, 0), (15, k, 0), (19, 0, 0)] _ _ rfl) (flat_one _) (by unfold maxLen; omega) (by omega) (by simp; omega) ?_)
        intro v7 w7 hown7 hgrow7 hnil7
        have hb7 : Below (w.heap.size + 1 + 1) w6 w7 := ((Below.refl _ _).alloc hz6 _).grown hgrow7 (by simp; omega) (fun g hg => (O6.out.lt g hg).1)
        have HV7 : Hid (v7 ≠ .slice none 0 0) := fun h => by first | exact hnil7 h | exact absurd (hnil7.1 h).1 (by simp)
        have OL7 : w7.ownsRow (w.heap.size + 1 + 1) 64 3 (.slice (some ⟨gl, 0, none⟩) 2 cl) 2 (flat [x, y]) := own_grown (OL6.out.alloc _) hgrow7 (fun h => HNE.out (by simpa [Value.ownBlock] using h))
        obtain ⟨g7, c7, rfl, hB7⟩ := own_shape hown7 HV7.out
        obtain ⟨lz, hlz⟩ : ∃ lz, lz = l0 ++ [(14, k, 0), (15, k, 0), (19, 0, 0)] := ⟨_, rfl⟩
        have hln : lz.length = l0.length + 3 := by rw [hlz]; simp
        have HFZ : Hid (Fits (lz ++ [x, y])) := by
          show Fits _
          rw [hlz, List.append_assoc]
          exact fits_mid HF0.out (by simp only [Fits, FitsI, and_true]; omega)
        have O7 : w7.ownsRow (w.heap.size + 1 + 1) 64 3 (.slice (some ⟨g7, 0, none⟩) lz.length c7) lz.length (flat lz) := by
          rw [hln, hlz, flat_append]; exact hown7
        have hlz40 : lz.length ≤ 40 := by omega
        rw [show l0.length + 3 = lz.length from hln.symm]
        have M7 := cells_low M6.out hb7 (by omega)
        have R7 := cells_low R6.out hb7 (by omega)
        have A7 := A6.out.low hcw (below_cut hb7 (by omega))
        obtain ⟨m7, f7⟩ := M7.g3
        have N10 : (⟨w.heap.size + 1, 3, none⟩ : Addr).block ≠ w.heap.size := by show w.heap.size + 1 ≠ w.heap.size; omega
        have MZ : Hid (Pg.Cells (w7.setCell ⟨w.heap.size + 1, 3, none⟩ (.slice (some ⟨g7, 0, none⟩) lz.length c7)) (w.heap.size + 1) [.int .i64 name, .slice none 0 0, .int .i64 (-1), .slice (some ⟨g7, 0, none⟩) lz.length c7]) := M7.s3 _
        have RZ : Hid (Pg.Cells (w7.setCell ⟨w.heap.size + 1, 3, none⟩ (.slice (some ⟨g7, 0, none⟩) lz.length c7)) w.heap.size [.int .i64 0, .slice none 0 0, .int .i64 0, .slice none 0 0]) := R7.far ⟨w.heap.size + 1, 3, none⟩ (.slice (some ⟨g7, 0, none⟩) lz.length c7) N10
        have OZ : Hid ((w7.setCell ⟨w.heap.size + 1, 3, none⟩ (.slice (some ⟨g7, 0, none⟩) lz.length c7)).ownsRow (w.heap.size + 1 + 1) 64 3 (.slice (some ⟨g7, 0, none⟩) lz.length c7) lz.length (flat lz)) := own_set O7 (p := ⟨w.heap.size + 1, 3, none⟩) (Nat.lt_succ_self _) _
        have OLZ : Hid ((w7.setCell ⟨w.heap.size + 1, 3, none⟩ (.slice (some ⟨g7, 0, none⟩) lz.length c7)).ownsRow (w.heap.size + 1 + 1) 64 3 (.slice (some ⟨gl, 0, none⟩) 2 cl) 2 (flat [x, y])) := own_set OL7 (p := ⟨w.heap.size + 1, 3, none⟩) (Nat.lt_succ_self _) _
        have AZ : Hid (At B w (w7.setCell ⟨w.heap.size + 1, 3, none⟩ (.slice (some ⟨g7, 0, none⟩) lz.length c7)) c a len cap) := A7.set hcw (p := ⟨w.heap.size + 1, 3, none⟩) (Nat.le_succ _) _
        clear hown7 hgrow7 hnil7 hb7 HV7 M7 R7 A7 O7 OL7 M6 R6 O6 OL6 A6 N10 m6 f6 hln
        generalize hZ : w7.setCell ⟨w.heap.size + 1, 3, none⟩ (.slice (some ⟨g7, 0, none⟩) lz.length c7) = Z at *
        have HLZ : Hid (lz = l0 ++ [(14, k, 0), (15, k, 0), (19, 0, 0)]) := hlz
        clear hlz
        have HSL : Hid (∀ j u, (flat [x, y])[j]? = some u → Z.cell? ((⟨gl, 0, none⟩ : Addr).add j) = some u) := own_src OLZ.out
        obtain ⟨z3, y3⟩ := MZ.out.g3
        have hzZ : w.heap.size + 1 + 1 ≤ Z.heap.size := by
          have := OLZ.out.lt gl rfl
          omega
        go_wp2_with (at_builtin; refine wpList_append_own _ rfl _ _ 33 rfl (w.heap.size + 1 + 1) 64 i0 (.agg #[.int .i64 0, .int .i64 0, .int .i64 0]) 3 24 Tryd.underlying33 hi hz0 hz1 hz2 rfl (by decide) _ _ _ rfl OZ.out ⟨gl, 0, none⟩ 2 cl (flat [x, y]) rfl rfl HSL.out (flat_one _) (by unfold maxLen; omega) (by omega) hzZ ?_)
        intro v6 w6 hown6 hgrow6 hnil6
        have hb6 : Below (w.heap.size + 1 + 1) Z w6 := (Below.refl _ _).grown hgrow6 hzZ (fun g hg => (OZ.out.lt g hg).1)
        have HV6 : Hid (v6 ≠ .slice none 0 0) := fun h => by first | exact hnil6 h | exact absurd (hnil6.1 h).1 (by simp)
        obtain ⟨g6, c6, rfl, hB6⟩ := own_shape hown6 HV6.out
        have O6 : Hid (w6.ownsRow (w.heap.size + 1 + 1) 64 3 (.slice (some ⟨g6, 0, none⟩) (lz.length + 2) c6) (lz ++ [x, y]).length (flat (lz ++ [x, y]))) := by
          show World.ownsRow _ _ _ _ _ _ _
          rw [flat_append, List.length_append]; exact hown6
        have M6 := cells_low MZ.out hb6 (by omega)
        have R6 := cells_low RZ.out hb6 (by omega)
        have A6 : Hid (At B w w6 c a len cap) := AZ.out.low hcw (below_cut hb6 (by omega))
        have N10 : (⟨w.heap.size + 1, 3, none⟩ : Addr).block ≠ w.heap.size := by show w.heap.size + 1 ≠ w.heap.size; omega
        have M7 := M6.s3 (.slice (some ⟨g6, 0, none⟩) (lz.length + 2) c6)
        have R7 := R6.far ⟨w.heap.size + 1, 3, none⟩ (.slice (some ⟨g6, 0, none⟩) (lz.length + 2) c6) N10
        have R8 := (((R7.s0 (.int .i64 name)).s1 (.slice none 0 0)).s2 (.int .i64 (-1))).s3 (.slice (some ⟨g6, 0, none⟩) (lz.length + 2) c6)
        obtain ⟨o3, p3⟩ := M6.g3
        obtain ⟨k0, _⟩ := M7.g0
        obtain ⟨k1, _⟩ := M7.g1
        obtain ⟨k2, _⟩ := M7.g2
        obtain ⟨k3, _⟩ := M7.g3
        obtain ⟨r0, q0⟩ := R7.g0
        obtain ⟨r1, q1⟩ := R7.g1
        obtain ⟨r2, q2⟩ := R7.g2
        obtain ⟨r3, q3⟩ := R7.g3
        obtain ⟨e0, _⟩ := R8.g0
        obtain ⟨e1, _⟩ := R8.g1
        obtain ⟨e2, _⟩ := R8.g2
        obtain ⟨e3, _⟩ := R8.g3
        have HOF : Hid ((((((w6.setCell ⟨w.heap.size + 1, 3, none⟩ (.slice (some ⟨g6, 0, none⟩) (lz.length + 2) c6)).setCell ⟨w.heap.size, 0, none⟩ (.int .i64 name)).setCell ⟨w.heap.size, 1, none⟩ (.slice none 0 0)).setCell ⟨w.heap.size, 2, none⟩ (.int .i64 (-1))).setCell ⟨w.heap.size, 3, none⟩ (.slice (some ⟨g6, 0, none⟩) (lz.length + 2) c6)).ownsRow (w.heap.size + 1 + 1) 64 3 (.slice (some ⟨g6, 0, none⟩) (lz.length + 2) c6) (lz ++ [x, y]).length (flat (lz ++ [x, y]))) :=
          own_set (own_set (own_set (own_set (own_set O6.out (p := ⟨w.heap.size + 1, 3, none⟩) (Nat.lt_succ_self _) _) (p := ⟨w.heap.size, 0, none⟩) (Nat.lt_succ_of_lt (Nat.lt_succ_self _)) _) (p := ⟨w.heap.size, 1, none⟩) (Nat.lt_succ_of_lt (Nat.lt_succ_self _)) _) (p := ⟨w.heap.size, 2, none⟩) (Nat.lt_succ_of_lt (Nat.lt_succ_self _)) _) (p := ⟨w.heap.size, 3, none⟩) (Nat.lt_succ_of_lt (Nat.lt_succ_self _)) _
        have HAF : Hid (At B w (((((w6.setCell ⟨w.heap.size + 1, 3, none⟩ (.slice (some ⟨g6, 0, none⟩) (lz.length + 2) c6)).setCell ⟨w.heap.size, 0, none⟩ (.int .i64 name)).setCell ⟨w.heap.size, 1, none⟩ (.slice none 0 0)).setCell ⟨w.heap.size, 2, none⟩ (.int .i64 (-1))).setCell ⟨w.heap.size, 3, none⟩ (.slice (some ⟨g6, 0, none⟩) (lz.length + 2) c6)) c a len cap) :=
          ((((A6.out.set hcw (p := ⟨w.heap.size + 1, 3, none⟩) (Nat.le_succ _) _).set hcw (p := ⟨w.heap.size, 0, none⟩) (Nat.le_refl _) _).set hcw (p := ⟨w.heap.size, 1, none⟩) (Nat.le_refl _) _).set hcw (p := ⟨w.heap.size, 2, none⟩) (Nat.le_refl _) _).set hcw (p := ⟨w.heap.size, 3, none⟩) (Nat.le_refl _) _
        clear hown6 hgrow6 hnil6 hb6 M6 R6 M7 R7 R8 A6 O6 z3 y3 N10 MZ RZ OZ OLZ AZ HSL HV6
        go_wp2
        refine bodyPost_ret (v := .agg #[.int .i64 name, .slice none 0 0, .int .i64 (-1), .slice (some ⟨g6, 0, none⟩) (lz.length + 2) c6]) (by simp [results, Tryd.results71, go_sem, e0, e1, e2, e3]) rfl ?_
        have hlf : (lz ++ [x, y]).length = lz.length + 2 := by simp
        refine ⟨g6, c6, lz ++ [x, y], by rw [hlf], ?_, by rw [hlf]; omega, HFZ.out, HAF.out⟩
        rw [hlf]
        exact got_of (own_base HOF.out (by omega)) (by simp)
      · obtain ⟨m6, f6⟩ := M6.out.g3
        go_wp2_with (at_builtin; refine wpList_append_own _ rfl _ _ 33 rfl (w.heap.size + 1 + 1) 64 i0 (.agg #[.int .i64 0, .int .i64 0, .int .i64 0]) 3 24 Tryd.underlying33 hi hz0 hz1 hz2 rfl (by decide) _ _ _ rfl (O6.out.alloc _) ⟨w6.heap.size, 0, none⟩ 6 6 (flat [(14, k, 0), (8, 0, 0), (1, 5, 0), (16, k, 0), (15, k, 0), (19, 0, 0)]) rfl rfl (lit_flat w6 [(14, k, 0), (8, 0, 0), (1, 5, 0), (16, k, 0), (15, k, 0), (19, 0, 0)] _ _ rfl) (flat_one _) (by unfold maxLen; omega) (by omega) (by simp; omega) ?_)
        intro v7 w7 hown7 hgrow7 hnil7
        have hb7 : Below (w.heap.size + 1 + 1) w6 w7 := ((Below.refl _ _).alloc hz6 _).grown hgrow7 (by simp; omega) (fun g hg => (O6.out.lt g hg).1)
        have HV7 : Hid (v7 ≠ .slice none 0 0) := fun h => by first | exact hnil7 h | exact absurd (hnil7.1 h).1 (by simp)
        have OL7 : w7.ownsRow (w.heap.size + 1 + 1) 64 3 (.slice (some ⟨gl, 0, none⟩) 2 cl) 2 (flat [x, y]) := own_grown (OL6.out.alloc _) hgrow7 (fun h => HNE.out (by simpa [Value.ownBlock] using h))
        obtain ⟨g7, c7, rfl, hB7⟩ := own_shape hown7 HV7.out
        obtain ⟨lz, hlz⟩ : ∃ lz, lz = l0 ++ [(14, k, 0), (8, 0, 0), (1, 5, 0), (16, k, 0), (15, k, 0), (19, 0, 0)] := ⟨_, rfl⟩
        have hln : lz.length = l0.length + 6 := by rw [hlz]; simp
        have HFZ : Hid (Fits (lz ++ [x, y])) := by
          show Fits _
          rw [hlz, List.append_assoc]
          exact fits_mid HF0.out (by simp only [Fits, FitsI, and_true]; omega)
        have O7 : w7.ownsRow (w.heap.size + 1 + 1) 64 3 (.slice (some ⟨g7, 0, none⟩) lz.length c7) lz.length (flat lz) := by
          rw [hln, hlz, flat_append]; exact hown7
        have hlz40 : lz.length ≤ 40 := by omega
        rw [show l0.length + 6 = lz.length from hln.symm]
        have M7 := cells_low M6.out hb7 (by omega)
        have R7 := cells_low R6.out hb7 (by omega)
        have A7 := A6.out.low hcw (below_cut hb7 (by omega))
        obtain ⟨m7, f7⟩ := M7.g3
        have N10 : (⟨w.heap.size + 1, 3, none⟩ : Addr).block ≠ w.heap.size := by show w.heap.size + 1 ≠ w.heap.size; omega
        have MZ : Hid (Pg.Cells (w7.setCell ⟨w.heap.size + 1, 3, none⟩ (.slice (some ⟨g7, 0, none⟩) lz.length c7)) (w.heap.size + 1) [.int .i64 name, .slice none 0 0, .int .i64 (-1), .slice (some ⟨g7, 0, none⟩) lz.length c7]) := M7.s3 _
        have RZ : Hid (Pg.Cells (w7.setCell ⟨w.heap.size + 1, 3, none⟩ (.slice (some ⟨g7, 0, none⟩) lz.length c7)) w.heap.size [.int .i64 0, .slice none 0 0, .int .i64 0, .slice none 0 0]) := R7.far ⟨w.heap.size + 1, 3, none⟩ (.slice (some ⟨g7, 0, none⟩) lz.length c7) N10
        have OZ : Hid ((w7.setCell ⟨w.heap.size + 1, 3, none⟩ (.slice (some ⟨g7, 0, none⟩) lz.length c7)).ownsRow (w.heap.size + 1 + 1) 64 3 (.slice (some ⟨g7, 0, none⟩) lz.length c7) lz.length (flat lz)) := own_set O7 (p := ⟨w.heap.size + 1, 3, none⟩) (Nat.lt_succ_self _) _
        have OLZ : Hid ((w7.setCell ⟨w.heap.size + 1, 3, none⟩ (.slice (some ⟨g7, 0, none⟩) lz.length c7)).ownsRow (w.heap.size + 1 + 1) 64 3 (.slice (some ⟨gl, 0, none⟩) 2 cl) 2 (flat [x, y])) := own_set OL7 (p := ⟨w.heap.size + 1, 3, none⟩) (Nat.lt_succ_self _) _
        have AZ : Hid (At B w (w7.setCell ⟨w.heap.size + 1, 3, none⟩ (.slice (some ⟨g7, 0, none⟩) lz.length c7)) c a len cap) := A7.set hcw (p := ⟨w.heap.size + 1, 3, none⟩) (Nat.le_succ _) _
        clear hown7 hgrow7 hnil7 hb7 HV7 M7 R7 A7 O7 OL7 M6 R6 O6 OL6 A6 N10 m6 f6 hln
        generalize hZ : w7.setCell ⟨w.heap.size + 1, 3, none⟩ (.slice (some ⟨g7, 0, none⟩) lz.length c7) = Z at *
        have HLZ : Hid (lz = l0 ++ [(14, k, 0), (8, 0, 0), (1, 5, 0), (16, k, 0), (15, k, 0), (19, 0, 0)]) := hlz
        clear hlz
        have HSL : Hid (∀ j u, (flat [x, y])[j]? = some u → Z.cell? ((⟨gl, 0, none⟩ : Addr).add j) = some u) := own_src OLZ.out
        obtain ⟨z3, y3⟩ := MZ.out.g3
        have hzZ : w.heap.size + 1 + 1 ≤ Z.heap.size := by
          have := OLZ.out.lt gl rfl
          omega
        go_wp2_with (at_builtin; refine wpList_append_own _ rfl _ _ 33 rfl (w.heap.size + 1 + 1) 64 i0 (.agg #[.int .i64 0, .int .i64 0, .int .i64 0]) 3 24 Tryd.underlying33 hi hz0 hz1 hz2 rfl (by decide) _ _ _ rfl OZ.out ⟨gl, 0, none⟩ 2 cl (flat [x, y]) rfl rfl HSL.out (flat_one _) (by unfold maxLen; omega) (by omega) hzZ ?_)
        intro v6 w6 hown6 hgrow6 hnil6
        have hb6 : Below (w.heap.size + 1 + 1) Z w6 := (Below.refl _ _).grown hgrow6 hzZ (fun g hg => (OZ.out.lt g hg).1)
        have HV6 : Hid (v6 ≠ .slice none 0 0) := fun h => by first | exact hnil6 h | exact absurd (hnil6.1 h).1 (by simp)
        obtain ⟨g6, c6, rfl, hB6⟩ := own_shape hown6 HV6.out
        have O6 : Hid (w6.ownsRow (w.heap.size + 1 + 1) 64 3 (.slice (some ⟨g6, 0, none⟩) (lz.length + 2) c6) (lz ++ [x, y]).length (flat (lz ++ [x, y]))) := by
          show World.ownsRow _ _ _ _ _ _ _
          rw [flat_append, List.length_append]; exact hown6
        have M6 := cells_low MZ.out hb6 (by omega)
        have R6 := cells_low RZ.out hb6 (by omega)
        have A6 : Hid (At B w w6 c a len cap) := AZ.out.low hcw (below_cut hb6 (by omega))
        have N10 : (⟨w.heap.size + 1, 3, none⟩ : Addr).block ≠ w.heap.size := by show w.heap.size + 1 ≠ w.heap.size; omega
        have M7 := M6.s3 (.slice (some ⟨g6, 0, none⟩) (lz.length + 2) c6)
        have R7 := R6.far ⟨w.heap.size + 1, 3, none⟩ (.slice (some ⟨g6, 0, none⟩) (lz.length + 2) c6) N10
        have R8 := (((R7.s0 (.int .i64 name)).s1 (.slice none 0 0)).s2 (.int .i64 (-1))).s3 (.slice (some ⟨g6, 0, none⟩) (lz.length + 2) c6)
        obtain ⟨o3, p3⟩ := M6.g3
        obtain ⟨k0, _⟩ := M7.g0
        obtain ⟨k1, _⟩ := M7.g1
        obtain ⟨k2, _⟩ := M7.g2
        obtain ⟨k3, _⟩ := M7.g3
        obtain ⟨r0, q0⟩ := R7.g0
        obtain ⟨r1, q1⟩ := R7.g1
        obtain ⟨r2, q2⟩ := R7.g2
        obtain ⟨r3, q3⟩ := R7.g3
        obtain ⟨e0, _⟩ := R8.g0
        obtain ⟨e1, _⟩ := R8.g1
        obtain ⟨e2, _⟩ := R8.g2
        obtain ⟨e3, _⟩ := R8.g3
        have HOF : Hid ((((((w6.setCell ⟨w.heap.size + 1, 3, none⟩ (.slice (some ⟨g6, 0, none⟩) (lz.length + 2) c6)).setCell ⟨w.heap.size, 0, none⟩ (.int .i64 name)).setCell ⟨w.heap.size, 1, none⟩ (.slice none 0 0)).setCell ⟨w.heap.size, 2, none⟩ (.int .i64 (-1))).setCell ⟨w.heap.size, 3, none⟩ (.slice (some ⟨g6, 0, none⟩) (lz.length + 2) c6)).ownsRow (w.heap.size + 1 + 1) 64 3 (.slice (some ⟨g6, 0, none⟩) (lz.length + 2) c6) (lz ++ [x, y]).length (flat (lz ++ [x, y]))) :=
          own_set (own_set (own_set (own_set (own_set O6.out (p := ⟨w.heap.size + 1, 3, none⟩) (Nat.lt_succ_self _) _) (p := ⟨w.heap.size, 0, none⟩) (Nat.lt_succ_of_lt (Nat.lt_succ_self _)) _) (p := ⟨w.heap.size, 1, none⟩) (Nat.lt_succ_of_lt (Nat.lt_succ_self _)) _) (p := ⟨w.heap.size, 2, none⟩) (Nat.lt_succ_of_lt (Nat.lt_succ_self _)) _) (p := ⟨w.heap.size, 3, none⟩) (Nat.lt_succ_of_lt (Nat.lt_succ_self _)) _
        have HAF : Hid (At B w (((((w6.setCell ⟨w.heap.size + 1, 3, none⟩ (.slice (some ⟨g6, 0, none⟩) (lz.length + 2) c6)).setCell ⟨w.heap.size, 0, none⟩ (.int .i64 name)).setCell ⟨w.heap.size, 1, none⟩ (.slice none 0 0)).setCell ⟨w.heap.size, 2, none⟩ (.int .i64 (-1))).setCell ⟨w.heap.size, 3, none⟩ (.slice (some ⟨g6, 0, none⟩) (lz.length + 2) c6)) c a len cap) :=
          ((((A6.out.set hcw (p := ⟨w.heap.size + 1, 3, none⟩) (Nat.le_succ _) _).set hcw (p := ⟨w.heap.size, 0, none⟩) (Nat.le_refl _) _).set hcw (p := ⟨w.heap.size, 1, none⟩) (Nat.le_refl _) _).set hcw (p := ⟨w.heap.size, 2, none⟩) (Nat.le_refl _) _).set hcw (p := ⟨w.heap.size, 3, none⟩) (Nat.le_refl _) _
        clear hown6 hgrow6 hnil6 hb6 M6 R6 M7 R7 R8 A6 O6 z3 y3 N10 MZ RZ OZ OLZ AZ HSL HV6
        go_wp2
        refine bodyPost_ret (v := .agg #[.int .i64 name, .slice none 0 0, .int .i64 (-1), .slice (some ⟨g6, 0, none⟩) (lz.length + 2) c6]) (by simp [results, Tryd.results71, go_sem, e0, e1, e2, e3]) rfl ?_
        have hlf : (lz ++ [x, y]).length = lz.length + 2 := by simp
        refine ⟨g6, c6, lz ++ [x, y], by rw [hlf], ?_, by rw [hlf]; omega, HFZ.out, HAF.out⟩
        rw [hlf]
        exact got_of (own_base HOF.out (by omega)) (by simp)
      · obtain ⟨m6, f6⟩ := M6.out.g3
        go_wp2_with (at_builtin; refine wpList_append_own_at _ rfl _ _ 33 rfl (w.heap.size + 1 + 1) 64 i0 (.agg #[.int .i64 0, .int .i64 0, .int .i64 0]) 3 24 Tryd.underlying33 hi hz0 hz1 hz2 rfl (by decide) _ _ _ rfl (O6.out.alloc _) ⟨w6.heap.size, 0, none⟩ 5 5 (flat [(13, 0, 0), (3, 4, 0), (2, 4, 0), (17, k, 1), (19, 0, 0)]) rfl rfl (lit_flat w6 [(13, 0, 0), (3, 4, 0), (2, 4, 0), (17, k, 1), (19, 0, 0)] _ _ rfl) (flat_one _) (by unfold maxLen; omega) (by omega) (by simp; omega) ?_)
        intro v7 w7 hown7 hgrow7 hnil7 hloc7
        have hb7 : Below (w.heap.size + 1 + 1) w6 w7 := ((Below.refl _ _).alloc hz6 _).grown hgrow7 (by simp; omega) (fun g hg => (O6.out.lt g hg).1)
        have HV7 : Hid (v7 ≠ .slice none 0 0) := fun h => by first | exact hnil7 h | exact absurd (hnil7.1 h).1 (by simp)
        have OL7 : w7.ownsRow (w.heap.size + 1 + 1) 64 3 (.slice (some ⟨gl, 0, none⟩) 2 cl) 2 (flat [x, y]) := own_grown (OL6.out.alloc _) hgrow7 (fun h => HNE.out (by simpa [Value.ownBlock] using h))
        obtain ⟨g7, c7, rfl, hB7⟩ := own_shape hown7 HV7.out
        have HN7 : Hid (gl ≠ g7) := by
          show gl ≠ g7
          have h1 := (OL6.out.lt gl rfl).2
          have h2 := HNE.out
          simp [Value.ownBlock] at hloc7
          omega
        have O7 : w7.ownsRow (w.heap.size + 1 + 1) 64 3 (.slice (some ⟨g7, 0, none⟩) (l0.length + 5) c7) (l0.length + 5) (flat (l0 ++ [(13, 0, 0), (3, 4, 0), (2, 4, 0), (17, k, 1), (19, 0, 0)])) := by
          rw [flat_append]; exact hown7
        have M7 := cells_low M6.out hb7 (by omega)
        have R7 := cells_low R6.out hb7 (by omega)
        have A7 := A6.out.low hcw (below_cut hb7 (by omega))
        obtain ⟨m7, f7⟩ := M7.g3
        have N10 : (⟨w.heap.size + 1, 3, none⟩ : Addr).block ≠ w.heap.size := by show w.heap.size + 1 ≠ w.heap.size; omega
        have MQ : Hid (Pg.Cells (w7.setCell ⟨w.heap.size + 1, 3, none⟩ (.slice (some ⟨g7, 0, none⟩) (l0.length + 5) c7)) (w.heap.size + 1) [.int .i64 name, .slice none 0 0, .int .i64 (-1), .slice (some ⟨g7, 0, none⟩) (l0.length + 5) c7]) := M7.s3 _
        have RQ : Hid (Pg.Cells (w7.setCell ⟨w.heap.size + 1, 3, none⟩ (.slice (some ⟨g7, 0, none⟩) (l0.length + 5) c7)) w.heap.size [.int .i64 0, .slice none 0 0, .int .i64 0, .slice none 0 0]) := R7.far ⟨w.heap.size + 1, 3, none⟩ (.slice (some ⟨g7, 0, none⟩) (l0.length + 5) c7) N10
        have OQ : Hid ((w7.setCell ⟨w.heap.size + 1, 3, none⟩ (.slice (some ⟨g7, 0, none⟩) (l0.length + 5) c7)).ownsRow (w.heap.size + 1 + 1) 64 3 (.slice (some ⟨g7, 0, none⟩) (l0.length + 5) c7) (l0.length + 5) (flat (l0 ++ [(13, 0, 0), (3, 4, 0), (2, 4, 0), (17, k, 1), (19, 0, 0)]))) := own_set O7 (p := ⟨w.heap.size + 1, 3, none⟩) (Nat.lt_succ_self _) _
        have OLQ : Hid ((w7.setCell ⟨w.heap.size + 1, 3, none⟩ (.slice (some ⟨g7, 0, none⟩) (l0.length + 5) c7)).ownsRow (w.heap.size + 1 + 1) 64 3 (.slice (some ⟨gl, 0, none⟩) 2 cl) 2 (flat [x, y])) := own_set OL7 (p := ⟨w.heap.size + 1, 3, none⟩) (Nat.lt_succ_self _) _
        have AQ : Hid (At B w (w7.setCell ⟨w.heap.size + 1, 3, none⟩ (.slice (some ⟨g7, 0, none⟩) (l0.length + 5) c7)) c a len cap) := A7.set hcw (p := ⟨w.heap.size + 1, 3, none⟩) (Nat.le_succ _) _
        clear hown7 hgrow7 hnil7 hb7 HV7 M7 R7 A7 O7 OL7 M6 R6 O6 OL6 A6 N10 m6 f6 hloc7
        generalize hQ : w7.setCell ⟨w.heap.size + 1, 3, none⟩ (.slice (some ⟨g7, 0, none⟩) (l0.length + 5) c7) = wQ at *
        go_wp2_with fail
        refine (once_at B c _ _ a len cap _ (At.start AQ.out.2)).mono ?_
        rintro e w8 ⟨r, rfl, h8⟩
        have M8 := cells_touch MQ.out h8.1 hk1
        have R8 := cells_touch RQ.out h8.1 hk0
        have O8 := own_touch OQ.out h8.1 (by omega)
        have OL8 := own_touch OLQ.out h8.1 (by omega)
        have A8 := AQ.out.step h8
        clear MQ RQ OQ OLQ AQ h8 hQ m7 f7
        cases r
        · obtain ⟨lz, hlz⟩ : ∃ lz, lz = l0 ++ [(13, 0, 0), (3, 4, 0), (2, 4, 0), (17, k, 1), (19, 0, 0)] := ⟨_, rfl⟩
          have hln : lz.length = l0.length + 5 := by rw [hlz]; simp
          have HFZ : Hid (Fits (lz ++ [x, y])) := by
            show Fits _
            rw [hlz, List.append_assoc]
            exact fits_mid HF0.out (by simp only [Fits, FitsI, and_true]; omega)
          have hlz40 : lz.length ≤ 40 := by omega
          rw [← hlz, ← hln] at O8
          rw [← hln] at M8
          have MZ : Hid (Pg.Cells w8 _ _) := M8
          have RZ : Hid (Pg.Cells w8 _ _) := R8
          have OZ : Hid (World.ownsRow w8 _ _ _ _ _ _) := O8
          have OLZ : Hid (World.ownsRow w8 _ _ _ _ _ _) := OL8
          have AZ : Hid (At B w w8 c a len cap) := A8
          clear M8 R8 O8 OL8 A8 hlz
          rw [← hln]
          clear hln
          have HSL : Hid (∀ j u, (flat [x, y])[j]? = some u → w8.cell? ((⟨gl, 0, none⟩ : Addr).add j) = some u) := own_src OLZ.out
          obtain ⟨z3, y3⟩ := MZ.out.g3
          have hzZ : w.heap.size + 1 + 1 ≤ w8.heap.size := by
            have := OLZ.out.lt gl rfl
            omega
          go_wp2_with (at_builtin; refine wpList_append_own _ rfl _ _ 33 rfl (w.heap.size + 1 + 1) 64 i0 (.agg #[.int .i64 0, .int .i64 0, .int .i64 0]) 3 24 Tryd.underlying33 hi hz0 hz1 hz2 rfl (by decide) _ _ _ rfl OZ.out ⟨gl, 0, none⟩ 2 cl (flat [x, y]) rfl rfl HSL.out (flat_one _) (by unfold maxLen; omega) (by omega) hzZ ?_)
          intro v6 w6 hown6 hgrow6 hnil6
          have hb6 : Below (w.heap.size + 1 + 1) w8 w6 := (Below.refl _ _).grown hgrow6 hzZ (fun g hg => (OZ.out.lt g hg).1)
          have HV6 : Hid (v6 ≠ .slice none 0 0) := fun h => by first | exact hnil6 h | exact absurd (hnil6.1 h).1 (by simp)
          obtain ⟨g6, c6, rfl, hB6⟩ := own_shape hown6 HV6.out
          have O6 : Hid (w6.ownsRow (w.heap.size + 1 + 1) 64 3 (.slice (some ⟨g6, 0, none⟩) (lz.length + 2) c6) (lz ++ [x, y]).length (flat (lz ++ [x, y]))) := by
            show World.ownsRow _ _ _ _ _ _ _
            rw [flat_append, List.length_append]; exact hown6
          have M6 := cells_low MZ.out hb6 (by omega)
          have R6 := cells_low RZ.out hb6 (by omega)
          have A6 : Hid (At B w w6 c a len cap) := AZ.out.low hcw (below_cut hb6 (by omega))
          have N10 : (⟨w.heap.size + 1, 3, none⟩ : Addr).block ≠ w.heap.size := by show w.heap.size + 1 ≠ w.heap.size; omega
          have M7 := M6.s3 (.slice (some ⟨g6, 0, none⟩) (lz.length + 2) c6)
          have R7 := R6.far ⟨w.heap.size + 1, 3, none⟩ (.slice (some ⟨g6, 0, none⟩) (lz.length + 2) c6) N10
          have R8 := (((R7.s0 (.int .i64 name)).s1 (.slice none 0 0)).s2 (.int .i64 (-1))).s3 (.slice (some ⟨g6, 0, none⟩) (lz.length + 2) c6)
          obtain ⟨o3, p3⟩ := M6.g3
          obtain ⟨k0, _⟩ := M7.g0
          obtain ⟨k1, _⟩ := M7.g1
          obtain ⟨k2, _⟩ := M7.g2
          obtain ⟨k3, _⟩ := M7.g3
          obtain ⟨r0, q0⟩ := R7.g0
          obtain ⟨r1, q1⟩ := R7.g1
          obtain ⟨r2, q2⟩ := R7.g2
          obtain ⟨r3, q3⟩ := R7.g3
          obtain ⟨e0, _⟩ := R8.g0
          obtain ⟨e1, _⟩ := R8.g1
          obtain ⟨e2, _⟩ := R8.g2
          obtain ⟨e3, _⟩ := R8.g3
          have HOF : Hid ((((((w6.setCell ⟨w.heap.size + 1, 3, none⟩ (.slice (some ⟨g6, 0, none⟩) (lz.length + 2) c6)).setCell ⟨w.heap.size, 0, none⟩ (.int .i64 name)).setCell ⟨w.heap.size, 1, none⟩ (.slice none 0 0)).setCell ⟨w.heap.size, 2, none⟩ (.int .i64 (-1))).setCell ⟨w.heap.size, 3, none⟩ (.slice (some ⟨g6, 0, none⟩) (lz.length + 2) c6)).ownsRow (w.heap.size + 1 + 1) 64 3 (.slice (some ⟨g6, 0, none⟩) (lz.length + 2) c6) (lz ++ [x, y]).length (flat (lz ++ [x, y]))) :=
            own_set (own_set (own_set (own_set (own_set O6.out (p := ⟨w.heap.size + 1, 3, none⟩) (Nat.lt_succ_self _) _) (p := ⟨w.heap.size, 0, none⟩) (Nat.lt_succ_of_lt (Nat.lt_succ_self _)) _) (p := ⟨w.heap.size, 1, none⟩) (Nat.lt_succ_of_lt (Nat.lt_succ_self _)) _) (p := ⟨w.heap.size, 2, none⟩) (Nat.lt_succ_of_lt (Nat.lt_succ_self _)) _) (p := ⟨w.heap.size, 3, none⟩) (Nat.lt_succ_of_lt (Nat.lt_succ_self _)) _
          have HAF : Hid (At B w (((((w6.setCell ⟨w.heap.size + 1, 3, none⟩ (.slice (some ⟨g6, 0, none⟩) (lz.length + 2) c6)).setCell ⟨w.heap.size, 0, none⟩ (.int .i64 name)).setCell ⟨w.heap.size, 1, none⟩ (.slice none 0 0)).setCell ⟨w.heap.size, 2, none⟩ (.int .i64 (-1))).setCell ⟨w.heap.size, 3, none⟩ (.slice (some ⟨g6, 0, none⟩) (lz.length + 2) c6)) c a len cap) :=
            ((((A6.out.set hcw (p := ⟨w.heap.size + 1, 3, none⟩) (Nat.le_succ _) _).set hcw (p := ⟨w.heap.size, 0, none⟩) (Nat.le_refl _) _).set hcw (p := ⟨w.heap.size, 1, none⟩) (Nat.le_refl _) _).set hcw (p := ⟨w.heap.size, 2, none⟩) (Nat.le_refl _) _).set hcw (p := ⟨w.heap.size, 3, none⟩) (Nat.le_refl _) _
          clear hown6 hgrow6 hnil6 hb6 M6 R6 M7 R7 R8 A6 O6 z3 y3 N10 MZ RZ OZ OLZ AZ HSL HV6
          go_wp2
          refine bodyPost_ret (v := .agg #[.int .i64 name, .slice none 0 0, .int .i64 (-1), .slice (some ⟨g6, 0, none⟩) (lz.length + 2) c6]) (by simp [results, Tryd.results71, go_sem, e0, e1, e2, e3]) rfl ?_
          have hlf : (lz ++ [x, y]).length = lz.length + 2 := by simp
          refine ⟨g6, c6, lz ++ [x, y], by rw [hlf], ?_, by rw [hlf]; omega, HFZ.out, HAF.out⟩
          rw [hlf]
          exact got_of (own_base HOF.out (by omega)) (by simp)
        · have hd : ∀ i, i < 3 → ∃ v, w8.cell? ⟨g7, l0.length * 3 + i, none⟩ = some v := fun i hi => by
            have hc := O8.cellAt (l0.length * 3 + i) (by omega)
            have hl : l0.length * 3 + i < (flat (l0 ++ [(13, 0, 0), (3, 4, 0), (2, 4, 0), (17, k, 1), (19, 0, 0)])).length := by
              rw [flat_len]
              simp
              omega
            rw [List.getElem?_eq_getElem hl] at hc
            exact ⟨_, hc⟩
          obtain ⟨x0, d0⟩ := hd 0 (by omega)
          obtain ⟨x1, d1⟩ := hd 1 (by omega)
          obtain ⟨x2, d2⟩ := hd 2 (by omega)
          rw [Nat.add_zero] at d0
          have f0 := O8.frozenAt (l0.length * 3)
          have f1 := O8.frozenAt (l0.length * 3 + 1)
          have f2 := O8.frozenAt (l0.length * 3 + 2)
          have T1 := O8.stored (l0.length * 3) (.int .i64 14)
          have T2 := T1.1.stored (l0.length * 3 + 1) (.int .i64 k)
          have T3 := T2.1.stored (l0.length * 3 + 2) (.int .i64 0)
          obtain ⟨lz, hlz⟩ : ∃ lz, lz = l0 ++ [(14, k, 0), (3, 4, 0), (2, 4, 0), (17, k, 1), (19, 0, 0)] := ⟨_, rfl⟩
          have hln : lz.length = l0.length + 5 := by rw [hlz]; simp
          have HFZ : Hid (Fits (lz ++ [x, y])) := by
            show Fits _
            rw [hlz, List.append_assoc]
            exact fits_mid HF0.out (by simp only [Fits, FitsI, and_true]; omega)
          have hlz40 : lz.length ≤ 40 := by omega
          have hfl : (((flat (l0 ++ [(13, 0, 0), (3, 4, 0), (2, 4, 0), (17, k, 1), (19, 0, 0)])).set (l0.length * 3) (.int .i64 14)).set (l0.length * 3 + 1) (.int .i64 k)).set (l0.length * 3 + 2) (.int .i64 0) = flat lz := by
            rw [hlz, flat_append, flat_append, ← flat_len l0]
            simp [List.set_append_right, flat]
          have O9 := T3.1
          rw [hfl] at O9
          have OL9 := own_grown (own_grown (own_grown OL8 T1.2 (fun h => HN7.out (by simpa using h))) T2.2 (fun h => HN7.out (by simpa using h))) T3.2 (fun h => HN7.out (by simpa using h))
          have hg7a : g7 ≠ w.heap.size + 1 := by omega
          have hg7b : g7 ≠ w.heap.size := by omega
          have M9 := ((M8.far ⟨g7, l0.length * 3, none⟩ (.int .i64 14) hg7a).far ⟨g7, l0.length * 3 + 1, none⟩ (.int .i64 k) hg7a).far ⟨g7, l0.length * 3 + 2, none⟩ (.int .i64 0) hg7a
          have R9 := ((R8.far ⟨g7, l0.length * 3, none⟩ (.int .i64 14) hg7b).far ⟨g7, l0.length * 3 + 1, none⟩ (.int .i64 k) hg7b).far ⟨g7, l0.length * 3 + 2, none⟩ (.int .i64 0) hg7b
          have hg7c : w.heap.size ≤ g7 := by omega
          have A9 := ((A8.set hcw (p := ⟨g7, l0.length * 3, none⟩) hg7c (.int .i64 14)).set hcw (p := ⟨g7, l0.length * 3 + 1, none⟩) hg7c (.int .i64 k)).set hcw (p := ⟨g7, l0.length * 3 + 2, none⟩) hg7c (.int .i64 0)
          obtain ⟨m8, _⟩ := M8.g3
          rw [← hln] at O9 M9
          have MZ : Hid (Pg.Cells _ _ _) := M9
          have RZ : Hid (Pg.Cells _ _ _) := R9
          have OZ : Hid (World.ownsRow _ _ _ _ _ _ _) := O9
          have OLZ : Hid (World.ownsRow _ _ _ _ _ _ _) := OL9
          have AZ : Hid (At B w _ c a len cap) := A9
          clear hd T1 T2 T3 M8 R8 O8 OL8 A8 O9 OL9 M9 R9 A9 hfl hlz
          generalize hZ : ((w8.setCell ⟨g7, l0.length * 3, none⟩ (.int .i64 14)).setCell ⟨g7, l0.length * 3 + 1, none⟩ (.int .i64 k)).setCell ⟨g7, l0.length * 3 + 2, none⟩ (.int .i64 0) = Z at *
          have HLN : Hid (lz.length = l0.length + 5) := hln
          clear hln
          have HSL : Hid (∀ j u, (flat [x, y])[j]? = some u → Z.cell? ((⟨gl, 0, none⟩ : Addr).add j) = some u) := own_src OLZ.out
          obtain ⟨z3, y3⟩ := MZ.out.g3
          have hzZ : w.heap.size + 1 + 1 ≤ Z.heap.size := by
            have := OLZ.out.lt gl rfl
            omega
          go_wp2_with (at_builtin; refine wpList_append_own _ rfl _ _ 33 rfl (w.heap.size + 1 + 1) 64 i0 (.agg #[.int .i64 0, .int .i64 0, .int .i64 0]) 3 24 Tryd.underlying33 hi hz0 hz1 hz2 rfl (by decide) _ _ _ rfl OZ.out ⟨gl, 0, none⟩ 2 cl (flat [x, y]) rfl rfl HSL.out (flat_one _) (by unfold maxLen; omega) (by omega) hzZ ?_)
          intro v6 w6 hown6 hgrow6 hnil6
          have hb6 : Below (w.heap.size + 1 + 1) Z w6 := (Below.refl _ _).grown hgrow6 hzZ (fun g hg => (OZ.out.lt g hg).1)
          have HV6 : Hid (v6 ≠ .slice none 0 0) := fun h => by first | exact hnil6 h | exact absurd (hnil6.1 h).1 (by simp)
          obtain ⟨g6, c6, rfl, hB6⟩ := own_shape hown6 HV6.out
          have O6 : Hid (w6.ownsRow (w.heap.size + 1 + 1) 64 3 (.slice (some ⟨g6, 0, none⟩) (lz.length + 2) c6) (lz ++ [x, y]).length (flat (lz ++ [x, y]))) := by
            show World.ownsRow _ _ _ _ _ _ _
            rw [flat_append, List.length_append]; exact hown6
          have M6 := cells_low MZ.out hb6 (by omega)
          have R6 := cells_low RZ.out hb6 (by omega)
          have A6 : Hid (At B w w6 c a len cap) := AZ.out.low hcw (below_cut hb6 (by omega))
          have N10 : (⟨w.heap.size + 1, 3, none⟩ : Addr).block ≠ w.heap.size := by show w.heap.size + 1 ≠ w.heap.size; omega
          have M7 := M6.s3 (.slice (some ⟨g6, 0, none⟩) (lz.length + 2) c6)
          have R7 := R6.far ⟨w.heap.size + 1, 3, none⟩ (.slice (some ⟨g6, 0, none⟩) (lz.length + 2) c6) N10
          have R8 := (((R7.s0 (.int .i64 name)).s1 (.slice none 0 0)).s2 (.int .i64 (-1))).s3 (.slice (some ⟨g6, 0, none⟩) (lz.length + 2) c6)
          obtain ⟨o3, p3⟩ := M6.g3
          obtain ⟨k0, _⟩ := M7.g0
          obtain ⟨k1, _⟩ := M7.g1
          obtain ⟨k2, _⟩ := M7.g2
          obtain ⟨k3, _⟩ := M7.g3
          obtain ⟨r0, q0⟩ := R7.g0
          obtain ⟨r1, q1⟩ := R7.g1
          obtain ⟨r2, q2⟩ := R7.g2
          obtain ⟨r3, q3⟩ := R7.g3
          obtain ⟨e0, _⟩ := R8.g0
          obtain ⟨e1, _⟩ := R8.g1
          obtain ⟨e2, _⟩ := R8.g2
          obtain ⟨e3, _⟩ := R8.g3
          have HOF : Hid ((((((w6.setCell ⟨w.heap.size + 1, 3, none⟩ (.slice (some ⟨g6, 0, none⟩) (lz.length + 2) c6)).setCell ⟨w.heap.size, 0, none⟩ (.int .i64 name)).setCell ⟨w.heap.size, 1, none⟩ (.slice none 0 0)).setCell ⟨w.heap.size, 2, none⟩ (.int .i64 (-1))).setCell ⟨w.heap.size, 3, none⟩ (.slice (some ⟨g6, 0, none⟩) (lz.length + 2) c6)).ownsRow (w.heap.size + 1 + 1) 64 3 (.slice (some ⟨g6, 0, none⟩) (lz.length + 2) c6) (lz ++ [x, y]).length (flat (lz ++ [x, y]))) :=
            own_set (own_set (own_set (own_set (own_set O6.out (p := ⟨w.heap.size + 1, 3, none⟩) (Nat.lt_succ_self _) _) (p := ⟨w.heap.size, 0, none⟩) (Nat.lt_succ_of_lt (Nat.lt_succ_self _)) _) (p := ⟨w.heap.size, 1, none⟩) (Nat.lt_succ_of_lt (Nat.lt_succ_self _)) _) (p := ⟨w.heap.size, 2, none⟩) (Nat.lt_succ_of_lt (Nat.lt_succ_self _)) _) (p := ⟨w.heap.size, 3, none⟩) (Nat.lt_succ_of_lt (Nat.lt_succ_self _)) _
          have HAF : Hid (At B w (((((w6.setCell ⟨w.heap.size + 1, 3, none⟩ (.slice (some ⟨g6, 0, none⟩) (lz.length + 2) c6)).setCell ⟨w.heap.size, 0, none⟩ (.int .i64 name)).setCell ⟨w.heap.size, 1, none⟩ (.slice none 0 0)).setCell ⟨w.heap.size, 2, none⟩ (.int .i64 (-1))).setCell ⟨w.heap.size, 3, none⟩ (.slice (some ⟨g6, 0, none⟩) (lz.length + 2) c6)) c a len cap) :=
            ((((A6.out.set hcw (p := ⟨w.heap.size + 1, 3, none⟩) (Nat.le_succ _) _).set hcw (p := ⟨w.heap.size, 0, none⟩) (Nat.le_refl _) _).set hcw (p := ⟨w.heap.size, 1, none⟩) (Nat.le_refl _) _).set hcw (p := ⟨w.heap.size, 2, none⟩) (Nat.le_refl _) _).set hcw (p := ⟨w.heap.size, 3, none⟩) (Nat.le_refl _) _
          clear hown6 hgrow6 hnil6 hb6 M6 R6 M7 R7 R8 A6 O6 z3 y3 N10 MZ RZ OZ OLZ AZ HSL HV6
          go_wp2
          refine bodyPost_ret (v := .agg #[.int .i64 name, .slice none 0 0, .int .i64 (-1), .slice (some ⟨g6, 0, none⟩) (lz.length + 2) c6]) (by simp [results, Tryd.results71, go_sem, e0, e1, e2, e3]) rfl ?_
          have hlf : (lz ++ [x, y]).length = lz.length + 2 := by simp
          refine ⟨g6, c6, lz ++ [x, y], by rw [hlf], ?_, by rw [hlf]; omega, HFZ.out, HAF.out⟩
          rw [hlf]
          exact got_of (own_base HOF.out (by omega)) (by simp)
    · have hnI : ¬ ((l0.length : Int) < 32) := by omega
      generalize hZ : w4.setCell ⟨w.heap.size + 1, 3, none⟩ (.slice (some ⟨gv, 0, none⟩) l0.length cv) = Z at *
      have MZ := MY
      have RZ := RY
      have OZ := OY
      have OLZ := OLY
      have AZ := AY
      have HFZ := HF0
      clear MY RY OY OLY AY
      have HSL : Hid (∀ j u, (flat [x, y])[j]? = some u → Z.cell? ((⟨gl, 0, none⟩ : Addr).add j) = some u) := own_src OLZ.out
      obtain ⟨z3, y3⟩ := MZ.out.g3
      have hzZ : w.heap.size + 1 + 1 ≤ Z.heap.size := by
        have := OLZ.out.lt gl rfl
        omega
      go_wp2_with (at_builtin; refine wpList_append_own _ rfl _ _ 33 rfl (w.heap.size + 1 + 1) 64 i0 (.agg #[.int .i64 0, .int .i64 0, .int .i64 0]) 3 24 Tryd.underlying33 hi hz0 hz1 hz2 rfl (by decide) _ _ _ rfl OZ.out ⟨gl, 0, none⟩ 2 cl (flat [x, y]) rfl rfl HSL.out (flat_one _) (by unfold maxLen; omega) (by omega) hzZ ?_)
      intro v6 w6 hown6 hgrow6 hnil6
      have hb6 : Below (w.heap.size + 1 + 1) Z w6 := (Below.refl _ _).grown hgrow6 hzZ (fun g hg => (OZ.out.lt g hg).1)
      have HV6 : Hid (v6 ≠ .slice none 0 0) := fun h => by first | exact hnil6 h | exact absurd (hnil6.1 h).1 (by simp)
      obtain ⟨g6, c6, rfl, hB6⟩ := own_shape hown6 HV6.out
      have O6 : Hid (w6.ownsRow (w.heap.size + 1 + 1) 64 3 (.slice (some ⟨g6, 0, none⟩) (l0.length + 2) c6) (l0 ++ [x, y]).length (flat (l0 ++ [x, y]))) := by
        show World.ownsRow _ _ _ _ _ _ _
        rw [flat_append, List.length_append]; exact hown6
      have M6 := cells_low MZ.out hb6 (by omega)
      have R6 := cells_low RZ.out hb6 (by omega)
      have A6 : Hid (At B w w6 c a len cap) := AZ.out.low hcw (below_cut hb6 (by omega))
      have N10 : (⟨w.heap.size + 1, 3, none⟩ : Addr).block ≠ w.heap.size := by show w.heap.size + 1 ≠ w.heap.size; omega
      have M7 := M6.s3 (.slice (some ⟨g6, 0, none⟩) (l0.length + 2) c6)
      have R7 := R6.far ⟨w.heap.size + 1, 3, none⟩ (.slice (some ⟨g6, 0, none⟩) (l0.length + 2) c6) N10
      have R8 := (((R7.s0 (.int .i64 name)).s1 (.slice none 0 0)).s2 (.int .i64 (-1))).s3 (.slice (some ⟨g6, 0, none⟩) (l0.length + 2) c6)
      obtain ⟨o3, p3⟩ := M6.g3
      obtain ⟨k0, _⟩ := M7.g0
      obtain ⟨k1, _⟩ := M7.g1
      obtain ⟨k2, _⟩ := M7.g2
      obtain ⟨k3, _⟩ := M7.g3
      obtain ⟨r0, q0⟩ := R7.g0
      obtain ⟨r1, q1⟩ := R7.g1
      obtain ⟨r2, q2⟩ := R7.g2
      obtain ⟨r3, q3⟩ := R7.g3
      obtain ⟨e0, _⟩ := R8.g0
      obtain ⟨e1, _⟩ := R8.g1
      obtain ⟨e2, _⟩ := R8.g2
      obtain ⟨e3, _⟩ := R8.g3
      have HOF : Hid ((((((w6.setCell ⟨w.heap.size + 1, 3, none⟩ (.slice (some ⟨g6, 0, none⟩) (l0.length + 2) c6)).setCell ⟨w.heap.size, 0, none⟩ (.int .i64 name)).setCell ⟨w.heap.size, 1, none⟩ (.slice none 0 0)).setCell ⟨w.heap.size, 2, none⟩ (.int .i64 (-1))).setCell ⟨w.heap.size, 3, none⟩ (.slice (some ⟨g6, 0, none⟩) (l0.length + 2) c6)).ownsRow (w.heap.size + 1 + 1) 64 3 (.slice (some ⟨g6, 0, none⟩) (l0.length + 2) c6) (l0 ++ [x, y]).length (flat (l0 ++ [x, y]))) :=
        own_set (own_set (own_set (own_set (own_set O6.out (p := ⟨w.heap.size + 1, 3, none⟩) (Nat.lt_succ_self _) _) (p := ⟨w.heap.size, 0, none⟩) (Nat.lt_succ_of_lt (Nat.lt_succ_self _)) _) (p := ⟨w.heap.size, 1, none⟩) (Nat.lt_succ_of_lt (Nat.lt_succ_self _)) _) (p := ⟨w.heap.size, 2, none⟩) (Nat.lt_succ_of_lt (Nat.lt_succ_self _)) _) (p := ⟨w.heap.size, 3, none⟩) (Nat.lt_succ_of_lt (Nat.lt_succ_self _)) _
      have HAF : Hid (At B w (((((w6.setCell ⟨w.heap.size + 1, 3, none⟩ (.slice (some ⟨g6, 0, none⟩) (l0.length + 2) c6)).setCell ⟨w.heap.size, 0, none⟩ (.int .i64 name)).setCell ⟨w.heap.size, 1, none⟩ (.slice none 0 0)).setCell ⟨w.heap.size, 2, none⟩ (.int .i64 (-1))).setCell ⟨w.heap.size, 3, none⟩ (.slice (some ⟨g6, 0, none⟩) (l0.length + 2) c6)) c a len cap) :=
        ((((A6.out.set hcw (p := ⟨w.heap.size + 1, 3, none⟩) (Nat.le_succ _) _).set hcw (p := ⟨w.heap.size, 0, none⟩) (Nat.le_refl _) _).set hcw (p := ⟨w.heap.size, 1, none⟩) (Nat.le_refl _) _).set hcw (p := ⟨w.heap.size, 2, none⟩) (Nat.le_refl _) _).set hcw (p := ⟨w.heap.size, 3, none⟩) (Nat.le_refl _) _
      clear hown6 hgrow6 hnil6 hb6 M6 R6 M7 R7 R8 A6 O6 z3 y3 N10 MZ RZ OZ OLZ AZ HSL HV6
      go_wp2
      refine bodyPost_ret (v := .agg #[.int .i64 name, .slice none 0 0, .int .i64 (-1), .slice (some ⟨g6, 0, none⟩) (l0.length + 2) c6]) (by simp [results, Tryd.results71, go_sem, e0, e1, e2, e3]) rfl ?_
      have hlf : (l0 ++ [x, y]).length = l0.length + 2 := by simp
      refine ⟨g6, c6, l0 ++ [x, y], by rw [hlf], ?_, by rw [hlf]; omega, HFZ.out, HAF.out⟩
      rw [hlf]
      exact got_of (own_base HOF.out (by omega)) (by simp)
end Cu
end Go.Proofs.YtogbkdhejdcpeaaDoor

/- Contracts of the laws' own copying of programs: rows of methods, classes, programs. -/
namespace Go.Proofs.YtogbkdhejdcpeaaDoor
namespace Pg
open Go.ChangeShapes Go.WideShapes Go.ChangeAt Go.RowKit St

theorem infoMe : (Tryd.prog.info? 35).map (fun i => (i.zero, i.size, i.bytes)) = some (some (.agg #[.int .i64 0, .slice none 0 0, .int .i64 0, .slice none 0 0]), 4, 64) := by kernel_rfl
theorem infoCl : (Tryd.prog.info? 45).map (fun i => (i.zero, i.size, i.bytes)) = some (some (.agg #[.int .i64 0, .slice none 0 0, .slice none 0 0]), 3, 56) := by kernel_rfl

theorem ne_off {g a b : Nat} (h : a ≠ b) : (⟨g, a, none⟩ : Addr) ≠ ⟨g, b, none⟩ := fun e => h (congrArg Addr.off e)
theorem MAt.far {K : Way} {B g o i : Nat} {w : World} {m : Meth} (h : MAt K B w g o m) (hg : g < B) (hi : i < o ∨ o + 3 < i) (v : Value) : MAt K B (w.setCell ⟨g, i, none⟩ v) g o m := by
  obtain ⟨va, vc, h0, h1, h2, h3, h4⟩ := h
  exact ⟨va, vc, (World.cell?_setCell_other _ _ _ _ (ne_off (by omega))).trans h0, (World.cell?_setCell_other _ _ _ _ (ne_off (by omega))).trans h1, (World.cell?_setCell_other _ _ _ _ (ne_off (by omega))).trans h2, (World.cell?_setCell_other _ _ _ _ (ne_off (by omega))).trans h3, h4.on (Keep.set w (p := ⟨g, i, none⟩) hg v)⟩
theorem CAt.far {K : Way} {B g o i : Nat} {w : World} {m : Cls} (h : CAt K B w g o m) (hg : g < B) (hi : i < o ∨ o + 2 < i) (v : Value) : CAt K B (w.setCell ⟨g, i, none⟩ v) g o m := by
  obtain ⟨va, vc, h0, h1, h2, h4⟩ := h
  exact ⟨va, vc, (World.cell?_setCell_other _ _ _ _ (ne_off (by omega))).trans h0, (World.cell?_setCell_other _ _ _ _ (ne_off (by omega))).trans h1, (World.cell?_setCell_other _ _ _ _ (ne_off (by omega))).trans h2, h4.on (Keep.set w (p := ⟨g, i, none⟩) hg v)⟩
/-- One method more written. -/
theorem meths_next {K : Way} {g k : Nat} {w : World} {ms : List Meth} (hk : k < ms.length) (hroom : Room w g (ms.length * 4)) (h : ∀ j x, (ms.take k)[j]? = some x → MAt K (g + 1) w g (0 + j * 4) x) {va vc : Value} (hv : MV K (g + 1) w va vc ms[k]) :
    ∀ j x, (ms.take (k + 1))[j]? = some x → MAt K (g + 1) ((((w.setCell ⟨g, k * 4, none⟩ (.int .i64 ms[k].name)).setCell ⟨g, k * 4 + 1, none⟩ va).setCell ⟨g, k * 4 + 2, none⟩ (.int .i64 ms[k].gives)).setCell ⟨g, k * 4 + 3, none⟩ vc) g (0 + j * 4) x := by
  intro j x hj
  rw [List.getElem?_take] at hj
  split at hj
  · rename_i hlt
    by_cases e : j = k
    · subst e
      rw [List.getElem?_eq_getElem hk] at hj
      simp at hj
      subst hj
      obtain ⟨⟨x0, h0⟩, _⟩ := hroom (j * 4) (by omega)
      obtain ⟨⟨x1, h1⟩, _⟩ := hroom (j * 4 + 1) (by omega)
      obtain ⟨⟨x2, h2⟩, _⟩ := hroom (j * 4 + 2) (by omega)
      obtain ⟨⟨x3, h3⟩, _⟩ := hroom (j * 4 + 3) (by omega)
      rw [Nat.zero_add]
      have k1 := Keep.set (B := g + 1) w (p := ⟨g, j * 4, none⟩) (by simp) (.int .i64 ms[j].name)
      refine ⟨va, vc, ?_, ?_, ?_, ?_, hv.on (((k1.trans (Keep.set _ (p := ⟨g, j * 4 + 1, none⟩) (by simp) va)).trans (Keep.set _ (p := ⟨g, j * 4 + 2, none⟩) (by simp) _)).trans (Keep.set _ (p := ⟨g, j * 4 + 3, none⟩) (by simp) vc))⟩
      · rw [World.cell?_setCell_other _ _ _ _ (ne_off (by omega)), World.cell?_setCell_other _ _ _ _ (ne_off (by omega)), World.cell?_setCell_other _ _ _ _ (ne_off (by omega))]
        exact World.cell?_setCell_same _ _ _ h0
      · rw [World.cell?_setCell_other _ _ _ _ (ne_off (by omega)), World.cell?_setCell_other _ _ _ _ (ne_off (by omega))]
        exact World.cell?_setCell_same _ _ _ ((World.cell?_setCell_other _ _ _ _ (ne_off (by omega))).trans h1)
      · rw [World.cell?_setCell_other _ _ _ _ (ne_off (by omega))]
        exact World.cell?_setCell_same _ _ _ ((World.cell?_setCell_other _ _ _ _ (ne_off (by omega))).trans ((World.cell?_setCell_other _ _ _ _ (ne_off (by omega))).trans h2))
      · exact World.cell?_setCell_same _ _ _ ((World.cell?_setCell_other _ _ _ _ (ne_off (by omega))).trans ((World.cell?_setCell_other _ _ _ _ (ne_off (by omega))).trans ((World.cell?_setCell_other _ _ _ _ (ne_off (by omega))).trans h3)))
    · have hx := h j x (by rw [List.getElem?_take, if_pos (by omega)]; exact hj)
      exact (((hx.far (by omega) (by omega) _).far (by omega) (by omega) _).far (by omega) (by omega) _).far (by omega) (by omega) _
  · simp at hj
theorem classes_next {K : Way} {g k : Nat} {w : World} {ms : Prg} (hk : k < ms.length) (hroom : Room w g (ms.length * 3)) (h : ∀ j x, (ms.take k)[j]? = some x → CAt K (g + 1) w g (0 + j * 3) x) {vf vm : Value} (hv : CV K (g + 1) w vf vm ms[k]) :
    ∀ j x, (ms.take (k + 1))[j]? = some x → CAt K (g + 1) (((w.setCell ⟨g, k * 3, none⟩ (.int .i64 ms[k].super)).setCell ⟨g, k * 3 + 1, none⟩ vf).setCell ⟨g, k * 3 + 2, none⟩ vm) g (0 + j * 3) x := by
  intro j x hj
  rw [List.getElem?_take] at hj
  split at hj
  · rename_i hlt
    by_cases e : j = k
    · subst e
      rw [List.getElem?_eq_getElem hk] at hj
      simp at hj
      subst hj
      obtain ⟨⟨x0, h0⟩, _⟩ := hroom (j * 3) (by omega)
      obtain ⟨⟨x1, h1⟩, _⟩ := hroom (j * 3 + 1) (by omega)
      obtain ⟨⟨x2, h2⟩, _⟩ := hroom (j * 3 + 2) (by omega)
      rw [Nat.zero_add]
      have k1 := Keep.set (B := g + 1) w (p := ⟨g, j * 3, none⟩) (by simp) (.int .i64 ms[j].super)
      refine ⟨vf, vm, ?_, ?_, ?_, hv.on ((k1.trans (Keep.set _ (p := ⟨g, j * 3 + 1, none⟩) (by simp) vf)).trans (Keep.set _ (p := ⟨g, j * 3 + 2, none⟩) (by simp) vm))⟩
      · rw [World.cell?_setCell_other _ _ _ _ (ne_off (by omega)), World.cell?_setCell_other _ _ _ _ (ne_off (by omega))]
        exact World.cell?_setCell_same _ _ _ h0
      · rw [World.cell?_setCell_other _ _ _ _ (ne_off (by omega))]
        exact World.cell?_setCell_same _ _ _ ((World.cell?_setCell_other _ _ _ _ (ne_off (by omega))).trans h1)
      · exact World.cell?_setCell_same _ _ _ ((World.cell?_setCell_other _ _ _ _ (ne_off (by omega))).trans ((World.cell?_setCell_other _ _ _ _ (ne_off (by omega))).trans h2))
    · have hx := h j x (by rw [List.getElem?_take, if_pos (by omega)]; exact hj)
      exact ((hx.far (by omega) (by omega) _).far (by omega) (by omega) _).far (by omega) (by omega) _
  · simp at hj

/-- All is short. -/
def SmallM (m : Meth) : Prop := m.args.length ≤ 1048576 ∧ m.code.length ≤ 1048576
def SmallC (c : Cls) : Prop := c.fields.length ≤ 1048576 ∧ c.meths.length ≤ 1048576 ∧ ∀ m ∈ c.meths, SmallM m
def SmallP (p : Prg) : Prop := p.length ≤ 1048576 ∧ ∀ c ∈ p, SmallC c
theorem SmallP.of {p : Prg} (h : szP p ≤ 1048576) : SmallP p := by
  refine ⟨by unfold szP at h; omega, fun c hc => ?_⟩
  have h1 := szC_le hc
  have e : szC c = c.fields.length + szMs c.meths := rfl
  have e2 : szMs c.meths = c.meths.length + sumN (c.meths.map szM) := rfl
  refine ⟨by omega, by omega, fun m hm => ?_⟩
  have h2 := szM_le hm
  have e3 : szM m = m.args.length + m.code.length := rfl
  exact ⟨by omega, by omega⟩

set_option maxRecDepth 100000 in
set_option maxHeartbeats 1000000 in
theorem toMethods (ms : List Meth) (a : Option Addr) (cap : Nat) (hn : ms.length ≤ 1048576) (hs : ∀ m ∈ ms, SmallM m) (w : World) (hm : SM wide 0 w (.slice a ms.length cap) ms) :
    Calls Tryd.prog 92 #[.slice a ms.length cap] w fun e w' => ∃ v, e = .returned v ∧ SM front w.heap.size w' v ms ∧ Below w.heap.size w w' := by
  obtain ⟨i0, hi, hz0, hz1, hz2⟩ := info_parts infoMe
  have HM : Hid (SM wide 0 w (.slice a ms.length cap) ms) := hm
  have HS : Hid (∀ m ∈ ms, SmallM m) := hs
  clear hm hs
  go_enter Tryd.func92, Tryd.ntmps92
  go_wp2_with (at_make; refine wpList_make_full _ rfl _ _ 43 rfl w.heap.size 35 i0 (.agg #[.int .i64 0, .slice none 0 0, .int .i64 0, .slice none 0 0]) 4 Tryd.underlying43 hi hz0 hz1 .i64 .i64 _ _ ms.length rfl rfl rfl rfl (by rw [hz2]; omega) (by unfold maxLen; omega) (Nat.le_refl _) ?_; intro w0 hown0 hgrow0)
  have hroom := room_own hown0 (Nat.le_refl _)
  have hsz0 : w.heap.size < w0.heap.size := row_made_lt hown0
  have hb0 : Below w.heap.size w w0 := (Below.refl _ _).grown hgrow0 (Nat.le_refl _) (fun _ h => by simp at h)
  clear hown0 hgrow0
  go_loopw [4] (fun i wr => ∃ k : Nat, k ≤ ms.length ∧ i = .int .i64 k ∧ Hid (Room wr w.heap.size (ms.length * 4)) ∧ Hid (∀ j x, (ms.take k)[j]? = some x → MAt front (w.heap.size + 1) wr w.heap.size (0 + j * 4) x) ∧ w.heap.size < wr.heap.size ∧ Below w.heap.size w wr) (fun i _ => ms.length - (intOf i).toNat)
  case atStart => exact ⟨0, Nat.zero_le _, rfl, hroom, fun j x h => by simp at h, hsz0, hb0⟩
  case round =>
    obtain ⟨k, hk, rfl, hrm, hrw, hsz, hb⟩ := hrel
    by_cases hlt : k < ms.length
    · obtain ⟨b, o, rfl, _, va, vc, h0, h1, h2, h3, hmv⟩ := (SM.on HM.out (Keep.of hb)).get hlt
      obtain ⟨aa, ca, rfl⟩ := hmv.1.form
      obtain ⟨ac, cc, rfl⟩ := wide.form hmv.2
      have HMA : Hid (SI false 0 wr (.slice aa ms[k].args.length ca) ms[k].args) := hmv.1
      have HMC : Hid (SC 0 wr (.slice ac ms[k].code.length cc) ms[k].code) := hmv.2
      have hsm := HS.out _ (List.getElem_mem hlt)
      obtain ⟨⟨x0, d0⟩, f0⟩ := hrm.out (k * 4) (by omega)
      obtain ⟨⟨x1, d1⟩, f1⟩ := hrm.out (k * 4 + 1) (by omega)
      obtain ⟨⟨x2, d2⟩, f2⟩ := hrm.out (k * 4 + 2) (by omega)
      obtain ⟨⟨x3, d3⟩, f3⟩ := hrm.out (k * 4 + 3) (by omega)
      have HN : Hid (∀ u, Below wr.heap.size wr u → ∀ va vc, MV front (w.heap.size + 1) u va vc ms[k] → ∀ j x, (ms.take (k + 1))[j]? = some x → MAt front (w.heap.size + 1) ((((u.setCell ⟨w.heap.size, k * 4, none⟩ (.int .i64 ms[k].name)).setCell ⟨w.heap.size, k * 4 + 1, none⟩ va).setCell ⟨w.heap.size, k * 4 + 2, none⟩ (.int .i64 ms[k].gives)).setCell ⟨w.heap.size, k * 4 + 3, none⟩ vc) w.heap.size (0 + j * 4) x) :=
        fun u hu va vc hv => meths_next hlt (hrm.out.on hu) (fun j x hj => by
          obtain ⟨q1, q2, c0, c1, c2, c3, c4⟩ := hrw.out j x hj
          have l : w.heap.size < wr.heap.size := hsz
          exact ⟨q1, q2, (hu.cell l).trans c0, (hu.cell l).trans c1, (hu.cell l).trans c2, (hu.cell l).trans c3, c4.on (Keep.of hu)⟩) hv
      clear hrw hmv HM
      generalize ms[k] = m at *
      go_wp2_with fail
      refine (toMethod m aa ac ca cc hsm.1 hsm.2 _ HMA.out HMC.out).mono ?_
      rintro e w1 ⟨va, vc, rfl, hv1, hb1⟩
      obtain ⟨a1, c1, rfl⟩ := hv1.1.form
      obtain ⟨a2, c2, rfl⟩ := front.form hv1.2
      have hw1 : Below w.heap.size w w1 := below_over hb hb1
      have hsz1 : w.heap.size < w1.heap.size := Nat.lt_of_lt_of_le hsz hb1.size
      have l0 : w.heap.size < wr.heap.size := hsz
      have d0' := (hb1.cell l0).trans d0
      have d1' := (hb1.cell l0).trans d1
      have d2' := (hb1.cell l0).trans d2
      have d3' := (hb1.cell l0).trans d3
      have f0' := (hb1.frozen l0).trans f0
      have f1' := (hb1.frozen l0).trans f1
      have f2' := (hb1.frozen l0).trans f2
      have f3' := (hb1.frozen l0).trans f3
      have HRM : Hid (Room w1 w.heap.size (ms.length * 4)) := hrm.out.on hb1
      have HNX : Hid (∀ j x, (ms.take (k + 1))[j]? = some x → MAt front (w.heap.size + 1) ((((w1.setCell ⟨w.heap.size, k * 4, none⟩ (.int .i64 m.name)).setCell ⟨w.heap.size, k * 4 + 1, none⟩ (.slice a1 m.args.length c1)).setCell ⟨w.heap.size, k * 4 + 2, none⟩ (.int .i64 m.gives)).setCell ⟨w.heap.size, k * 4 + 3, none⟩ (.slice a2 m.code.length c2)) w.heap.size (0 + j * 4) x) := HN.out w1 hb1 _ _ (hv1.weak hsz)
      clear d0 d1 d2 d3 f0 f1 f2 f3 h0 h1 h2 h3 hb1 hrm HN hb hv1 hsm HMA HMC
      go_wp2
      go_roundw
      case rel => exact ⟨k + 1, by omega, by go_num, (((HRM.out.set _ _).set _ _).set _ _).set _ _, HNX.out, by simpa using hsz1, (((hw1.setCell (Nat.le_refl _) _).setCell (Nat.le_refl _) _).setCell (Nat.le_refl _) _).setCell (Nat.le_refl _) _⟩
      case measure => simp [intOf]; omega
    · have e : ms.take k = ms := List.take_of_length_le (by omega)
      have HE := hrw.out
      rw [e] at HE
      have HEE : Hid (∀ j x, ms[j]? = some x → MAt front (w.heap.size + 1) wr w.heap.size (0 + j * 4) x) := HE
      clear HE e
      go_wp2
      go_ret
      exact ⟨_, rfl, ⟨_, _, rfl, fun _ h => by simp at h, fun _ => ⟨w.heap.size, 0, rfl, Nat.le_refl _, ⟨hsz, fun _ j hj => by rw [Nat.zero_add]; exact (hrm.out j hj).2⟩, fun j x hj => by
        obtain ⟨q1, q2, c0, c1, c2, c3, c4⟩ := HEE.out j x hj
        exact ⟨q1, q2, c0, c1, c2, c3, c4.weak (by omega)⟩⟩⟩, hb⟩

set_option maxRecDepth 100000 in
set_option maxHeartbeats 1000000 in
theorem toClass (c : Cls) (aa ac : Option Addr) (ca cc : Nat) (hs : SmallC c) (w : World) (hi : SI false 0 w (.slice aa c.fields.length ca) c.fields) (hc : SM wide 0 w (.slice ac c.meths.length cc) c.meths) :
    Calls Tryd.prog 69 #[.agg #[.int .i64 c.super, .slice aa c.fields.length ca, .slice ac c.meths.length cc]] w fun e w' => ∃ va vc, e = .returned (.agg #[.int .i64 c.super, va, vc]) ∧ CV front w.heap.size w' va vc c ∧ Below w.heap.size w w' := by
  have HI : Hid (SI false 0 w (.slice aa c.fields.length ca) c.fields) := hi
  have HC : Hid (SM wide 0 w (.slice ac c.meths.length cc) c.meths) := hc
  have h1 := hs.1
  have h2 := hs.2.1
  have HSM : Hid (∀ m ∈ c.meths, SmallM m) := hs.2.2
  clear hi hc hs
  go_enter Tryd.func69, Tryd.ntmps69
  go_wp2_with fail
  refine (toInts' aa ca c.fields h1 _ ?_).mono ?_
  · exact SI.on HI.out (Keep.of (by go_grown))
  rintro e w1 ⟨va, rfl, hi1, hb1⟩
  obtain ⟨a1, c1, rfl⟩ := hi1.form
  have hw1 : Below w.heap.size w w1 := below_over (by go_grown) hb1
  have A1 : Hid (Cells w1 w.heap.size [.int .i64 c.super, .slice aa c.fields.length ca, .slice ac c.meths.length cc]) := by
    show Cells _ _ _
    refine Cells.on ?_ hb1
    exact ((Cells.new w _ rfl _ _).alloc _).alloc _
  have R1 : Hid (Cells w1 (w.heap.size + 1) [.int .i64 0, .slice none 0 0, .slice none 0 0]) := by
    show Cells _ _ _
    refine Cells.on ?_ hb1
    exact (Cells.new (w.alloc _) _ (by simp) _ _).alloc _
  have O1 : Hid (Cells w1 (w.heap.size + 1 + 1) [.int .i64 c.super, .slice none 0 0, .slice none 0 0]) := by
    show Cells _ _ _
    refine Cells.on ?_ hb1
    exact Cells.new ((w.alloc _).alloc _) _ (by simp) _ _
  have HV1 : Hid (SI true (w.heap.size + 1 + 1 + 1) w1 (.slice a1 c.fields.length c1) c.fields) := SI.weak hi1 (by simp)
  have hz1 : w.heap.size + 1 + 1 + 1 ≤ w1.heap.size := by have := hb1.size; simpa using this
  clear hi1 hb1
  generalize hs : w.heap.size = s at *
  have HSS : Hid (w.heap.size = s) := hs
  clear hs
  obtain ⟨o1, p1⟩ := O1.out.g1
  have N21 : Hid (s + 1 + 1 ≠ s + 1) := by show s + 1 + 1 ≠ s + 1; omega
  have N20 : Hid (s + 1 + 1 ≠ s) := by show s + 1 + 1 ≠ s; omega
  have a3 := ((A1.out.far ⟨s + 1 + 1, 1, none⟩ (.slice a1 c.fields.length c1) N20.out).g2).1
  have O2 : Hid (Cells (w1.setCell ⟨s + 1 + 1, 1, none⟩ (.slice a1 c.fields.length c1)) (s + 1 + 1) [.int .i64 c.super, .slice a1 c.fields.length c1, .slice none 0 0]) := O1.out.s1 (.slice a1 c.fields.length c1)
  have R2 : Hid (Cells (w1.setCell ⟨s + 1 + 1, 1, none⟩ (.slice a1 c.fields.length c1)) (s + 1) [.int .i64 0, .slice none 0 0, .slice none 0 0]) := R1.out.far ⟨s + 1 + 1, 1, none⟩ (.slice a1 c.fields.length c1) N21.out
  have hk2 : Keep (s + 1 + 1 + 1) w1 (w1.setCell ⟨s + 1 + 1, 1, none⟩ (.slice a1 c.fields.length c1)) := Keep.set w1 (p := ⟨s + 1 + 1, 1, none⟩) (by simp) _
  have HV2 : Hid (SI true (s + 1 + 1 + 1) (w1.setCell ⟨s + 1 + 1, 1, none⟩ (.slice a1 c.fields.length c1)) (.slice a1 c.fields.length c1) c.fields) := SI.on HV1.out hk2
  have hz2 := Nat.le_trans hz1 hk2.size
  have HK2 : Hid (Below s w (w1.setCell ⟨s + 1 + 1, 1, none⟩ (.slice a1 c.fields.length c1))) := hw1.setCell (p := ⟨s + 1 + 1, 1, none⟩) (by simp; omega) _
  clear hk2 HV1 hw1 A1 R1 O1 hz1
  go_wp2_with fail
  generalize w1.setCell ⟨s + 1 + 1, 1, none⟩ (.slice a1 c.fields.length c1) = w2 at *
  refine (toMethods c.meths ac cc h2 HSM.out _ (SM.on HC.out (Keep.of (by rw [HSS.out]; exact HK2.out)))).mono ?_
  rintro e w3 ⟨vc, rfl, hc3, hb3⟩
  obtain ⟨a2, c2, rfl⟩ := hc3.form
  have O3 : Hid (Cells w3 (s + 1 + 1) [.int .i64 c.super, .slice a1 c.fields.length c1, .slice none 0 0]) := O2.out.on hb3
  have R3 := R2.out.on hb3
  have HV3 : Hid (SI true (s + 1 + 1 + 1) w3 (.slice a1 c.fields.length c1) c.fields) := SI.on HV2.out (Keep.of hb3)
  have HC3 : Hid (SM front (s + 1 + 1 + 1) w3 (.slice a2 c.meths.length c2) c.meths) := SM.weak hc3 hz2
  have HW3 : Hid (Below s w w3) := HK2.out.trans (hb3.mono (by omega))
  clear hc3 hb3 a3 o1 p1 O2 R2 HV2 HK2 hz2
  have O4 := O3.out.s2 (.slice a2 c.meths.length c2)
  have R4 := R3.far ⟨s + 1 + 1, 2, none⟩ (.slice a2 c.meths.length c2) N21.out
  have R5 := ((R4.s0 (.int .i64 c.super)).s1 (.slice a1 c.fields.length c1)).s2 (.slice a2 c.meths.length c2)
  obtain ⟨o3, p3⟩ := O3.out.g2
  obtain ⟨i0, _⟩ := O4.g0
  obtain ⟨i1, _⟩ := O4.g1
  obtain ⟨i2, _⟩ := O4.g2
  obtain ⟨r0, q0⟩ := R4.g0
  obtain ⟨r1, q1⟩ := R4.g1
  obtain ⟨r2, q2⟩ := R4.g2
  obtain ⟨e0, _⟩ := R5.g0
  obtain ⟨e1, _⟩ := R5.g1
  obtain ⟨e2, _⟩ := R5.g2
  clear O4 R4 R5 R3 O3
  go_wp2
  refine bodyPost_ret (v := .agg #[.int .i64 c.super, .slice a1 c.fields.length c1, .slice a2 c.meths.length c2]) (by simp [results, Tryd.results69, go_sem, e0, e1, e2]) rfl ?_
  rw [HSS.out]
  have hk : ∀ (u : World) (j i : Nat) (x : Value), j < s + 1 + 1 + 1 → Keep (s + 1 + 1 + 1) u (u.setCell ⟨j, i, none⟩ x) := fun u j i x hj => Keep.set u (p := ⟨j, i, none⟩) hj x
  have hkk := (((hk w3 (s + 1 + 1) 2 (.slice a2 c.meths.length c2) (by omega)).trans (hk _ (s + 1) 0 (.int .i64 c.super) (by omega))).trans (hk _ (s + 1) 1 (.slice a1 c.fields.length c1) (by omega))).trans (hk _ (s + 1) 2 (.slice a2 c.meths.length c2) (by omega))
  have hbb := (((HW3.out.setCell (p := ⟨s + 1 + 1, 2, none⟩) (by simp; omega) (.slice a2 c.meths.length c2)).setCell (p := ⟨s + 1, 0, none⟩) (by simp) (.int .i64 c.super)).setCell (p := ⟨s + 1, 1, none⟩) (by simp) (.slice a1 c.fields.length c1)).setCell (p := ⟨s + 1, 2, none⟩) (by simp) (.slice a2 c.meths.length c2)
  exact ⟨_, _, rfl, ⟨SI.weak (SI.on HV3.out hkk) (by omega), SM.weak (SM.on HC3.out hkk) (by omega)⟩, hbb⟩

set_option maxRecDepth 100000 in
set_option maxHeartbeats 1000000 in
theorem toClasses (ms : Prg) (a : Option Addr) (cap : Nat) (hs0 : SmallP ms) (w : World) (hm : SK wide 0 w (.slice a ms.length cap) ms) :
    Calls Tryd.prog 49 #[.slice a ms.length cap] w fun e w' => ∃ v, e = .returned v ∧ SK front w.heap.size w' v ms ∧ Below w.heap.size w w' := by
  obtain ⟨i0, hi, hz0, hz1, hz2⟩ := info_parts infoCl
  have hn := hs0.1
  have HM : Hid (SK wide 0 w (.slice a ms.length cap) ms) := hm
  have HS : Hid (∀ m ∈ ms, SmallC m) := hs0.2
  clear hm hs0
  go_enter Tryd.func49, Tryd.ntmps49
  go_wp2_with (at_make; refine wpList_make_full _ rfl _ _ 24 rfl w.heap.size 45 i0 (.agg #[.int .i64 0, .slice none 0 0, .slice none 0 0]) 3 Tryd.underlying24 hi hz0 hz1 .i64 .i64 _ _ ms.length rfl rfl rfl rfl (by rw [hz2]; omega) (by unfold maxLen; omega) (Nat.le_refl _) ?_; intro w0 hown0 hgrow0)
  have hroom := room_own hown0 (Nat.le_refl _)
  have hsz0 : w.heap.size < w0.heap.size := row_made_lt hown0
  have hb0 : Below w.heap.size w w0 := (Below.refl _ _).grown hgrow0 (Nat.le_refl _) (fun _ h => by simp at h)
  clear hown0 hgrow0
  go_loopw [4] (fun i wr => ∃ k : Nat, k ≤ ms.length ∧ i = .int .i64 k ∧ Hid (Room wr w.heap.size (ms.length * 3)) ∧ Hid (∀ j x, (ms.take k)[j]? = some x → CAt front (w.heap.size + 1) wr w.heap.size (0 + j * 3) x) ∧ w.heap.size < wr.heap.size ∧ Below w.heap.size w wr) (fun i _ => ms.length - (intOf i).toNat)
  case atStart => exact ⟨0, Nat.zero_le _, rfl, hroom, fun j x h => by simp at h, hsz0, hb0⟩
  case round =>
    obtain ⟨k, hk, rfl, hrm, hrw, hsz, hb⟩ := hrel
    by_cases hlt : k < ms.length
    · obtain ⟨b, o, rfl, _, va, vc, h0, h1, h2, hmv⟩ := (SK.on HM.out (Keep.of hb)).get hlt
      obtain ⟨aa, ca, rfl⟩ := hmv.1.form
      obtain ⟨ac, cc, rfl⟩ := hmv.2.form
      have HMA : Hid (SI false 0 wr (.slice aa ms[k].fields.length ca) ms[k].fields) := hmv.1
      have HMC : Hid (SM wide 0 wr (.slice ac ms[k].meths.length cc) ms[k].meths) := hmv.2
      have HSM : Hid (SmallC ms[k]) := HS.out _ (List.getElem_mem hlt)
      obtain ⟨⟨x0, d0⟩, f0⟩ := hrm.out (k * 3) (by omega)
      obtain ⟨⟨x1, d1⟩, f1⟩ := hrm.out (k * 3 + 1) (by omega)
      obtain ⟨⟨x2, d2⟩, f2⟩ := hrm.out (k * 3 + 2) (by omega)
      have HN : Hid (∀ u, Below wr.heap.size wr u → ∀ va vc, CV front (w.heap.size + 1) u va vc ms[k] → ∀ j x, (ms.take (k + 1))[j]? = some x → CAt front (w.heap.size + 1) (((u.setCell ⟨w.heap.size, k * 3, none⟩ (.int .i64 ms[k].super)).setCell ⟨w.heap.size, k * 3 + 1, none⟩ va).setCell ⟨w.heap.size, k * 3 + 2, none⟩ vc) w.heap.size (0 + j * 3) x) :=
        fun u hu va vc hv => classes_next hlt (hrm.out.on hu) (fun j x hj => by
          obtain ⟨q1, q2, c0, c1, c2, c4⟩ := hrw.out j x hj
          have l : w.heap.size < wr.heap.size := hsz
          exact ⟨q1, q2, (hu.cell l).trans c0, (hu.cell l).trans c1, (hu.cell l).trans c2, c4.on (Keep.of hu)⟩) hv
      clear hrw hmv HM
      generalize ms[k] = m at *
      go_wp2_with fail
      refine (toClass m aa ac ca cc HSM.out _ HMA.out HMC.out).mono ?_
      rintro e w1 ⟨va, vc, rfl, hv1, hb1⟩
      obtain ⟨a1, c1, rfl⟩ := hv1.1.form
      obtain ⟨a2, c2, rfl⟩ := hv1.2.form
      have hw1 : Below w.heap.size w w1 := below_over hb hb1
      have hsz1 : w.heap.size < w1.heap.size := Nat.lt_of_lt_of_le hsz hb1.size
      have l0 : w.heap.size < wr.heap.size := hsz
      have d0' := (hb1.cell l0).trans d0
      have d1' := (hb1.cell l0).trans d1
      have d2' := (hb1.cell l0).trans d2
      have f0' := (hb1.frozen l0).trans f0
      have f1' := (hb1.frozen l0).trans f1
      have f2' := (hb1.frozen l0).trans f2
      have HRM : Hid (Room w1 w.heap.size (ms.length * 3)) := hrm.out.on hb1
      have HNX : Hid (∀ j x, (ms.take (k + 1))[j]? = some x → CAt front (w.heap.size + 1) (((w1.setCell ⟨w.heap.size, k * 3, none⟩ (.int .i64 m.super)).setCell ⟨w.heap.size, k * 3 + 1, none⟩ (.slice a1 m.fields.length c1)).setCell ⟨w.heap.size, k * 3 + 2, none⟩ (.slice a2 m.meths.length c2)) w.heap.size (0 + j * 3) x) := HN.out w1 hb1 _ _ (hv1.weak hsz)
      clear d0 d1 d2 f0 f1 f2 h0 h1 h2 hb1 hrm HN hb hv1 HSM HMA HMC
      go_wp2
      go_roundw
      case rel => exact ⟨k + 1, by omega, by go_num, ((HRM.out.set _ _).set _ _).set _ _, HNX.out, by simpa using hsz1, ((hw1.setCell (Nat.le_refl _) _).setCell (Nat.le_refl _) _).setCell (Nat.le_refl _) _⟩
      case measure => simp [intOf]; omega
    · have e : ms.take k = ms := List.take_of_length_le (by omega)
      have HE := hrw.out
      rw [e] at HE
      have HEE : Hid (∀ j x, ms[j]? = some x → CAt front (w.heap.size + 1) wr w.heap.size (0 + j * 3) x) := HE
      clear HE e
      go_wp2
      go_ret
      exact ⟨_, rfl, ⟨_, _, rfl, fun _ h => by simp at h, fun _ => ⟨w.heap.size, 0, rfl, Nat.le_refl _, ⟨hsz, fun _ j hj => by rw [Nat.zero_add]; exact (hrm.out j hj).2⟩, fun j x hj => by
        obtain ⟨q1, q2, c0, c1, c2, c4⟩ := HEE.out j x hj
        exact ⟨q1, q2, c0, c1, c2, c4.weak (by omega)⟩⟩⟩, hb⟩

set_option maxRecDepth 100000 in
set_option maxHeartbeats 1000000 in
theorem toProgram (p : Prg) (a : Option Addr) (cap : Nat) (hs : SmallP p) (w : World) (hm : SK wide 0 w (.slice a p.length cap) p) :
    Calls Tryd.prog 22 #[.agg #[.slice a p.length cap]] w fun e w' => ∃ v, e = .returned (.agg #[v]) ∧ SK front w.heap.size w' v p ∧ Below w.heap.size w w' := by
  have HM : Hid (SK wide 0 w (.slice a p.length cap) p) := hm
  have HS : Hid (SmallP p) := hs
  clear hm hs
  go_enter Tryd.func22, Tryd.ntmps22
  go_wp2_with fail
  refine (toClasses p a cap HS.out _ ?_).mono ?_
  · exact SK.on HM.out (Keep.of (by go_grown))
  rintro e w1 ⟨v, rfl, hv, hb1⟩
  obtain ⟨a1, c1, rfl⟩ := hv.form
  have hw1 : Below w.heap.size w w1 := below_over (by go_grown) hb1
  have R1 : Hid (Cells w1 (w.heap.size + 1) [.slice none 0 0]) := by
    show Cells _ _ _
    refine Cells.on ?_ hb1
    exact (Cells.new (w.alloc _) _ (by simp) _ _).alloc _
  have O1 : Hid (Cells w1 (w.heap.size + 1 + 1) [.slice none 0 0]) := by
    show Cells _ _ _
    refine Cells.on ?_ hb1
    exact Cells.new ((w.alloc _).alloc _) _ (by simp) _ _
  have HV1 : Hid (SK front (w.heap.size + 1 + 1 + 1) w1 (.slice a1 p.length c1) p) := SK.weak hv (by simp)
  clear hv hb1
  generalize hs : w.heap.size = s at *
  have HSS : Hid (w.heap.size = s) := hs
  clear hs
  have N21 : Hid (s + 1 + 1 ≠ s + 1) := by show s + 1 + 1 ≠ s + 1; omega
  have O4 := O1.out.s0 (.slice a1 p.length c1)
  have R4 := R1.out.far ⟨s + 1 + 1, 0, none⟩ (.slice a1 p.length c1) N21.out
  have R5 := R4.s0 (.slice a1 p.length c1)
  obtain ⟨o3, p3⟩ := O1.out.g0
  obtain ⟨i0, _⟩ := O4.g0
  obtain ⟨r0, q0⟩ := R4.g0
  obtain ⟨e0, _⟩ := R5.g0
  have HW : Hid (Below s w w1) := hw1
  clear O4 R4 R5 R1 O1 hw1
  go_wp2
  refine bodyPost_ret (v := .agg #[.slice a1 p.length c1]) (by simp [results, Tryd.results22, go_sem, e0]) rfl ?_
  rw [HSS.out]
  have hk : ∀ (u : World) (j i : Nat) (x : Value), j < s + 1 + 1 + 1 → Keep (s + 1 + 1 + 1) u (u.setCell ⟨j, i, none⟩ x) := fun u j i x hj => Keep.set u (p := ⟨j, i, none⟩) hj x
  have hkk := (hk w1 (s + 1 + 1) 0 (.slice a1 p.length c1) (by omega)).trans (hk _ (s + 1) 0 (.slice a1 p.length c1) (by omega))
  have hbb := (HW.out.setCell (p := ⟨s + 1 + 1, 0, none⟩) (by simp; omega) (.slice a1 p.length c1)).setCell (p := ⟨s + 1, 0, none⟩) (by simp) (.slice a1 p.length c1)
  exact ⟨_, rfl, SK.weak (SK.on HV1.out hkk) (by omega), hbb⟩
end Pg
end Go.Proofs.YtogbkdhejdcpeaaDoor
