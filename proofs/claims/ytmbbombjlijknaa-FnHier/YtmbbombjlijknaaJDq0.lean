/- Owned rows cut short, and boxes beside a cursor: for the draws of programs. -/
import Derived.Test.YtmbbombjlijknaaJPg3
import Derived.Maps.AppendAt
import Derived.Deep.RegionLaw
import Derived.Test.YtmbbombjlijknaaJGot0
import Derived.Laws.AppendOwnNone
import Derived.Lib.SliceRun
namespace Go.Proofs.Ytmbbombjlijknaa
namespace Cu
open Go.ChangeShapes Go.WideShapes Go.ChangeAt Go.RowKit St

/-- The front of an owned row is owned, with the same room behind it. -/
theorem own_take {w : World} {B q g n cap : Nat} {e : TypeId} {xs : List Value} (h : w.ownsRow B e q (.slice (some ⟨g, 0, none⟩) n cap) n xs) {k : Nat} (hk : k ≤ n) : w.ownsRow B e q (.slice (some ⟨g, 0, none⟩) k cap) k (xs.take (k * q)) := by
  obtain ⟨hl, ⟨h, _⟩ | ⟨g', cap', cur, hv, h1, h2, h3, h4, h5, h6⟩⟩ := h
  · simp at h
  · injection hv with e1 e2 e3
    injection e1 with e1
    injection e1 with e1
    subst e1 e3
    have hkq : k * q ≤ n * q := Nat.mul_le_mul_right q hk
    refine ⟨by rw [List.length_take, hl]; omega, .inr ⟨g, cap, cur, rfl, h1, h2, by omega, h4, h5, ?_⟩⟩
    rw [← h6, List.take_take, Nat.min_eq_left hkq]
theorem flat_take (l : List Tx.Ins) (k : Nat) : (flat l).take (k * 3) = flat (l.take k) := by
  induction l generalizing k with
  | nil => simp [flat]
  | cons x l ih =>
    cases k with
    | zero => simp [flat]
    | succ k =>
      have := ih k
      simp only [flat, List.flatMap_cons, List.take_succ_cons] at this ⊢
      rw [show (k + 1) * 3 = 3 + k * 3 from by omega]
      simp only [List.cons_append, List.nil_append]
      rw [show 3 + k * 3 = k * 3 + 1 + 1 + 1 from by omega]
      simp only [List.take_succ_cons, this]
theorem own_front {w : World} {B g cap : Nat} {e : TypeId} {l : List Tx.Ins} (h : w.ownsRow B e 3 (.slice (some ⟨g, 0, none⟩) l.length cap) l.length (flat l)) {k : Nat} (hk : k ≤ l.length) : w.ownsRow B e 3 (.slice (some ⟨g, 0, none⟩) k cap) k (flat (l.take k)) := by
  rw [← flat_take]
  exact own_take h hk
theorem own_set {w : World} {B q n : Nat} {e : TypeId} {v : Value} {xs : List Value} (h : w.ownsRow B e q v n xs) {p : Addr} (hp : p.block < B) (x : Value) : (w.setCell p x).ownsRow B e q v n xs :=
  own_touch h (c := p.block) (w := w.setCell p x) (by
    have hb := (Below.refl 0 w).setCell (p := p) (Nat.zero_le _) x
    exact ⟨hb.os, hb.tape, hb.output, hb.size, fun k _ hne => Below.heap_setCell w p x k hne⟩) hp
theorem cells_touch {c k : Nat} {u v : World} {vs : List Value} (h : Pg.Cells u k vs) (ht : Touch c u v) (hk : k ≠ c) : Pg.Cells v k vs := fun i x hx => by
  obtain ⟨h1, h2⟩ := h i x hx
  have hb := ht.block k (cell_lt h1) hk
  exact ⟨(World.cell?_of_block (w := u) hb).trans h1, (World.frozen?_of_block (w := u) hb).trans h2⟩
theorem At.set {B c : Nat} {u v : World} {a : Option Addr} {len cap : Nat} (h : At B u v c a len cap) (hc : c < u.heap.size) {p : Addr} (hp : u.heap.size ≤ p.block) (x : Value) : At B u (v.setCell p x) c a len cap :=
  h.low hc ((Below.refl _ _).setCell hp x)
end Cu
end Go.Proofs.Ytmbbombjlijknaa

/- The contract of the draw of a method. -/
namespace Go.Proofs.Ytmbbombjlijknaa
namespace Cu
open Go.ChangeShapes Go.WideShapes Go.ChangeAt Go.RowKit St

/-- A method has been drawn, and the cursor stands. -/
def DrewM (B : Nat) (w : World) (c : Nat) (a : Option Addr) (len cap : Nat) (name : Int) (e : Ending) (w' : World) : Prop :=
  ∃ g y l, e = .returned (.agg #[.int .i64 name, .slice none 0 0, .int .i64 (-1), .slice (some ⟨g, 0, none⟩) l.length y]) ∧ Pg.CS w.heap.size w' (.slice (some ⟨g, 0, none⟩) l.length y) l ∧ l.length ≤ 42 ∧ Fits l ∧ At B w w' c a len cap
theorem own_cap {w : World} {B q g n cap : Nat} {e : TypeId} {xs : List Value} (h : w.ownsRow B e q (.slice (some ⟨g, 0, none⟩) n cap) n xs) : n ≤ cap := by
  obtain ⟨_, ⟨h, _⟩ | ⟨g', cap', cur, hv, h1, h2, h3, _⟩⟩ := h
  · simp at h
  · injection hv with e1 e2 e3
    omega

theorem own_src {w : World} {B g cap : Nat} {e : TypeId} {l : List Tx.Ins} {n : Nat} (h : w.ownsRow B e 3 (.slice (some ⟨g, 0, none⟩) n cap) n (flat l)) : ∀ j u, (flat l)[j]? = some u → w.cell? ((⟨g, 0, none⟩ : Addr).add j) = some u := by
  intro j u hu
  have h1 := (List.getElem?_eq_some_iff.1 hu).1
  have h2 : (flat l).length = n * 3 := h.1
  rw [Go.WideShapes.add_plain, Nat.zero_add, h.cellAt j (by omega)]
  exact hu
theorem own_on {u v : World} {B n q : Nat} {e : TypeId} {x : Value} {xs : List Value} (h : u.ownsRow B e q x n xs) (hb : Below u.heap.size u v) : v.ownsRow B e q x n xs := by
  have hl := h.lt
  obtain ⟨h0, ⟨h1, h2⟩ | ⟨g, cap, cur, rfl, h1, h2, h3⟩⟩ := h
  · exact ⟨h0, .inl ⟨h1, h2⟩⟩
  · exact ⟨h0, .inr ⟨g, cap, cur, rfl, h1, (hb.block g (hl g rfl).2).trans h2, h3⟩⟩
theorem cells_low {B k : Nat} {u w : World} {vs : List Value} (h : Pg.Cells u k vs) (hb : Below B u w) (hk : k < B) : Pg.Cells w k vs := fun i x hx => by
  obtain ⟨h1, h2⟩ := h i x hx
  exact ⟨(hb.cell (p := ⟨k, i, none⟩) hk).trans h1, (hb.frozen (p := ⟨k, i, none⟩) hk).trans h2⟩
theorem below_cut {B C : Nat} {u w : World} (h : Below B u w) (hC : C ≤ B) : Below C u w := ⟨h.os, h.tape, h.output, h.size, fun k hk => h.block k (by omega)⟩
theorem own_grown {u w : World} {B q n gl cl : Nat} {e : TypeId} {xs : List Value} {row : Option Nat} (h : u.ownsRow B e q (.slice (some ⟨gl, 0, none⟩) n cl) n xs) (hg : u.grownBy w row) (hne : some gl ≠ row) : w.ownsRow B e q (.slice (some ⟨gl, 0, none⟩) n cl) n xs := by
  have hl := (h.lt gl rfl).2
  obtain ⟨h0, ⟨h1, h2⟩ | ⟨g, cap, cur, hv, h1, h2, h3⟩⟩ := h
  · simp at h1
  · injection hv with e1 e2 e3
    injection e1 with e1
    injection e1 with e1
    subst e1 e3
    exact ⟨h0, .inr ⟨gl, cl, cur, rfl, h1, (hg.block gl hl hne).trans h2, h3⟩⟩
theorem fits_mid {l m r : List Tx.Ins} (h : Fits (l ++ r)) (k : Fits m) : Fits (l ++ (m ++ r)) := by
  rw [fits_iff] at *
  intro x hx
  rcases List.mem_append.1 hx with hx | hx
  · exact h x (List.mem_append_left _ hx)
  · rcases List.mem_append.1 hx with hx | hx
    · exact k x hx
    · exact h x (List.mem_append_right _ hx)
theorem split2 (l : List Tx.Ins) (h : 2 ≤ l.length) : ∃ l0 x y, l = l0 ++ [x, y] := by
  rcases List.eq_nil_or_concat l with rfl | ⟨k, y, rfl⟩
  · simp at h
  · rcases List.eq_nil_or_concat k with rfl | ⟨l0, x, rfl⟩
    · simp at h
    · exact ⟨l0, x, y, by simp⟩

set_option maxRecDepth 100000 in
set_option maxHeartbeats 4000000 in
theorem drawMethod_cur (B c : Nat) (name cls : Int) (calls : Bool) (hc1 : 1 ≤ cls) (hc2 : cls ≤ 5) (w : World) (a : Option Addr) (len cap : Nat) (h : Cur B w c a len cap) :
    Calls Try.prog 108 #[.pointer (some ⟨c, 0, none⟩), .int .i64 name, .bool calls, .int .i64 cls] w fun e w' => DrewM B w c a len cap name e w' := by
  obtain ⟨i0, hi, hz0, hz1, hz2⟩ := info_parts infoI
  have hcw : c < w.heap.size := h.2.1
  have H : Hid (Cur B w c a len cap) := h
  clear h
  obtain ⟨W, hW⟩ : ∃ W, W = (w.alloc (.cells #[.int .i64 0, .slice none 0 0, .int .i64 0, .slice none 0 0] 41)).alloc (.cells #[.int .i64 name, .slice none 0 0, .int .i64 (-1), .slice none 0 0] 41) := ⟨_, rfl⟩
  have HA : Hid (At B w W c a len cap) := by rw [hW]; exact ((At.start H.out).alloc _).alloc _
  have HZ : Hid (W.heap.size = w.heap.size + 1 + 1) := by show _ = _; rw [hW]; simp
  have R0 : Hid (Pg.Cells W w.heap.size [.int .i64 0, .slice none 0 0, .int .i64 0, .slice none 0 0]) := by rw [hW]; exact (Pg.Cells.new w _ rfl _ _).alloc _
  have M0 : Hid (Pg.Cells W (w.heap.size + 1) [.int .i64 name, .slice none 0 0, .int .i64 (-1), .slice none 0 0]) := by rw [hW]; exact Pg.Cells.new (w.alloc _) _ (by simp) _ _
  go_enter Try.func108, Try.ntmps108
  go_wp2_with fail
  rw [← hW]
  clear hW
  refine (drawCode_own B c W a len cap HA.out.2).mono ?_
  rintro e w2 ⟨v, l, rfl, hown, hvn, hl2, hl36, hfit, hat⟩
  obtain ⟨gv, cv, rfl, hBv⟩ := own_shape hown hvn
  obtain ⟨l0, x, y, rfl⟩ := split2 l hl2
  have hlen : (l0 ++ [x, y]).length = l0.length + 2 := by simp
  rw [hlen] at hown hl36 hl2 ⊢
  rw [HZ.out] at hown
  have hcv := own_cap hown
  have hl34 : l0.length ≤ 34 := by omega
  have HF0 : Hid (Fits (l0 ++ [x, y])) := hfit
  have hk1 : w.heap.size + 1 ≠ c := by omega
  have hk0 : w.heap.size ≠ c := by omega
  have M2 := cells_touch M0.out hat.1 hk1
  have R2 := cells_touch R0.out hat.1 hk0
  have A2 := HA.out.step hat
  have N10 : (⟨w.heap.size + 1, 3, none⟩ : Addr).block ≠ w.heap.size := by show w.heap.size + 1 ≠ w.heap.size; omega
  have M3 : Hid (Pg.Cells (w2.setCell ⟨w.heap.size + 1, 3, none⟩ (.slice (some ⟨gv, 0, none⟩) (l0.length + 2) cv)) (w.heap.size + 1) [.int .i64 name, .slice none 0 0, .int .i64 (-1), .slice (some ⟨gv, 0, none⟩) (l0.length + 2) cv]) := M2.s3 _
  have R3 : Hid (Pg.Cells (w2.setCell ⟨w.heap.size + 1, 3, none⟩ (.slice (some ⟨gv, 0, none⟩) (l0.length + 2) cv)) w.heap.size [.int .i64 0, .slice none 0 0, .int .i64 0, .slice none 0 0]) := R2.far ⟨w.heap.size + 1, 3, none⟩ (.slice (some ⟨gv, 0, none⟩) (l0.length + 2) cv) N10
  have O3 : Hid ((w2.setCell ⟨w.heap.size + 1, 3, none⟩ (.slice (some ⟨gv, 0, none⟩) (l0.length + 2) cv)).ownsRow (w.heap.size + 1 + 1) 68 3 (.slice (some ⟨gv, 0, none⟩) (l0.length + 2) cv) (l0.length + 2) (flat (l0 ++ [x, y]))) := own_set hown (p := ⟨w.heap.size + 1, 3, none⟩) (by show w.heap.size + 1 < w.heap.size + 1 + 1; omega) _
  have A3 : Hid (At B w (w2.setCell ⟨w.heap.size + 1, 3, none⟩ (.slice (some ⟨gv, 0, none⟩) (l0.length + 2) cv)) c a len cap) := A2.set hcw (p := ⟨w.heap.size + 1, 3, none⟩) (by show w.heap.size ≤ w.heap.size + 1; omega) _
  obtain ⟨m3, f3⟩ := M2.g3
  clear M2 R2 A2 hown hat hvn hfit M0 R0 HA hlen HZ hl2 hl36 hBv N10
  have b3 := M3.out.g3.1
  generalize hX : w2.setCell ⟨w.heap.size + 1, 3, none⟩ (.slice (some ⟨gv, 0, none⟩) (l0.length + 2) cv) = X at *
  have b4 := (M3.out.alloc (.cells #[] 68)).g3.1
  have hzX : w.heap.size + 1 + 1 ≤ X.heap.size := by
    have := O3.out.lt gv rfl
    omega
  have HSRC : Hid (∀ j u, (flat [x, y])[j]? = some u → (X.alloc (.cells #[] 68)).cell? ((⟨gv, l0.length * 3, none⟩ : Addr).add j) = some u) := by
    intro j u hu
    have hj : j < 6 := by
      have h1 := (List.getElem?_eq_some_iff.1 hu).1
      have h2 := flat_len [x, y]
      simp at h2
      omega
    have hc := O3.out.cellAt (l0.length * 3 + j) (by omega)
    rw [flat_append, List.getElem?_append_right (by rw [flat_len]; omega), flat_len, Nat.add_sub_cancel_left, hu] at hc
    rw [Go.WideShapes.add_plain]
    exact (((Below.refl _ X).alloc (Nat.le_refl _) _).cell (cell_lt hc)).trans hc
  go_wp2_with (at_builtin; refine wpList_append_own _ rfl _ _ 39 rfl X.heap.size 68 i0 (.agg #[.int .i64 0, .int .i64 0, .int .i64 0]) 3 24 Try.underlying39 hi hz0 hz1 hz2 rfl (by decide) _ _ _ rfl (World.ownsRow_made X #[] 0 (Nat.le_refl _) (by decide) (by simp)) ⟨gv, l0.length * 3, none⟩ 2 (cv - l0.length) (flat [x, y]) rfl rfl HSRC.out (flat_one _) (by unfold maxLen; omega) (by omega) (by simp) ?_)
  intro v4 w4 hown4 hgrow4 hnil4
  have hb4 : Below X.heap.size X w4 := ((Below.refl _ _).alloc (Nat.le_refl _) _).grown hgrow4 (by simp) (fun g hg => by simp [Value.ownBlock] at hg ⊢; omega)
  have HV4 : Hid (v4 ≠ .slice none 0 0) := fun h => by first | exact hnil4 h | exact absurd (hnil4.1 h).1 (by simp)
  obtain ⟨gl, cl, rfl, hBl⟩ := own_shape hown4 HV4.out
  have OL : Hid (w4.ownsRow (w.heap.size + 1 + 1) 68 3 (.slice (some ⟨gl, 0, none⟩) 2 cl) 2 (flat [x, y])) := own_base hown4 hzX
  have M4 := M3.out.on hb4
  have R4 := R3.out.on hb4
  have A4 := A3.out.low hcw (below_cut hb4 (by omega))
  have O4 : w4.ownsRow (w.heap.size + 1 + 1) 68 3 (.slice (some ⟨gv, 0, none⟩) (l0 ++ [x, y]).length cv) (l0 ++ [x, y]).length (flat (l0 ++ [x, y])) := by
    have h := own_on O3.out hb4
    rw [show (l0 ++ [x, y]).length = l0.length + 2 from by simp]
    exact h
  have O5 := own_front O4 (k := l0.length) (by simp)
  rw [List.take_left] at O5
  have N10 : (⟨w.heap.size + 1, 3, none⟩ : Addr).block ≠ w.heap.size := by show w.heap.size + 1 ≠ w.heap.size; omega
  have MY : Hid (Pg.Cells (w4.setCell ⟨w.heap.size + 1, 3, none⟩ (.slice (some ⟨gv, 0, none⟩) l0.length cv)) (w.heap.size + 1) [.int .i64 name, .slice none 0 0, .int .i64 (-1), .slice (some ⟨gv, 0, none⟩) l0.length cv]) := M4.s3 _
  have RY : Hid (Pg.Cells (w4.setCell ⟨w.heap.size + 1, 3, none⟩ (.slice (some ⟨gv, 0, none⟩) l0.length cv)) w.heap.size [.int .i64 0, .slice none 0 0, .int .i64 0, .slice none 0 0]) := R4.far ⟨w.heap.size + 1, 3, none⟩ (.slice (some ⟨gv, 0, none⟩) l0.length cv) N10
  have OY : Hid ((w4.setCell ⟨w.heap.size + 1, 3, none⟩ (.slice (some ⟨gv, 0, none⟩) l0.length cv)).ownsRow (w.heap.size + 1 + 1) 68 3 (.slice (some ⟨gv, 0, none⟩) l0.length cv) l0.length (flat l0)) := own_set O5 (p := ⟨w.heap.size + 1, 3, none⟩) (Nat.lt_succ_self _) _
  have OLY : Hid ((w4.setCell ⟨w.heap.size + 1, 3, none⟩ (.slice (some ⟨gv, 0, none⟩) l0.length cv)).ownsRow (w.heap.size + 1 + 1) 68 3 (.slice (some ⟨gl, 0, none⟩) 2 cl) 2 (flat [x, y])) := own_set OL.out (p := ⟨w.heap.size + 1, 3, none⟩) (Nat.lt_succ_self _) _
  have AY : Hid (At B w (w4.setCell ⟨w.heap.size + 1, 3, none⟩ (.slice (some ⟨gv, 0, none⟩) l0.length cv)) c a len cap) := A4.set hcw (p := ⟨w.heap.size + 1, 3, none⟩) (Nat.le_succ _) _
  obtain ⟨m4, f4⟩ := M4.g3
  have HNE : Hid (gl ≠ gv) := by
    show gl ≠ gv
    have h1 := (O3.out.lt gv rfl).2
    omega
  clear hown4 hgrow4 hnil4 hb4 OL M4 R4 A4 O4 O5 M3 R3 O3 A3 b3 b4 m3 f3 HSRC hX hzX HV4 N10
  cases calls
  · generalize hZ : w4.setCell ⟨w.heap.size + 1, 3, none⟩ (.slice (some ⟨gv, 0, none⟩) l0.length cv) = Z at *
    have MZ := MY
    have RZ := RY
    have OZ := OY
    have OLZ := OLY
    have AZ := AY
    have HFZ := HF0
    clear MY RY OY OLY AY
    have HSL : Hid (∀ j u, (flat [x, y])[j]? = some u → Z.cell? ((⟨gl, 0, none⟩ : Addr).add j) = some u) := own_src OLZ.out
    obtain ⟨z3, y3⟩ := MZ.out.g3
    have hzZ : w.heap.size + 1 + 1 ≤ Z.heap.size := by
      have := OLZ.out.lt gl rfl
      omega
    go_wp2_with (at_builtin; refine wpList_append_own _ rfl _ _ 39 rfl (w.heap.size + 1 + 1) 68 i0 (.agg #[.int .i64 0, .int .i64 0, .int .i64 0]) 3 24 Try.underlying39 hi hz0 hz1 hz2 rfl (by decide) _ _ _ rfl OZ.out ⟨gl, 0, none⟩ 2 cl (flat [x, y]) rfl rfl HSL.out (flat_one _) (by unfold maxLen; omega) (by omega) hzZ ?_)
    intro v6 w6 hown6 hgrow6 hnil6
    have hb6 : Below (w.heap.size + 1 + 1) Z w6 := (Below.refl _ _).grown hgrow6 hzZ (fun g hg => (OZ.out.lt g hg).1)
    have HV6 : Hid (v6 ≠ .slice none 0 0) := fun h => by first | exact hnil6 h | exact absurd (hnil6.1 h).1 (by simp)
    obtain ⟨g6, c6, rfl, hB6⟩ := own_shape hown6 HV6.out
    have O6 : Hid (w6.ownsRow (w.heap.size + 1 + 1) 68 3 (.slice (some ⟨g6, 0, none⟩) (l0.length + 2) c6) (l0 ++ [x, y]).length (flat (l0 ++ [x, y]))) := by
      show World.ownsRow _ _ _ _ _ _ _
      rw [flat_append, List.length_append]; exact hown6
    have M6 := cells_low MZ.out hb6 (by omega)
    have R6 := cells_low RZ.out hb6 (by omega)
    have A6 : Hid (At B w w6 c a len cap) := AZ.out.low hcw (below_cut hb6 (by omega))
    have N10 : (⟨w.heap.size + 1, 3, none⟩ : Addr).block ≠ w.heap.size := by show w.heap.size + 1 ≠ w.heap.size; omega
    have M7 := M6.s3 (.slice (some ⟨g6, 0, none⟩) (l0.length + 2) c6)
    have R7 := R6.far ⟨w.heap.size + 1, 3, none⟩ (.slice (some ⟨g6, 0, none⟩) (l0.length + 2) c6) N10
    have R8 := (((R7.s0 (.int .i64 name)).s1 (.slice none 0 0)).s2 (.int .i64 (-1))).s3 (.slice (some ⟨g6, 0, none⟩) (l0.length + 2) c6)
    obtain ⟨o3, p3⟩ := M6.g3
    obtain ⟨k0, _⟩ := M7.g0
    obtain ⟨k1, _⟩ := M7.g1
    obtain ⟨k2, _⟩ := M7.g2
    obtain ⟨k3, _⟩ := M7.g3
    obtain ⟨r0, q0⟩ := R7.g0
    obtain ⟨r1, q1⟩ := R7.g1
    obtain ⟨r2, q2⟩ := R7.g2
    obtain ⟨r3, q3⟩ := R7.g3
    obtain ⟨e0, _⟩ := R8.g0
    obtain ⟨e1, _⟩ := R8.g1
    obtain ⟨e2, _⟩ := R8.g2
    obtain ⟨e3, _⟩ := R8.g3
    have HOF : Hid ((((((w6.setCell ⟨w.heap.size + 1, 3, none⟩ (.slice (some ⟨g6, 0, none⟩) (l0.length + 2) c6)).setCell ⟨w.heap.size, 0, none⟩ (.int .i64 name)).setCell ⟨w.heap.size, 1, none⟩ (.slice none 0 0)).setCell ⟨w.heap.size, 2, none⟩ (.int .i64 (-1))).setCell ⟨w.heap.size, 3, none⟩ (.slice (some ⟨g6, 0, none⟩) (l0.length + 2) c6)).ownsRow (w.heap.size + 1 + 1) 68 3 (.slice (some ⟨g6, 0, none⟩) (l0.length + 2) c6) (l0 ++ [x, y]).length (flat (l0 ++ [x, y]))) :=
      own_set (own_set (own_set (own_set (own_set O6.out (p := ⟨w.heap.size + 1, 3, none⟩) (Nat.lt_succ_self _) _) (p := ⟨w.heap.size, 0, none⟩) (Nat.lt_succ_of_lt (Nat.lt_succ_self _)) _) (p := ⟨w.heap.size, 1, none⟩) (Nat.lt_succ_of_lt (Nat.lt_succ_self _)) _) (p := ⟨w.heap.size, 2, none⟩) (Nat.lt_succ_of_lt (Nat.lt_succ_self _)) _) (p := ⟨w.heap.size, 3, none⟩) (Nat.lt_succ_of_lt (Nat.lt_succ_self _)) _
    have HAF : Hid (At B w (((((w6.setCell ⟨w.heap.size + 1, 3, none⟩ (.slice (some ⟨g6, 0, none⟩) (l0.length + 2) c6)).setCell ⟨w.heap.size, 0, none⟩ (.int .i64 name)).setCell ⟨w.heap.size, 1, none⟩ (.slice none 0 0)).setCell ⟨w.heap.size, 2, none⟩ (.int .i64 (-1))).setCell ⟨w.heap.size, 3, none⟩ (.slice (some ⟨g6, 0, none⟩) (l0.length + 2) c6)) c a len cap) :=
      ((((A6.out.set hcw (p := ⟨w.heap.size + 1, 3, none⟩) (Nat.le_succ _) _).set hcw (p := ⟨w.heap.size, 0, none⟩) (Nat.le_refl _) _).set hcw (p := ⟨w.heap.size, 1, none⟩) (Nat.le_refl _) _).set hcw (p := ⟨w.heap.size, 2, none⟩) (Nat.le_refl _) _).set hcw (p := ⟨w.heap.size, 3, none⟩) (Nat.le_refl _) _
    clear hown6 hgrow6 hnil6 hb6 M6 R6 M7 R7 R8 A6 O6 z3 y3 N10 MZ RZ OZ OLZ AZ HSL HV6
    go_wp2
    refine bodyPost_ret (v := .agg #[.int .i64 name, .slice none 0 0, .int .i64 (-1), .slice (some ⟨g6, 0, none⟩) (l0.length + 2) c6]) (by simp [results, Try.results108, go_sem, e0, e1, e2, e3]) rfl ?_
    have hlf : (l0 ++ [x, y]).length = l0.length + 2 := by simp
    refine ⟨g6, c6, l0 ++ [x, y], by rw [hlf], ?_, by rw [hlf]; omega, HFZ.out, HAF.out⟩
    rw [hlf]
    exact got_of (own_base HOF.out (by omega)) (by simp)
  · by_cases hn : l0.length < 32
    · generalize hY : w4.setCell ⟨w.heap.size + 1, 3, none⟩ (.slice (some ⟨gv, 0, none⟩) l0.length cv) = wY at *
      have hnI : (l0.length : Int) < 32 := by omega
      go_wp2_with fail
      refine (below_at B c _ _ a len cap _ (At.start AY.out.2)).mono ?_
      rintro e w5 ⟨k, rfl, hk0', _, hk2, _, h5⟩
      have hk5 := hk2 (by omega)
      clear hY m4 f4 hk2
      have M5 : Hid (Pg.Cells w5 (w.heap.size + 1) [.int .i64 name, .slice none 0 0, .int .i64 (-1), .slice (some ⟨gv, 0, none⟩) l0.length cv]) := cells_touch MY.out h5.1 hk1
      have R5 : Hid (Pg.Cells w5 w.heap.size [.int .i64 0, .slice none 0 0, .int .i64 0, .slice none 0 0]) := cells_touch RY.out h5.1 hk0
      have O5 : Hid (w5.ownsRow (w.heap.size + 1 + 1) 68 3 (.slice (some ⟨gv, 0, none⟩) l0.length cv) l0.length (flat l0)) := own_touch OY.out h5.1 (by omega)
      have OL5 : Hid (w5.ownsRow (w.heap.size + 1 + 1) 68 3 (.slice (some ⟨gl, 0, none⟩) 2 cl) 2 (flat [x, y])) := own_touch OLY.out h5.1 (by omega)
      have A5 : Hid (At B w w5 c a len cap) := AY.out.step h5
      clear MY RY OY OLY AY h5
      go_wp2_with fail
      refine (below_at B c _ _ a len cap _ (At.start A5.out.2)).mono ?_
      rintro e w6 ⟨r, rfl, hr0, _, hr2, _, h6⟩
      have hr4 := hr2 (by omega)
      clear hr2
      have M6 : Hid (Pg.Cells w6 (w.heap.size + 1) [.int .i64 name, .slice none 0 0, .int .i64 (-1), .slice (some ⟨gv, 0, none⟩) l0.length cv]) := cells_touch M5.out h6.1 hk1
      have R6 : Hid (Pg.Cells w6 w.heap.size [.int .i64 0, .slice none 0 0, .int .i64 0, .slice none 0 0]) := cells_touch R5.out h6.1 hk0
      have O6 : Hid (w6.ownsRow (w.heap.size + 1 + 1) 68 3 (.slice (some ⟨gv, 0, none⟩) l0.length cv) l0.length (flat l0)) := own_touch O5.out h6.1 (by omega)
      have OL6 : Hid (w6.ownsRow (w.heap.size + 1 + 1) 68 3 (.slice (some ⟨gl, 0, none⟩) 2 cl) 2 (flat [x, y])) := own_touch OL5.out h6.1 (by omega)
      have A6 : Hid (At B w w6 c a len cap) := A5.out.step h6
      clear M5 R5 O5 OL5 A5 h6
      have hz6 : w.heap.size + 1 + 1 ≤ w6.heap.size := by
        have := OL6.out.lt gl rfl
        omega
      rcases (show r = 0 ∨ r = 1 ∨ r = 2 ∨ r = 3 by omega) with rfl | rfl | rfl | rfl
      · obtain ⟨m6, f6⟩ := M6.out.g3
        go_wp2_with (at_builtin; refine wpList_append_own _ rfl _ _ 39 rfl (w.heap.size + 1 + 1) 68 i0 (.agg #[.int .i64 0, .int .i64 0, .int .i64 0]) 3 24 Try.underlying39 hi hz0 hz1 hz2 rfl (by decide) _ _ _ rfl (O6.out.alloc _) ⟨w6.heap.size, 0, none⟩ 3 3 (flat [(14, k, 0), (17, k, 1), (19, 0, 0)]) rfl rfl (lit_flat w6 [(14, k, 0), (17, k, 1), (19, 0, 0)] _ _ rfl) (flat_one _) (by unfold maxLen; omega) (by omega) (by simp; omega) ?_)
        intro v7 w7 hown7 hgrow7 hnil7
        have hb7 : Below (w.heap.size + 1 + 1) w6 w7 := ((Below.refl _ _).alloc hz6 _).grown hgrow7 (by simp; omega) (fun g hg => (O6.out.lt g hg).1)
        have HV7 : Hid (v7 ≠ .slice none 0 0) := fun h => by first | exact hnil7 h | exact absurd (hnil7.1 h).1 (by simp)
        have OL7 : w7.ownsRow (w.heap.size + 1 + 1) 68 3 (.slice (some ⟨gl, 0, none⟩) 2 cl) 2 (flat [x, y]) := own_grown (OL6.out.alloc _) hgrow7 (fun h => HNE.out (by simpa [Value.ownBlock] using h))
        obtain ⟨g7, c7, rfl, hB7⟩ := own_shape hown7 HV7.out
        obtain ⟨lz, hlz⟩ : ∃ lz, lz = l0 ++ [(14, k, 0), (17, k, 1), (19, 0, 0)] := ⟨_, rfl⟩
        have hln : lz.length = l0.length + 3 := by rw [hlz]; simp
        have HFZ : Hid (Fits (lz ++ [x, y])) := by
          show Fits _
          rw [hlz, List.append_assoc]
          exact fits_mid HF0.out (by simp only [Fits, FitsI, and_true]; omega)
        have O7 : w7.ownsRow (w.heap.size + 1 + 1) 68 3 (.slice (some ⟨g7, 0, none⟩) lz.length c7) lz.length (flat lz) := by
          rw [hln, hlz, flat_append]; exact hown7
        have hlz40 : lz.length ≤ 40 := by omega
        rw [show l0.length + 3 = lz.length from hln.symm]
        have M7 := cells_low M6.out hb7 (by omega)
        have R7 := cells_low R6.out hb7 (by omega)
        have A7 := A6.out.low hcw (below_cut hb7 (by omega))
        obtain ⟨m7, f7⟩ := M7.g3
        have N10 : (⟨w.heap.size + 1, 3, none⟩ : Addr).block ≠ w.heap.size := by show w.heap.size + 1 ≠ w.heap.size; omega
        have MZ : Hid (Pg.Cells (w7.setCell ⟨w.heap.size + 1, 3, none⟩ (.slice (some ⟨g7, 0, none⟩) lz.length c7)) (w.heap.size + 1) [.int .i64 name, .slice none 0 0, .int .i64 (-1), .slice (some ⟨g7, 0, none⟩) lz.length c7]) := M7.s3 _
        have RZ : Hid (Pg.Cells (w7.setCell ⟨w.heap.size + 1, 3, none⟩ (.slice (some ⟨g7, 0, none⟩) lz.length c7)) w.heap.size [.int .i64 0, .slice none 0 0, .int .i64 0, .slice none 0 0]) := R7.far ⟨w.heap.size + 1, 3, none⟩ (.slice (some ⟨g7, 0, none⟩) lz.length c7) N10
        have OZ : Hid ((w7.setCell ⟨w.heap.size + 1, 3, none⟩ (.slice (some ⟨g7, 0, none⟩) lz.length c7)).ownsRow (w.heap.size + 1 + 1) 68 3 (.slice (some ⟨g7, 0, none⟩) lz.length c7) lz.length (flat lz)) := own_set O7 (p := ⟨w.heap.size + 1, 3, none⟩) (Nat.lt_succ_self _) _
        have OLZ : Hid ((w7.setCell ⟨w.heap.size + 1, 3, none⟩ (.slice (some ⟨g7, 0, none⟩) lz.length c7)).ownsRow (w.heap.size + 1 + 1) 68 3 (.slice (some ⟨gl, 0, none⟩) 2 cl) 2 (flat [x, y])) := own_set OL7 (p := ⟨w.heap.size + 1, 3, none⟩) (Nat.lt_succ_self _) _
        have AZ : Hid (At B w (w7.setCell ⟨w.heap.size + 1, 3, none⟩ (.slice (some ⟨g7, 0, none⟩) lz.length c7)) c a len cap) := A7.set hcw (p := ⟨w.heap.size + 1, 3, none⟩) (Nat.le_succ _) _
        clear hown7 hgrow7 hnil7 hb7 HV7 M7 R7 A7 O7 OL7 M6 R6 O6 OL6 A6 N10 m6 f6 hln
        generalize hZ : w7.setCell ⟨w.heap.size + 1, 3, none⟩ (.slice (some ⟨g7, 0, none⟩) lz.length c7) = Z at *
        have HLZ : Hid (lz = l0 ++ [(14, k, 0), (17, k, 1), (19, 0, 0)]) := hlz
        clear hlz
        have HSL : Hid (∀ j u, (flat [x, y])[j]? = some u → Z.cell? ((⟨gl, 0, none⟩ : Addr).add j) = some u) := own_src OLZ.out
        obtain ⟨z3, y3⟩ := MZ.out.g3
        have hzZ : w.heap.size + 1 + 1 ≤ Z.heap.size := by
          have := OLZ.out.lt gl rfl
          omega
        go_wp2_with (at_builtin; refine wpList_append_own _ rfl _ _ 39 rfl (w.heap.size + 1 + 1) 68 i0 (.agg #[.int .i64 0, .int .i64 0, .int .i64 0]) 3 24 Try.underlying39 hi hz0 hz1 hz2 rfl (by decide) _ _ _ rfl OZ.out ⟨gl, 0, none⟩ 2 cl (flat [x, y]) rfl rfl HSL.out (flat_one _) (by unfold maxLen; omega) (by omega) hzZ ?_)
        intro v6 w6 hown6 hgrow6 hnil6
        have hb6 : Below (w.heap.size + 1 + 1) Z w6 := (Below.refl _ _).grown hgrow6 hzZ (fun g hg => (OZ.out.lt g hg).1)
        have HV6 : Hid (v6 ≠ .slice none 0 0) := fun h => by first | exact hnil6 h | exact absurd (hnil6.1 h).1 (by simp)
        obtain ⟨g6, c6, rfl, hB6⟩ := own_shape hown6 HV6.out
        have O6 : Hid (w6.ownsRow (w.heap.size + 1 + 1) 68 3 (.slice (some ⟨g6, 0, none⟩) (lz.length + 2) c6) (lz ++ [x, y]).length (flat (lz ++ [x, y]))) := by
          show World.ownsRow _ _ _ _ _ _ _
          rw [flat_append, List.length_append]; exact hown6
        have M6 := cells_low MZ.out hb6 (by omega)
        have R6 := cells_low RZ.out hb6 (by omega)
        have A6 : Hid (At B w w6 c a len cap) := AZ.out.low hcw (below_cut hb6 (by omega))
        have N10 : (⟨w.heap.size + 1, 3, none⟩ : Addr).block ≠ w.heap.size := by show w.heap.size + 1 ≠ w.heap.size; omega
        have M7 := M6.s3 (.slice (some ⟨g6, 0, none⟩) (lz.length + 2) c6)
        have R7 := R6.far ⟨w.heap.size + 1, 3, none⟩ (.slice (some ⟨g6, 0, none⟩) (lz.length + 2) c6) N10
        have R8 := (((R7.s0 (.int .i64 name)).s1 (.slice none 0 0)).s2 (.int .i64 (-1))).s3 (.slice (some ⟨g6, 0, none⟩) (lz.length + 2) c6)
        obtain ⟨o3, p3⟩ := M6.g3
        obtain ⟨k0, _⟩ := M7.g0
        obtain ⟨k1, _⟩ := M7.g1
        obtain ⟨k2, _⟩ := M7.g2
        obtain ⟨k3, _⟩ := M7.g3
        obtain ⟨r0, q0⟩ := R7.g0
        obtain ⟨r1, q1⟩ := R7.g1
        obtain ⟨r2, q2⟩ := R7.g2
        obtain ⟨r3, q3⟩ := R7.g3
        obtain ⟨e0, _⟩ := R8.g0
        obtain ⟨e1, _⟩ := R8.g1
        obtain ⟨e2, _⟩ := R8.g2
        obtain ⟨e3, _⟩ := R8.g3
        have HOF : Hid ((((((w6.setCell ⟨w.heap.size + 1, 3, none⟩ (.slice (some ⟨g6, 0, none⟩) (lz.length + 2) c6)).setCell ⟨w.heap.size, 0, none⟩ (.int .i64 name)).setCell ⟨w.heap.size, 1, none⟩ (.slice none 0 0)).setCell ⟨w.heap.size, 2, none⟩ (.int .i64 (-1))).setCell ⟨w.heap.size, 3, none⟩ (.slice (some ⟨g6, 0, none⟩) (lz.length + 2) c6)).ownsRow (w.heap.size + 1 + 1) 68 3 (.slice (some ⟨g6, 0, none⟩) (lz.length + 2) c6) (lz ++ [x, y]).length (flat (lz ++ [x, y]))) :=
          own_set (own_set (own_set (own_set (own_set O6.out (p := ⟨w.heap.size + 1, 3, none⟩) (Nat.lt_succ_self _) _) (p := ⟨w.heap.size, 0, none⟩) (Nat.lt_succ_of_lt (Nat.lt_succ_self _)) _) (p := ⟨w.heap.size, 1, none⟩) (Nat.lt_succ_of_lt (Nat.lt_succ_self _)) _) (p := ⟨w.heap.size, 2, none⟩) (Nat.lt_succ_of_lt (Nat.lt_succ_self _)) _) (p := ⟨w.heap.size, 3, none⟩) (Nat.lt_succ_of_lt (Nat.lt_succ_self _)) _
        have HAF : Hid (At B w (((((w6.setCell ⟨w.heap.size + 1, 3, none⟩ (.slice (some ⟨g6, 0, none⟩) (lz.length + 2) c6)).setCell ⟨w.heap.size, 0, none⟩ (.int .i64 name)).setCell ⟨w.heap.size, 1, none⟩ (.slice none 0 0)).setCell ⟨w.heap.size, 2, none⟩ (.int .i64 (-1))).setCell ⟨w.heap.size, 3, none⟩ (.slice (some ⟨g6, 0, none⟩) (lz.length + 2) c6)) c a len cap) :=
          ((((A6.out.set hcw (p := ⟨w.heap.size + 1, 3, none⟩) (Nat.le_succ _) _).set hcw (p := ⟨w.heap.size, 0, none⟩) (Nat.le_refl _) _).set hcw (p := ⟨w.heap.size, 1, none⟩) (Nat.le_refl _) _).set hcw (p := ⟨w.heap.size, 2, none⟩) (Nat.le_refl _) _).set hcw (p := ⟨w.heap.size, 3, none⟩) (Nat.le_refl _) _
        clear hown6 hgrow6 hnil6 hb6 M6 R6 M7 R7 R8 A6 O6 z3 y3 N10 MZ RZ OZ OLZ AZ HSL HV6
        go_wp2
        refine bodyPost_ret (v := .agg #[.int .i64 name, .slice none 0 0, .int .i64 (-1), .slice (some ⟨g6, 0, none⟩) (lz.length + 2) c6]) (by simp [results, Try.results108, go_sem, e0, e1, e2, e3]) rfl ?_
        have hlf : (lz ++ [x, y]).length = lz.length + 2 := by simp
        refine ⟨g6, c6, lz ++ [x, y], by rw [hlf], ?_, by rw [hlf]; omega, HFZ.out, HAF.out⟩
        rw [hlf]
        exact got_of (own_base HOF.out (by omega)) (by simp)
      · obtain ⟨m6, f6⟩ := M6.out.g3
        go_wp2_with (at_builtin; refine wpList_append_own _ rfl _ _ 39 rfl (w.heap.size + 1 + 1) 68 i0 (.agg #[.int .i64 0, .int .i64 0, .int .i64 0]) 3 24 Try.underlying39 hi hz0 hz1 hz2 rfl (by decide) _ _ _ rfl (O6.out.alloc _) ⟨w6.heap.size, 0, none⟩ 3 3 (flat [(14, k, 0), (15, k, 0), (19, 0, 0)]) rfl rfl (lit_flat w6 [(14, k, 0), (15, k, 0), (19, 0, 0)] _ _ rfl) (flat_one _) (by unfold maxLen; omega) (by omega) (by simp; omega) ?_)
        intro v7 w7 hown7 hgrow7 hnil7
        have hb7 : Below (w.heap.size + 1 + 1) w6 w7 := ((Below.refl _ _).alloc hz6 _).grown hgrow7 (by simp; omega) (fun g hg => (O6.out.lt g hg).1)
        have HV7 : Hid (v7 ≠ .slice none 0 0) := fun h => by first | exact hnil7 h | exact absurd (hnil7.1 h).1 (by simp)
        have OL7 : w7.ownsRow (w.heap.size + 1 + 1) 68 3 (.slice (some ⟨gl, 0, none⟩) 2 cl) 2 (flat [x, y]) := own_grown (OL6.out.alloc _) hgrow7 (fun h => HNE.out (by simpa [Value.ownBlock] using h))
        obtain ⟨g7, c7, rfl, hB7⟩ := own_shape hown7 HV7.out
        obtain ⟨lz, hlz⟩ : ∃ lz, lz = l0 ++ [(14, k, 0), (15, k, 0), (19, 0, 0)] := ⟨_, rfl⟩
        have hln : lz.length = l0.length + 3 := by rw [hlz]; simp
        have HFZ : Hid (Fits (lz ++ [x, y])) := by
          show Fits _
          rw [hlz, List.append_assoc]
          exact fits_mid HF0.out (by simp only [Fits, FitsI, and_true]; omega)
        have O7 : w7.ownsRow (w.heap.size + 1 + 1) 68 3 (.slice (some ⟨g7, 0, none⟩) lz.length c7) lz.length (flat lz) := by
          rw [hln, hlz, flat_append]; exact hown7
        have hlz40 : lz.length ≤ 40 := by omega
        rw [show l0.length + 3 = lz.length from hln.symm]
        have M7 := cells_low M6.out hb7 (by omega)
        have R7 := cells_low R6.out hb7 (by omega)
        have A7 := A6.out.low hcw (below_cut hb7 (by omega))
        obtain ⟨m7, f7⟩ := M7.g3
        have N10 : (⟨w.heap.size + 1, 3, none⟩ : Addr).block ≠ w.heap.size := by show w.heap.size + 1 ≠ w.heap.size; omega
        have MZ : Hid (Pg.Cells (w7.setCell ⟨w.heap.size + 1, 3, none⟩ (.slice (some ⟨g7, 0, none⟩) lz.length c7)) (w.heap.size + 1) [.int .i64 name, .slice none 0 0, .int .i64 (-1), .slice (some ⟨g7, 0, none⟩) lz.length c7]) := M7.s3 _
        have RZ : Hid (Pg.Cells (w7.setCell ⟨w.heap.size + 1, 3, none⟩ (.slice (some ⟨g7, 0, none⟩) lz.length c7)) w.heap.size [.int .i64 0, .slice none 0 0, .int .i64 0, .slice none 0 0]) := R7.far ⟨w.heap.size + 1, 3, none⟩ (.slice (some ⟨g7, 0, none⟩) lz.length c7) N10
        have OZ : Hid ((w7.setCell ⟨w.heap.size + 1, 3, none⟩ (.slice (some ⟨g7, 0, none⟩) lz.length c7)).ownsRow (w.heap.size + 1 + 1) 68 3 (.slice (some ⟨g7, 0, none⟩) lz.length c7) lz.length (flat lz)) := own_set O7 (p := ⟨w.heap.size + 1, 3, none⟩) (Nat.lt_succ_self _) _
        have OLZ : Hid ((w7.setCell ⟨w.heap.size + 1, 3, none⟩ (.slice (some ⟨g7, 0, none⟩) lz.length c7)).ownsRow (w.heap.size + 1 + 1) 68 3 (.slice (some ⟨gl, 0, none⟩) 2 cl) 2 (flat [x, y])) := own_set OL7 (p := ⟨w.heap.size + 1, 3, none⟩) (Nat.lt_succ_self _) _
        have AZ : Hid (At B w (w7.setCell ⟨w.heap.size + 1, 3, none⟩ (.slice (some ⟨g7, 0, none⟩) lz.length c7)) c a len cap) := A7.set hcw (p := ⟨w.heap.size + 1, 3, none⟩) (Nat.le_succ _) _
        clear hown7 hgrow7 hnil7 hb7 HV7 M7 R7 A7 O7 OL7 M6 R6 O6 OL6 A6 N10 m6 f6 hln
        generalize hZ : w7.setCell ⟨w.heap.size + 1, 3, none⟩ (.slice (some ⟨g7, 0, none⟩) lz.length c7) = Z at *
        have HLZ : Hid (lz = l0 ++ [(14, k, 0), (15, k, 0), (19, 0, 0)]) := hlz
        clear hlz
        have HSL : Hid (∀ j u, (flat [x, y])[j]? = some u → Z.cell? ((⟨gl, 0, none⟩ : Addr).add j) = some u) := own_src OLZ.out
        obtain ⟨z3, y3⟩ := MZ.out.g3
        have hzZ : w.heap.size + 1 + 1 ≤ Z.heap.size := by
          have := OLZ.out.lt gl rfl
          omega
        go_wp2_with (at_builtin; refine wpList_append_own _ rfl _ _ 39 rfl (w.heap.size + 1 + 1) 68 i0 (.agg #[.int .i64 0, .int .i64 0, .int .i64 0]) 3 24 Try.underlying39 hi hz0 hz1 hz2 rfl (by decide) _ _ _ rfl OZ.out ⟨gl, 0, none⟩ 2 cl (flat [x, y]) rfl rfl HSL.out (flat_one _) (by unfold maxLen; omega) (by omega) hzZ ?_)
        intro v6 w6 hown6 hgrow6 hnil6
        have hb6 : Below (w.heap.size + 1 + 1) Z w6 := (Below.refl _ _).grown hgrow6 hzZ (fun g hg => (OZ.out.lt g hg).1)
        have HV6 : Hid (v6 ≠ .slice none 0 0) := fun h => by first | exact hnil6 h | exact absurd (hnil6.1 h).1 (by simp)
        obtain ⟨g6, c6, rfl, hB6⟩ := own_shape hown6 HV6.out
        have O6 : Hid (w6.ownsRow (w.heap.size + 1 + 1) 68 3 (.slice (some ⟨g6, 0, none⟩) (lz.length + 2) c6) (lz ++ [x, y]).length (flat (lz ++ [x, y]))) := by
          show World.ownsRow _ _ _ _ _ _ _
          rw [flat_append, List.length_append]; exact hown6
        have M6 := cells_low MZ.out hb6 (by omega)
        have R6 := cells_low RZ.out hb6 (by omega)
        have A6 : Hid (At B w w6 c a len cap) := AZ.out.low hcw (below_cut hb6 (by omega))
        have N10 : (⟨w.heap.size + 1, 3, none⟩ : Addr).block ≠ w.heap.size := by show w.heap.size + 1 ≠ w.heap.size; omega
        have M7 := M6.s3 (.slice (some ⟨g6, 0, none⟩) (lz.length + 2) c6)
        have R7 := R6.far ⟨w.heap.size + 1, 3, none⟩ (.slice (some ⟨g6, 0, none⟩) (lz.length + 2) c6) N10
        have R8 := (((R7.s0 (.int .i64 name)).s1 (.slice none 0 0)).s2 (.int .i64 (-1))).s3 (.slice (some ⟨g6, 0, none⟩) (lz.length + 2) c6)
        obtain ⟨o3, p3⟩ := M6.g3
        obtain ⟨k0, _⟩ := M7.g0
        obtain ⟨k1, _⟩ := M7.g1
        obtain ⟨k2, _⟩ := M7.g2
        obtain ⟨k3, _⟩ := M7.g3
        obtain ⟨r0, q0⟩ := R7.g0
        obtain ⟨r1, q1⟩ := R7.g1
        obtain ⟨r2, q2⟩ := R7.g2
        obtain ⟨r3, q3⟩ := R7.g3
        obtain ⟨e0, _⟩ := R8.g0
        obtain ⟨e1, _⟩ := R8.g1
        obtain ⟨e2, _⟩ := R8.g2
        obtain ⟨e3, _⟩ := R8.g3
        have HOF : Hid ((((((w6.setCell ⟨w.heap.size + 1, 3, none⟩ (.slice (some ⟨g6, 0, none⟩) (lz.length + 2) c6)).setCell ⟨w.heap.size, 0, none⟩ (.int .i64 name)).setCell ⟨w.heap.size, 1, none⟩ (.slice none 0 0)).setCell ⟨w.heap.size, 2, none⟩ (.int .i64 (-1))).setCell ⟨w.heap.size, 3, none⟩ (.slice (some ⟨g6, 0, none⟩) (lz.length + 2) c6)).ownsRow (w.heap.size + 1 + 1) 68 3 (.slice (some ⟨g6, 0, none⟩) (lz.length + 2) c6) (lz ++ [x, y]).length (flat (lz ++ [x, y]))) :=
          own_set (own_set (own_set (own_set (own_set O6.out (p := ⟨w.heap.size + 1, 3, none⟩) (Nat.lt_succ_self _) _) (p := ⟨w.heap.size, 0, none⟩) (Nat.lt_succ_of_lt (Nat.lt_succ_self _)) _) (p := ⟨w.heap.size, 1, none⟩) (Nat.lt_succ_of_lt (Nat.lt_succ_self _)) _) (p := ⟨w.heap.size, 2, none⟩) (Nat.lt_succ_of_lt (Nat.lt_succ_self _)) _) (p := ⟨w.heap.size, 3, none⟩) (Nat.lt_succ_of_lt (Nat.lt_succ_self _)) _
        have HAF : Hid (At B w (((((w6.setCell ⟨w.heap.size + 1, 3, none⟩ (.slice (some ⟨g6, 0, none⟩) (lz.length + 2) c6)).setCell ⟨w.heap.size, 0, none⟩ (.int .i64 name)).setCell ⟨w.heap.size, 1, none⟩ (.slice none 0 0)).setCell ⟨w.heap.size, 2, none⟩ (.int .i64 (-1))).setCell ⟨w.heap.size, 3, none⟩ (.slice (some ⟨g6, 0, none⟩) (lz.length + 2) c6)) c a len cap) :=
          ((((A6.out.set hcw (p := ⟨w.heap.size + 1, 3, none⟩) (Nat.le_succ _) _).set hcw (p := ⟨w.heap.size, 0, none⟩) (Nat.le_refl _) _).set hcw (p := ⟨w.heap.size, 1, none⟩) (Nat.le_refl _) _).set hcw (p := ⟨w.heap.size, 2, none⟩) (Nat.le_refl _) _).set hcw (p := ⟨w.heap.size, 3, none⟩) (Nat.le_refl _) _
        clear hown6 hgrow6 hnil6 hb6 M6 R6 M7 R7 R8 A6 O6 z3 y3 N10 MZ RZ OZ OLZ AZ HSL HV6
        go_wp2
        refine bodyPost_ret (v := .agg #[.int .i64 name, .slice none 0 0, .int .i64 (-1), .slice (some ⟨g6, 0, none⟩) (lz.length + 2) c6]) (by simp [results, Try.results108, go_sem, e0, e1, e2, e3]) rfl ?_
        have hlf : (lz ++ [x, y]).length = lz.length + 2 := by simp
        refine ⟨g6, c6, lz ++ [x, y], by rw [hlf], ?_, by rw [hlf]; omega, HFZ.out, HAF.out⟩
        rw [hlf]
        exact got_of (own_base HOF.out (by omega)) (by simp)
      · obtain ⟨m6, f6⟩ := M6.out.g3
        go_wp2_with (at_builtin; refine wpList_append_own _ rfl _ _ 39 rfl (w.heap.size + 1 + 1) 68 i0 (.agg #[.int .i64 0, .int .i64 0, .int .i64 0]) 3 24 Try.underlying39 hi hz0 hz1 hz2 rfl (by decide) _ _ _ rfl (O6.out.alloc _) ⟨w6.heap.size, 0, none⟩ 6 6 (flat [(14, k, 0), (8, 0, 0), (1, 5, 0), (16, k, 0), (15, k, 0), (19, 0, 0)]) rfl rfl (lit_flat w6 [(14, k, 0), (8, 0, 0), (1, 5, 0), (16, k, 0), (15, k, 0), (19, 0, 0)] _ _ rfl) (flat_one _) (by unfold maxLen; omega) (by omega) (by simp; omega) ?_)
        intro v7 w7 hown7 hgrow7 hnil7
        have hb7 : Below (w.heap.size + 1 + 1) w6 w7 := ((Below.refl _ _).alloc hz6 _).grown hgrow7 (by simp; omega) (fun g hg => (O6.out.lt g hg).1)
        have HV7 : Hid (v7 ≠ .slice none 0 0) := fun h => by first | exact hnil7 h | exact absurd (hnil7.1 h).1 (by simp)
        have OL7 : w7.ownsRow (w.heap.size + 1 + 1) 68 3 (.slice (some ⟨gl, 0, none⟩) 2 cl) 2 (flat [x, y]) := own_grown (OL6.out.alloc _) hgrow7 (fun h => HNE.out (by simpa [Value.ownBlock] using h))
        obtain ⟨g7, c7, rfl, hB7⟩ := own_shape hown7 HV7.out
        obtain ⟨lz, hlz⟩ : ∃ lz, lz = l0 ++ [(14, k, 0), (8, 0, 0), (1, 5, 0), (16, k, 0), (15, k, 0), (19, 0, 0)] := ⟨_, rfl⟩
        have hln : lz.length = l0.length + 6 := by rw [hlz]; simp
        have HFZ : Hid (Fits (lz ++ [x, y])) := by
          show Fits _
          rw [hlz, List.append_assoc]
          exact fits_mid HF0.out (by simp only [Fits, FitsI, and_true]; omega)
        have O7 : w7.ownsRow (w.heap.size + 1 + 1) 68 3 (.slice (some ⟨g7, 0, none⟩) lz.length c7) lz.length (flat lz) := by
          rw [hln, hlz, flat_append]; exact hown7
        have hlz40 : lz.length ≤ 40 := by omega
        rw [show l0.length + 6 = lz.length from hln.symm]
        have M7 := cells_low M6.out hb7 (by omega)
        have R7 := cells_low R6.out hb7 (by omega)
        have A7 := A6.out.low hcw (below_cut hb7 (by omega))
        obtain ⟨m7, f7⟩ := M7.g3
        have N10 : (⟨w.heap.size + 1, 3, none⟩ : Addr).block ≠ w.heap.size := by show w.heap.size + 1 ≠ w.heap.size; omega
        have MZ : Hid (Pg.Cells (w7.setCell ⟨w.heap.size + 1, 3, none⟩ (.slice (some ⟨g7, 0, none⟩) lz.length c7)) (w.heap.size + 1) [.int .i64 name, .slice none 0 0, .int .i64 (-1), .slice (some ⟨g7, 0, none⟩) lz.length c7]) := M7.s3 _
        have RZ : Hid (Pg.Cells (w7.setCell ⟨w.heap.size + 1, 3, none⟩ (.slice (some ⟨g7, 0, none⟩) lz.length c7)) w.heap.size [.int .i64 0, .slice none 0 0, .int .i64 0, .slice none 0 0]) := R7.far ⟨w.heap.size + 1, 3, none⟩ (.slice (some ⟨g7, 0, none⟩) lz.length c7) N10
        have OZ : Hid ((w7.setCell ⟨w.heap.size + 1, 3, none⟩ (.slice (some ⟨g7, 0, none⟩) lz.length c7)).ownsRow (w.heap.size + 1 + 1) 68 3 (.slice (some ⟨g7, 0, none⟩) lz.length c7) lz.length (flat lz)) := own_set O7 (p := ⟨w.heap.size + 1, 3, none⟩) (Nat.lt_succ_self _) _
        have OLZ : Hid ((w7.setCell ⟨w.heap.size + 1, 3, none⟩ (.slice (some ⟨g7, 0, none⟩) lz.length c7)).ownsRow (w.heap.size + 1 + 1) 68 3 (.slice (some ⟨gl, 0, none⟩) 2 cl) 2 (flat [x, y])) := own_set OL7 (p := ⟨w.heap.size + 1, 3, none⟩) (Nat.lt_succ_self _) _
        have AZ : Hid (At B w (w7.setCell ⟨w.heap.size + 1, 3, none⟩ (.slice (some ⟨g7, 0, none⟩) lz.length c7)) c a len cap) := A7.set hcw (p := ⟨w.heap.size + 1, 3, none⟩) (Nat.le_succ _) _
        clear hown7 hgrow7 hnil7 hb7 HV7 M7 R7 A7 O7 OL7 M6 R6 O6 OL6 A6 N10 m6 f6 hln
        generalize hZ : w7.setCell ⟨w.heap.size + 1, 3, none⟩ (.slice (some ⟨g7, 0, none⟩) lz.length c7) = Z at *
        have HLZ : Hid (lz = l0 ++ [(14, k, 0), (8, 0, 0), (1, 5, 0), (16, k, 0), (15, k, 0), (19, 0, 0)]) := hlz
        clear hlz
        have HSL : Hid (∀ j u, (flat [x, y])[j]? = some u → Z.cell? ((⟨gl, 0, none⟩ : Addr).add j) = some u) := own_src OLZ.out
        obtain ⟨z3, y3⟩ := MZ.out.g3
        have hzZ : w.heap.size + 1 + 1 ≤ Z.heap.size := by
          have := OLZ.out.lt gl rfl
          omega
        go_wp2_with (at_builtin; refine wpList_append_own _ rfl _ _ 39 rfl (w.heap.size + 1 + 1) 68 i0 (.agg #[.int .i64 0, .int .i64 0, .int .i64 0]) 3 24 Try.underlying39 hi hz0 hz1 hz2 rfl (by decide) _ _ _ rfl OZ.out ⟨gl, 0, none⟩ 2 cl (flat [x, y]) rfl rfl HSL.out (flat_one _) (by unfold maxLen; omega) (by omega) hzZ ?_)
        intro v6 w6 hown6 hgrow6 hnil6
        have hb6 : Below (w.heap.size + 1 + 1) Z w6 := (Below.refl _ _).grown hgrow6 hzZ (fun g hg => (OZ.out.lt g hg).1)
        have HV6 : Hid (v6 ≠ .slice none 0 0) := fun h => by first | exact hnil6 h | exact absurd (hnil6.1 h).1 (by simp)
        obtain ⟨g6, c6, rfl, hB6⟩ := own_shape hown6 HV6.out
        have O6 : Hid (w6.ownsRow (w.heap.size + 1 + 1) 68 3 (.slice (some ⟨g6, 0, none⟩) (lz.length + 2) c6) (lz ++ [x, y]).length (flat (lz ++ [x, y]))) := by
          show World.ownsRow _ _ _ _ _ _ _
          rw [flat_append, List.length_append]; exact hown6
        have M6 := cells_low MZ.out hb6 (by omega)
        have R6 := cells_low RZ.out hb6 (by omega)
        have A6 : Hid (At B w w6 c a len cap) := AZ.out.low hcw (below_cut hb6 (by omega))
        have N10 : (⟨w.heap.size + 1, 3, none⟩ : Addr).block ≠ w.heap.size := by show w.heap.size + 1 ≠ w.heap.size; omega
        have M7 := M6.s3 (.slice (some ⟨g6, 0, none⟩) (lz.length + 2) c6)
        have R7 := R6.far ⟨w.heap.size + 1, 3, none⟩ (.slice (some ⟨g6, 0, none⟩) (lz.length + 2) c6) N10
        have R8 := (((R7.s0 (.int .i64 name)).s1 (.slice none 0 0)).s2 (.int .i64 (-1))).s3 (.slice (some ⟨g6, 0, none⟩) (lz.length + 2) c6)
        obtain ⟨o3, p3⟩ := M6.g3
        obtain ⟨k0, _⟩ := M7.g0
        obtain ⟨k1, _⟩ := M7.g1
        obtain ⟨k2, _⟩ := M7.g2
        obtain ⟨k3, _⟩ := M7.g3
        obtain ⟨r0, q0⟩ := R7.g0
        obtain ⟨r1, q1⟩ := R7.g1
        obtain ⟨r2, q2⟩ := R7.g2
        obtain ⟨r3, q3⟩ := R7.g3
        obtain ⟨e0, _⟩ := R8.g0
        obtain ⟨e1, _⟩ := R8.g1
        obtain ⟨e2, _⟩ := R8.g2
        obtain ⟨e3, _⟩ := R8.g3
        have HOF : Hid ((((((w6.setCell ⟨w.heap.size + 1, 3, none⟩ (.slice (some ⟨g6, 0, none⟩) (lz.length + 2) c6)).setCell ⟨w.heap.size, 0, none⟩ (.int .i64 name)).setCell ⟨w.heap.size, 1, none⟩ (.slice none 0 0)).setCell ⟨w.heap.size, 2, none⟩ (.int .i64 (-1))).setCell ⟨w.heap.size, 3, none⟩ (.slice (some ⟨g6, 0, none⟩) (lz.length + 2) c6)).ownsRow (w.heap.size + 1 + 1) 68 3 (.slice (some ⟨g6, 0, none⟩) (lz.length + 2) c6) (lz ++ [x, y]).length (flat (lz ++ [x, y]))) :=
          own_set (own_set (own_set (own_set (own_set O6.out (p := ⟨w.heap.size + 1, 3, none⟩) (Nat.lt_succ_self _) _) (p := ⟨w.heap.size, 0, none⟩) (Nat.lt_succ_of_lt (Nat.lt_succ_self _)) _) (p := ⟨w.heap.size, 1, none⟩) (Nat.lt_succ_of_lt (Nat.lt_succ_self _)) _) (p := ⟨w.heap.size, 2, none⟩) (Nat.lt_succ_of_lt (Nat.lt_succ_self _)) _) (p := ⟨w.heap.size, 3, none⟩) (Nat.lt_succ_of_lt (Nat.lt_succ_self _)) _
        have HAF : Hid (At B w (((((w6.setCell ⟨w.heap.size + 1, 3, none⟩ (.slice (some ⟨g6, 0, none⟩) (lz.length + 2) c6)).setCell ⟨w.heap.size, 0, none⟩ (.int .i64 name)).setCell ⟨w.heap.size, 1, none⟩ (.slice none 0 0)).setCell ⟨w.heap.size, 2, none⟩ (.int .i64 (-1))).setCell ⟨w.heap.size, 3, none⟩ (.slice (some ⟨g6, 0, none⟩) (lz.length + 2) c6)) c a len cap) :=
          ((((A6.out.set hcw (p := ⟨w.heap.size + 1, 3, none⟩) (Nat.le_succ _) _).set hcw (p := ⟨w.heap.size, 0, none⟩) (Nat.le_refl _) _).set hcw (p := ⟨w.heap.size, 1, none⟩) (Nat.le_refl _) _).set hcw (p := ⟨w.heap.size, 2, none⟩) (Nat.le_refl _) _).set hcw (p := ⟨w.heap.size, 3, none⟩) (Nat.le_refl _) _
        clear hown6 hgrow6 hnil6 hb6 M6 R6 M7 R7 R8 A6 O6 z3 y3 N10 MZ RZ OZ OLZ AZ HSL HV6
        go_wp2
        refine bodyPost_ret (v := .agg #[.int .i64 name, .slice none 0 0, .int .i64 (-1), .slice (some ⟨g6, 0, none⟩) (lz.length + 2) c6]) (by simp [results, Try.results108, go_sem, e0, e1, e2, e3]) rfl ?_
        have hlf : (lz ++ [x, y]).length = lz.length + 2 := by simp
        refine ⟨g6, c6, lz ++ [x, y], by rw [hlf], ?_, by rw [hlf]; omega, HFZ.out, HAF.out⟩
        rw [hlf]
        exact got_of (own_base HOF.out (by omega)) (by simp)
      · obtain ⟨m6, f6⟩ := M6.out.g3
        go_wp2_with (at_builtin; refine wpList_append_own_at _ rfl _ _ 39 rfl (w.heap.size + 1 + 1) 68 i0 (.agg #[.int .i64 0, .int .i64 0, .int .i64 0]) 3 24 Try.underlying39 hi hz0 hz1 hz2 rfl (by decide) _ _ _ rfl (O6.out.alloc _) ⟨w6.heap.size, 0, none⟩ 5 5 (flat [(13, 0, 0), (3, 4, 0), (2, 4, 0), (17, k, 1), (19, 0, 0)]) rfl rfl (lit_flat w6 [(13, 0, 0), (3, 4, 0), (2, 4, 0), (17, k, 1), (19, 0, 0)] _ _ rfl) (flat_one _) (by unfold maxLen; omega) (by omega) (by simp; omega) ?_)
        intro v7 w7 hown7 hgrow7 hnil7 hloc7
        have hb7 : Below (w.heap.size + 1 + 1) w6 w7 := ((Below.refl _ _).alloc hz6 _).grown hgrow7 (by simp; omega) (fun g hg => (O6.out.lt g hg).1)
        have HV7 : Hid (v7 ≠ .slice none 0 0) := fun h => by first | exact hnil7 h | exact absurd (hnil7.1 h).1 (by simp)
        have OL7 : w7.ownsRow (w.heap.size + 1 + 1) 68 3 (.slice (some ⟨gl, 0, none⟩) 2 cl) 2 (flat [x, y]) := own_grown (OL6.out.alloc _) hgrow7 (fun h => HNE.out (by simpa [Value.ownBlock] using h))
        obtain ⟨g7, c7, rfl, hB7⟩ := own_shape hown7 HV7.out
        have HN7 : Hid (gl ≠ g7) := by
          show gl ≠ g7
          have h1 := (OL6.out.lt gl rfl).2
          have h2 := HNE.out
          simp [Value.ownBlock] at hloc7
          omega
        have O7 : w7.ownsRow (w.heap.size + 1 + 1) 68 3 (.slice (some ⟨g7, 0, none⟩) (l0.length + 5) c7) (l0.length + 5) (flat (l0 ++ [(13, 0, 0), (3, 4, 0), (2, 4, 0), (17, k, 1), (19, 0, 0)])) := by
          rw [flat_append]; exact hown7
        have M7 := cells_low M6.out hb7 (by omega)
        have R7 := cells_low R6.out hb7 (by omega)
        have A7 := A6.out.low hcw (below_cut hb7 (by omega))
        obtain ⟨m7, f7⟩ := M7.g3
        have N10 : (⟨w.heap.size + 1, 3, none⟩ : Addr).block ≠ w.heap.size := by show w.heap.size + 1 ≠ w.heap.size; omega
        have MQ : Hid (Pg.Cells (w7.setCell ⟨w.heap.size + 1, 3, none⟩ (.slice (some ⟨g7, 0, none⟩) (l0.length + 5) c7)) (w.heap.size + 1) [.int .i64 name, .slice none 0 0, .int .i64 (-1), .slice (some ⟨g7, 0, none⟩) (l0.length + 5) c7]) := M7.s3 _
        have RQ : Hid (Pg.Cells (w7.setCell ⟨w.heap.size + 1, 3, none⟩ (.slice (some ⟨g7, 0, none⟩) (l0.length + 5) c7)) w.heap.size [.int .i64 0, .slice none 0 0, .int .i64 0, .slice none 0 0]) := R7.far ⟨w.heap.size + 1, 3, none⟩ (.slice (some ⟨g7, 0, none⟩) (l0.length + 5) c7) N10
        have OQ : Hid ((w7.setCell ⟨w.heap.size + 1, 3, none⟩ (.slice (some ⟨g7, 0, none⟩) (l0.length + 5) c7)).ownsRow (w.heap.size + 1 + 1) 68 3 (.slice (some ⟨g7, 0, none⟩) (l0.length + 5) c7) (l0.length + 5) (flat (l0 ++ [(13, 0, 0), (3, 4, 0), (2, 4, 0), (17, k, 1), (19, 0, 0)]))) := own_set O7 (p := ⟨w.heap.size + 1, 3, none⟩) (Nat.lt_succ_self _) _
        have OLQ : Hid ((w7.setCell ⟨w.heap.size + 1, 3, none⟩ (.slice (some ⟨g7, 0, none⟩) (l0.length + 5) c7)).ownsRow (w.heap.size + 1 + 1) 68 3 (.slice (some ⟨gl, 0, none⟩) 2 cl) 2 (flat [x, y])) := own_set OL7 (p := ⟨w.heap.size + 1, 3, none⟩) (Nat.lt_succ_self _) _
        have AQ : Hid (At B w (w7.setCell ⟨w.heap.size + 1, 3, none⟩ (.slice (some ⟨g7, 0, none⟩) (l0.length + 5) c7)) c a len cap) := A7.set hcw (p := ⟨w.heap.size + 1, 3, none⟩) (Nat.le_succ _) _
        clear hown7 hgrow7 hnil7 hb7 HV7 M7 R7 A7 O7 OL7 M6 R6 O6 OL6 A6 N10 m6 f6 hloc7
        generalize hQ : w7.setCell ⟨w.heap.size + 1, 3, none⟩ (.slice (some ⟨g7, 0, none⟩) (l0.length + 5) c7) = wQ at *
        go_wp2_with fail
        refine (once_at B c _ _ a len cap _ (At.start AQ.out.2)).mono ?_
        rintro e w8 ⟨r, rfl, h8⟩
        have M8 := cells_touch MQ.out h8.1 hk1
        have R8 := cells_touch RQ.out h8.1 hk0
        have O8 := own_touch OQ.out h8.1 (by omega)
        have OL8 := own_touch OLQ.out h8.1 (by omega)
        have A8 := AQ.out.step h8
        clear MQ RQ OQ OLQ AQ h8 hQ m7 f7
        cases r
        · obtain ⟨lz, hlz⟩ : ∃ lz, lz = l0 ++ [(13, 0, 0), (3, 4, 0), (2, 4, 0), (17, k, 1), (19, 0, 0)] := ⟨_, rfl⟩
          have hln : lz.length = l0.length + 5 := by rw [hlz]; simp
          have HFZ : Hid (Fits (lz ++ [x, y])) := by
            show Fits _
            rw [hlz, List.append_assoc]
            exact fits_mid HF0.out (by simp only [Fits, FitsI, and_true]; omega)
          have hlz40 : lz.length ≤ 40 := by omega
          rw [← hlz, ← hln] at O8
          rw [← hln] at M8
          have MZ : Hid (Pg.Cells w8 _ _) := M8
          have RZ : Hid (Pg.Cells w8 _ _) := R8
          have OZ : Hid (World.ownsRow w8 _ _ _ _ _ _) := O8
          have OLZ : Hid (World.ownsRow w8 _ _ _ _ _ _) := OL8
          have AZ : Hid (At B w w8 c a len cap) := A8
          clear M8 R8 O8 OL8 A8 hlz
          rw [← hln]
          clear hln
          have HSL : Hid (∀ j u, (flat [x, y])[j]? = some u → w8.cell? ((⟨gl, 0, none⟩ : Addr).add j) = some u) := own_src OLZ.out
          obtain ⟨z3, y3⟩ := MZ.out.g3
          have hzZ : w.heap.size + 1 + 1 ≤ w8.heap.size := by
            have := OLZ.out.lt gl rfl
            omega
          go_wp2_with (at_builtin; refine wpList_append_own _ rfl _ _ 39 rfl (w.heap.size + 1 + 1) 68 i0 (.agg #[.int .i64 0, .int .i64 0, .int .i64 0]) 3 24 Try.underlying39 hi hz0 hz1 hz2 rfl (by decide) _ _ _ rfl OZ.out ⟨gl, 0, none⟩ 2 cl (flat [x, y]) rfl rfl HSL.out (flat_one _) (by unfold maxLen; omega) (by omega) hzZ ?_)
          intro v6 w6 hown6 hgrow6 hnil6
          have hb6 : Below (w.heap.size + 1 + 1) w8 w6 := (Below.refl _ _).grown hgrow6 hzZ (fun g hg => (OZ.out.lt g hg).1)
          have HV6 : Hid (v6 ≠ .slice none 0 0) := fun h => by first | exact hnil6 h | exact absurd (hnil6.1 h).1 (by simp)
          obtain ⟨g6, c6, rfl, hB6⟩ := own_shape hown6 HV6.out
          have O6 : Hid (w6.ownsRow (w.heap.size + 1 + 1) 68 3 (.slice (some ⟨g6, 0, none⟩) (lz.length + 2) c6) (lz ++ [x, y]).length (flat (lz ++ [x, y]))) := by
            show World.ownsRow _ _ _ _ _ _ _
            rw [flat_append, List.length_append]; exact hown6
          have M6 := cells_low MZ.out hb6 (by omega)
          have R6 := cells_low RZ.out hb6 (by omega)
          have A6 : Hid (At B w w6 c a len cap) := AZ.out.low hcw (below_cut hb6 (by omega))
          have N10 : (⟨w.heap.size + 1, 3, none⟩ : Addr).block ≠ w.heap.size := by show w.heap.size + 1 ≠ w.heap.size; omega
          have M7 := M6.s3 (.slice (some ⟨g6, 0, none⟩) (lz.length + 2) c6)
          have R7 := R6.far ⟨w.heap.size + 1, 3, none⟩ (.slice (some ⟨g6, 0, none⟩) (lz.length + 2) c6) N10
          have R8 := (((R7.s0 (.int .i64 name)).s1 (.slice none 0 0)).s2 (.int .i64 (-1))).s3 (.slice (some ⟨g6, 0, none⟩) (lz.length + 2) c6)
          obtain ⟨o3, p3⟩ := M6.g3
          obtain ⟨k0, _⟩ := M7.g0
          obtain ⟨k1, _⟩ := M7.g1
          obtain ⟨k2, _⟩ := M7.g2
          obtain ⟨k3, _⟩ := M7.g3
          obtain ⟨r0, q0⟩ := R7.g0
          obtain ⟨r1, q1⟩ := R7.g1
          obtain ⟨r2, q2⟩ := R7.g2
          obtain ⟨r3, q3⟩ := R7.g3
          obtain ⟨e0, _⟩ := R8.g0
          obtain ⟨e1, _⟩ := R8.g1
          obtain ⟨e2, _⟩ := R8.g2
          obtain ⟨e3, _⟩ := R8.g3
          have HOF : Hid ((((((w6.setCell ⟨w.heap.size + 1, 3, none⟩ (.slice (some ⟨g6, 0, none⟩) (lz.length + 2) c6)).setCell ⟨w.heap.size, 0, none⟩ (.int .i64 name)).setCell ⟨w.heap.size, 1, none⟩ (.slice none 0 0)).setCell ⟨w.heap.size, 2, none⟩ (.int .i64 (-1))).setCell ⟨w.heap.size, 3, none⟩ (.slice (some ⟨g6, 0, none⟩) (lz.length + 2) c6)).ownsRow (w.heap.size + 1 + 1) 68 3 (.slice (some ⟨g6, 0, none⟩) (lz.length + 2) c6) (lz ++ [x, y]).length (flat (lz ++ [x, y]))) :=
            own_set (own_set (own_set (own_set (own_set O6.out (p := ⟨w.heap.size + 1, 3, none⟩) (Nat.lt_succ_self _) _) (p := ⟨w.heap.size, 0, none⟩) (Nat.lt_succ_of_lt (Nat.lt_succ_self _)) _) (p := ⟨w.heap.size, 1, none⟩) (Nat.lt_succ_of_lt (Nat.lt_succ_self _)) _) (p := ⟨w.heap.size, 2, none⟩) (Nat.lt_succ_of_lt (Nat.lt_succ_self _)) _) (p := ⟨w.heap.size, 3, none⟩) (Nat.lt_succ_of_lt (Nat.lt_succ_self _)) _
          have HAF : Hid (At B w (((((w6.setCell ⟨w.heap.size + 1, 3, none⟩ (.slice (some ⟨g6, 0, none⟩) (lz.length + 2) c6)).setCell ⟨w.heap.size, 0, none⟩ (.int .i64 name)).setCell ⟨w.heap.size, 1, none⟩ (.slice none 0 0)).setCell ⟨w.heap.size, 2, none⟩ (.int .i64 (-1))).setCell ⟨w.heap.size, 3, none⟩ (.slice (some ⟨g6, 0, none⟩) (lz.length + 2) c6)) c a len cap) :=
            ((((A6.out.set hcw (p := ⟨w.heap.size + 1, 3, none⟩) (Nat.le_succ _) _).set hcw (p := ⟨w.heap.size, 0, none⟩) (Nat.le_refl _) _).set hcw (p := ⟨w.heap.size, 1, none⟩) (Nat.le_refl _) _).set hcw (p := ⟨w.heap.size, 2, none⟩) (Nat.le_refl _) _).set hcw (p := ⟨w.heap.size, 3, none⟩) (Nat.le_refl _) _
          clear hown6 hgrow6 hnil6 hb6 M6 R6 M7 R7 R8 A6 O6 z3 y3 N10 MZ RZ OZ OLZ AZ HSL HV6
          go_wp2
          refine bodyPost_ret (v := .agg #[.int .i64 name, .slice none 0 0, .int .i64 (-1), .slice (some ⟨g6, 0, none⟩) (lz.length + 2) c6]) (by simp [results, Try.results108, go_sem, e0, e1, e2, e3]) rfl ?_
          have hlf : (lz ++ [x, y]).length = lz.length + 2 := by simp
          refine ⟨g6, c6, lz ++ [x, y], by rw [hlf], ?_, by rw [hlf]; omega, HFZ.out, HAF.out⟩
          rw [hlf]
          exact got_of (own_base HOF.out (by omega)) (by simp)
        · have hd : ∀ i, i < 3 → ∃ v, w8.cell? ⟨g7, l0.length * 3 + i, none⟩ = some v := fun i hi => by
            have hc := O8.cellAt (l0.length * 3 + i) (by omega)
            have hl : l0.length * 3 + i < (flat (l0 ++ [(13, 0, 0), (3, 4, 0), (2, 4, 0), (17, k, 1), (19, 0, 0)])).length := by
              rw [flat_len]
              simp
              omega
            rw [List.getElem?_eq_getElem hl] at hc
            exact ⟨_, hc⟩
          obtain ⟨x0, d0⟩ := hd 0 (by omega)
          obtain ⟨x1, d1⟩ := hd 1 (by omega)
          obtain ⟨x2, d2⟩ := hd 2 (by omega)
          rw [Nat.add_zero] at d0
          have f0 := O8.frozenAt (l0.length * 3)
          have f1 := O8.frozenAt (l0.length * 3 + 1)
          have f2 := O8.frozenAt (l0.length * 3 + 2)
          have T1 := O8.stored (l0.length * 3) (.int .i64 14)
          have T2 := T1.1.stored (l0.length * 3 + 1) (.int .i64 k)
          have T3 := T2.1.stored (l0.length * 3 + 2) (.int .i64 0)
          obtain ⟨lz, hlz⟩ : ∃ lz, lz = l0 ++ [(14, k, 0), (3, 4, 0), (2, 4, 0), (17, k, 1), (19, 0, 0)] := ⟨_, rfl⟩
          have hln : lz.length = l0.length + 5 := by rw [hlz]; simp
          have HFZ : Hid (Fits (lz ++ [x, y])) := by
            show Fits _
            rw [hlz, List.append_assoc]
            exact fits_mid HF0.out (by simp only [Fits, FitsI, and_true]; omega)
          have hlz40 : lz.length ≤ 40 := by omega
          have hfl : (((flat (l0 ++ [(13, 0, 0), (3, 4, 0), (2, 4, 0), (17, k, 1), (19, 0, 0)])).set (l0.length * 3) (.int .i64 14)).set (l0.length * 3 + 1) (.int .i64 k)).set (l0.length * 3 + 2) (.int .i64 0) = flat lz := by
            rw [hlz, flat_append, flat_append, ← flat_len l0]
            simp [List.set_append_right, flat]
          have O9 := T3.1
          rw [hfl] at O9
          have OL9 := own_grown (own_grown (own_grown OL8 T1.2 (fun h => HN7.out (by simpa using h))) T2.2 (fun h => HN7.out (by simpa using h))) T3.2 (fun h => HN7.out (by simpa using h))
          have hg7a : g7 ≠ w.heap.size + 1 := by omega
          have hg7b : g7 ≠ w.heap.size := by omega
          have M9 := ((M8.far ⟨g7, l0.length * 3, none⟩ (.int .i64 14) hg7a).far ⟨g7, l0.length * 3 + 1, none⟩ (.int .i64 k) hg7a).far ⟨g7, l0.length * 3 + 2, none⟩ (.int .i64 0) hg7a
          have R9 := ((R8.far ⟨g7, l0.length * 3, none⟩ (.int .i64 14) hg7b).far ⟨g7, l0.length * 3 + 1, none⟩ (.int .i64 k) hg7b).far ⟨g7, l0.length * 3 + 2, none⟩ (.int .i64 0) hg7b
          have hg7c : w.heap.size ≤ g7 := by omega
          have A9 := ((A8.set hcw (p := ⟨g7, l0.length * 3, none⟩) hg7c (.int .i64 14)).set hcw (p := ⟨g7, l0.length * 3 + 1, none⟩) hg7c (.int .i64 k)).set hcw (p := ⟨g7, l0.length * 3 + 2, none⟩) hg7c (.int .i64 0)
          obtain ⟨m8, _⟩ := M8.g3
          rw [← hln] at O9 M9
          have MZ : Hid (Pg.Cells _ _ _) := M9
          have RZ : Hid (Pg.Cells _ _ _) := R9
          have OZ : Hid (World.ownsRow _ _ _ _ _ _ _) := O9
          have OLZ : Hid (World.ownsRow _ _ _ _ _ _ _) := OL9
          have AZ : Hid (At B w _ c a len cap) := A9
          clear hd T1 T2 T3 M8 R8 O8 OL8 A8 O9 OL9 M9 R9 A9 hfl hlz
          generalize hZ : ((w8.setCell ⟨g7, l0.length * 3, none⟩ (.int .i64 14)).setCell ⟨g7, l0.length * 3 + 1, none⟩ (.int .i64 k)).setCell ⟨g7, l0.length * 3 + 2, none⟩ (.int .i64 0) = Z at *
          have HLN : Hid (lz.length = l0.length + 5) := hln
          clear hln
          have HSL : Hid (∀ j u, (flat [x, y])[j]? = some u → Z.cell? ((⟨gl, 0, none⟩ : Addr).add j) = some u) := own_src OLZ.out
          obtain ⟨z3, y3⟩ := MZ.out.g3
          have hzZ : w.heap.size + 1 + 1 ≤ Z.heap.size := by
            have := OLZ.out.lt gl rfl
            omega
          go_wp2_with (at_builtin; refine wpList_append_own _ rfl _ _ 39 rfl (w.heap.size + 1 + 1) 68 i0 (.agg #[.int .i64 0, .int .i64 0, .int .i64 0]) 3 24 Try.underlying39 hi hz0 hz1 hz2 rfl (by decide) _ _ _ rfl OZ.out ⟨gl, 0, none⟩ 2 cl (flat [x, y]) rfl rfl HSL.out (flat_one _) (by unfold maxLen; omega) (by omega) hzZ ?_)
          intro v6 w6 hown6 hgrow6 hnil6
          have hb6 : Below (w.heap.size + 1 + 1) Z w6 := (Below.refl _ _).grown hgrow6 hzZ (fun g hg => (OZ.out.lt g hg).1)
          have HV6 : Hid (v6 ≠ .slice none 0 0) := fun h => by first | exact hnil6 h | exact absurd (hnil6.1 h).1 (by simp)
          obtain ⟨g6, c6, rfl, hB6⟩ := own_shape hown6 HV6.out
          have O6 : Hid (w6.ownsRow (w.heap.size + 1 + 1) 68 3 (.slice (some ⟨g6, 0, none⟩) (lz.length + 2) c6) (lz ++ [x, y]).length (flat (lz ++ [x, y]))) := by
            show World.ownsRow _ _ _ _ _ _ _
            rw [flat_append, List.length_append]; exact hown6
          have M6 := cells_low MZ.out hb6 (by omega)
          have R6 := cells_low RZ.out hb6 (by omega)
          have A6 : Hid (At B w w6 c a len cap) := AZ.out.low hcw (below_cut hb6 (by omega))
          have N10 : (⟨w.heap.size + 1, 3, none⟩ : Addr).block ≠ w.heap.size := by show w.heap.size + 1 ≠ w.heap.size; omega
          have M7 := M6.s3 (.slice (some ⟨g6, 0, none⟩) (lz.length + 2) c6)
          have R7 := R6.far ⟨w.heap.size + 1, 3, none⟩ (.slice (some ⟨g6, 0, none⟩) (lz.length + 2) c6) N10
          have R8 := (((R7.s0 (.int .i64 name)).s1 (.slice none 0 0)).s2 (.int .i64 (-1))).s3 (.slice (some ⟨g6, 0, none⟩) (lz.length + 2) c6)
          obtain ⟨o3, p3⟩ := M6.g3
          obtain ⟨k0, _⟩ := M7.g0
          obtain ⟨k1, _⟩ := M7.g1
          obtain ⟨k2, _⟩ := M7.g2
          obtain ⟨k3, _⟩ := M7.g3
          obtain ⟨r0, q0⟩ := R7.g0
          obtain ⟨r1, q1⟩ := R7.g1
          obtain ⟨r2, q2⟩ := R7.g2
          obtain ⟨r3, q3⟩ := R7.g3
          obtain ⟨e0, _⟩ := R8.g0
          obtain ⟨e1, _⟩ := R8.g1
          obtain ⟨e2, _⟩ := R8.g2
          obtain ⟨e3, _⟩ := R8.g3
          have HOF : Hid ((((((w6.setCell ⟨w.heap.size + 1, 3, none⟩ (.slice (some ⟨g6, 0, none⟩) (lz.length + 2) c6)).setCell ⟨w.heap.size, 0, none⟩ (.int .i64 name)).setCell ⟨w.heap.size, 1, none⟩ (.slice none 0 0)).setCell ⟨w.heap.size, 2, none⟩ (.int .i64 (-1))).setCell ⟨w.heap.size, 3, none⟩ (.slice (some ⟨g6, 0, none⟩) (lz.length + 2) c6)).ownsRow (w.heap.size + 1 + 1) 68 3 (.slice (some ⟨g6, 0, none⟩) (lz.length + 2) c6) (lz ++ [x, y]).length (flat (lz ++ [x, y]))) :=
            own_set (own_set (own_set (own_set (own_set O6.out (p := ⟨w.heap.size + 1, 3, none⟩) (Nat.lt_succ_self _) _) (p := ⟨w.heap.size, 0, none⟩) (Nat.lt_succ_of_lt (Nat.lt_succ_self _)) _) (p := ⟨w.heap.size, 1, none⟩) (Nat.lt_succ_of_lt (Nat.lt_succ_self _)) _) (p := ⟨w.heap.size, 2, none⟩) (Nat.lt_succ_of_lt (Nat.lt_succ_self _)) _) (p := ⟨w.heap.size, 3, none⟩) (Nat.lt_succ_of_lt (Nat.lt_succ_self _)) _
          have HAF : Hid (At B w (((((w6.setCell ⟨w.heap.size + 1, 3, none⟩ (.slice (some ⟨g6, 0, none⟩) (lz.length + 2) c6)).setCell ⟨w.heap.size, 0, none⟩ (.int .i64 name)).setCell ⟨w.heap.size, 1, none⟩ (.slice none 0 0)).setCell ⟨w.heap.size, 2, none⟩ (.int .i64 (-1))).setCell ⟨w.heap.size, 3, none⟩ (.slice (some ⟨g6, 0, none⟩) (lz.length + 2) c6)) c a len cap) :=
            ((((A6.out.set hcw (p := ⟨w.heap.size + 1, 3, none⟩) (Nat.le_succ _) _).set hcw (p := ⟨w.heap.size, 0, none⟩) (Nat.le_refl _) _).set hcw (p := ⟨w.heap.size, 1, none⟩) (Nat.le_refl _) _).set hcw (p := ⟨w.heap.size, 2, none⟩) (Nat.le_refl _) _).set hcw (p := ⟨w.heap.size, 3, none⟩) (Nat.le_refl _) _
          clear hown6 hgrow6 hnil6 hb6 M6 R6 M7 R7 R8 A6 O6 z3 y3 N10 MZ RZ OZ OLZ AZ HSL HV6
          go_wp2
          refine bodyPost_ret (v := .agg #[.int .i64 name, .slice none 0 0, .int .i64 (-1), .slice (some ⟨g6, 0, none⟩) (lz.length + 2) c6]) (by simp [results, Try.results108, go_sem, e0, e1, e2, e3]) rfl ?_
          have hlf : (lz ++ [x, y]).length = lz.length + 2 := by simp
          refine ⟨g6, c6, lz ++ [x, y], by rw [hlf], ?_, by rw [hlf]; omega, HFZ.out, HAF.out⟩
          rw [hlf]
          exact got_of (own_base HOF.out (by omega)) (by simp)
    · have hnI : ¬ ((l0.length : Int) < 32) := by omega
      generalize hZ : w4.setCell ⟨w.heap.size + 1, 3, none⟩ (.slice (some ⟨gv, 0, none⟩) l0.length cv) = Z at *
      have MZ := MY
      have RZ := RY
      have OZ := OY
      have OLZ := OLY
      have AZ := AY
      have HFZ := HF0
      clear MY RY OY OLY AY
      have HSL : Hid (∀ j u, (flat [x, y])[j]? = some u → Z.cell? ((⟨gl, 0, none⟩ : Addr).add j) = some u) := own_src OLZ.out
      obtain ⟨z3, y3⟩ := MZ.out.g3
      have hzZ : w.heap.size + 1 + 1 ≤ Z.heap.size := by
        have := OLZ.out.lt gl rfl
        omega
      go_wp2_with (at_builtin; refine wpList_append_own _ rfl _ _ 39 rfl (w.heap.size + 1 + 1) 68 i0 (.agg #[.int .i64 0, .int .i64 0, .int .i64 0]) 3 24 Try.underlying39 hi hz0 hz1 hz2 rfl (by decide) _ _ _ rfl OZ.out ⟨gl, 0, none⟩ 2 cl (flat [x, y]) rfl rfl HSL.out (flat_one _) (by unfold maxLen; omega) (by omega) hzZ ?_)
      intro v6 w6 hown6 hgrow6 hnil6
      have hb6 : Below (w.heap.size + 1 + 1) Z w6 := (Below.refl _ _).grown hgrow6 hzZ (fun g hg => (OZ.out.lt g hg).1)
      have HV6 : Hid (v6 ≠ .slice none 0 0) := fun h => by first | exact hnil6 h | exact absurd (hnil6.1 h).1 (by simp)
      obtain ⟨g6, c6, rfl, hB6⟩ := own_shape hown6 HV6.out
      have O6 : Hid (w6.ownsRow (w.heap.size + 1 + 1) 68 3 (.slice (some ⟨g6, 0, none⟩) (l0.length + 2) c6) (l0 ++ [x, y]).length (flat (l0 ++ [x, y]))) := by
        show World.ownsRow _ _ _ _ _ _ _
        rw [flat_append, List.length_append]; exact hown6
      have M6 := cells_low MZ.out hb6 (by omega)
      have R6 := cells_low RZ.out hb6 (by omega)
      have A6 : Hid (At B w w6 c a len cap) := AZ.out.low hcw (below_cut hb6 (by omega))
      have N10 : (⟨w.heap.size + 1, 3, none⟩ : Addr).block ≠ w.heap.size := by show w.heap.size + 1 ≠ w.heap.size; omega
      have M7 := M6.s3 (.slice (some ⟨g6, 0, none⟩) (l0.length + 2) c6)
      have R7 := R6.far ⟨w.heap.size + 1, 3, none⟩ (.slice (some ⟨g6, 0, none⟩) (l0.length + 2) c6) N10
      have R8 := (((R7.s0 (.int .i64 name)).s1 (.slice none 0 0)).s2 (.int .i64 (-1))).s3 (.slice (some ⟨g6, 0, none⟩) (l0.length + 2) c6)
      obtain ⟨o3, p3⟩ := M6.g3
      obtain ⟨k0, _⟩ := M7.g0
      obtain ⟨k1, _⟩ := M7.g1
      obtain ⟨k2, _⟩ := M7.g2
      obtain ⟨k3, _⟩ := M7.g3
      obtain ⟨r0, q0⟩ := R7.g0
      obtain ⟨r1, q1⟩ := R7.g1
      obtain ⟨r2, q2⟩ := R7.g2
      obtain ⟨r3, q3⟩ := R7.g3
      obtain ⟨e0, _⟩ := R8.g0
      obtain ⟨e1, _⟩ := R8.g1
      obtain ⟨e2, _⟩ := R8.g2
      obtain ⟨e3, _⟩ := R8.g3
      have HOF : Hid ((((((w6.setCell ⟨w.heap.size + 1, 3, none⟩ (.slice (some ⟨g6, 0, none⟩) (l0.length + 2) c6)).setCell ⟨w.heap.size, 0, none⟩ (.int .i64 name)).setCell ⟨w.heap.size, 1, none⟩ (.slice none 0 0)).setCell ⟨w.heap.size, 2, none⟩ (.int .i64 (-1))).setCell ⟨w.heap.size, 3, none⟩ (.slice (some ⟨g6, 0, none⟩) (l0.length + 2) c6)).ownsRow (w.heap.size + 1 + 1) 68 3 (.slice (some ⟨g6, 0, none⟩) (l0.length + 2) c6) (l0 ++ [x, y]).length (flat (l0 ++ [x, y]))) :=
        own_set (own_set (own_set (own_set (own_set O6.out (p := ⟨w.heap.size + 1, 3, none⟩) (Nat.lt_succ_self _) _) (p := ⟨w.heap.size, 0, none⟩) (Nat.lt_succ_of_lt (Nat.lt_succ_self _)) _) (p := ⟨w.heap.size, 1, none⟩) (Nat.lt_succ_of_lt (Nat.lt_succ_self _)) _) (p := ⟨w.heap.size, 2, none⟩) (Nat.lt_succ_of_lt (Nat.lt_succ_self _)) _) (p := ⟨w.heap.size, 3, none⟩) (Nat.lt_succ_of_lt (Nat.lt_succ_self _)) _
      have HAF : Hid (At B w (((((w6.setCell ⟨w.heap.size + 1, 3, none⟩ (.slice (some ⟨g6, 0, none⟩) (l0.length + 2) c6)).setCell ⟨w.heap.size, 0, none⟩ (.int .i64 name)).setCell ⟨w.heap.size, 1, none⟩ (.slice none 0 0)).setCell ⟨w.heap.size, 2, none⟩ (.int .i64 (-1))).setCell ⟨w.heap.size, 3, none⟩ (.slice (some ⟨g6, 0, none⟩) (l0.length + 2) c6)) c a len cap) :=
        ((((A6.out.set hcw (p := ⟨w.heap.size + 1, 3, none⟩) (Nat.le_succ _) _).set hcw (p := ⟨w.heap.size, 0, none⟩) (Nat.le_refl _) _).set hcw (p := ⟨w.heap.size, 1, none⟩) (Nat.le_refl _) _).set hcw (p := ⟨w.heap.size, 2, none⟩) (Nat.le_refl _) _).set hcw (p := ⟨w.heap.size, 3, none⟩) (Nat.le_refl _) _
      clear hown6 hgrow6 hnil6 hb6 M6 R6 M7 R7 R8 A6 O6 z3 y3 N10 MZ RZ OZ OLZ AZ HSL HV6
      go_wp2
      refine bodyPost_ret (v := .agg #[.int .i64 name, .slice none 0 0, .int .i64 (-1), .slice (some ⟨g6, 0, none⟩) (l0.length + 2) c6]) (by simp [results, Try.results108, go_sem, e0, e1, e2, e3]) rfl ?_
      have hlf : (l0 ++ [x, y]).length = l0.length + 2 := by simp
      refine ⟨g6, c6, l0 ++ [x, y], by rw [hlf], ?_, by rw [hlf]; omega, HFZ.out, HAF.out⟩
      rw [hlf]
      exact got_of (own_base HOF.out (by omega)) (by simp)
end Cu
end Go.Proofs.Ytmbbombjlijknaa

/- Contracts of the laws' own copying of programs: rows of methods, classes, programs. -/
namespace Go.Proofs.Ytmbbombjlijknaa
namespace Pg
open Go.ChangeShapes Go.WideShapes Go.ChangeAt Go.RowKit St

theorem infoMe : (Try.prog.info? 41).map (fun i => (i.zero, i.size, i.bytes)) = some (some (.agg #[.int .i64 0, .slice none 0 0, .int .i64 0, .slice none 0 0]), 4, 64) := by kernel_rfl
theorem infoCl : (Try.prog.info? 65).map (fun i => (i.zero, i.size, i.bytes)) = some (some (.agg #[.int .i64 0, .slice none 0 0, .slice none 0 0]), 3, 56) := by kernel_rfl

theorem ne_off {g a b : Nat} (h : a ≠ b) : (⟨g, a, none⟩ : Addr) ≠ ⟨g, b, none⟩ := fun e => h (congrArg Addr.off e)
theorem MAt.far {K : Way} {B g o i : Nat} {w : World} {m : Meth} (h : MAt K B w g o m) (hg : g < B) (hi : i < o ∨ o + 3 < i) (v : Value) : MAt K B (w.setCell ⟨g, i, none⟩ v) g o m := by
  obtain ⟨va, vc, h0, h1, h2, h3, h4⟩ := h
  exact ⟨va, vc, (World.cell?_setCell_other _ _ _ _ (ne_off (by omega))).trans h0, (World.cell?_setCell_other _ _ _ _ (ne_off (by omega))).trans h1, (World.cell?_setCell_other _ _ _ _ (ne_off (by omega))).trans h2, (World.cell?_setCell_other _ _ _ _ (ne_off (by omega))).trans h3, h4.on (Keep.set w (p := ⟨g, i, none⟩) hg v)⟩
theorem CAt.far {K : Way} {B g o i : Nat} {w : World} {m : Cls} (h : CAt K B w g o m) (hg : g < B) (hi : i < o ∨ o + 2 < i) (v : Value) : CAt K B (w.setCell ⟨g, i, none⟩ v) g o m := by
  obtain ⟨va, vc, h0, h1, h2, h4⟩ := h
  exact ⟨va, vc, (World.cell?_setCell_other _ _ _ _ (ne_off (by omega))).trans h0, (World.cell?_setCell_other _ _ _ _ (ne_off (by omega))).trans h1, (World.cell?_setCell_other _ _ _ _ (ne_off (by omega))).trans h2, h4.on (Keep.set w (p := ⟨g, i, none⟩) hg v)⟩
/-- One method more written. -/
theorem meths_next {K : Way} {g k : Nat} {w : World} {ms : List Meth} (hk : k < ms.length) (hroom : Room w g (ms.length * 4)) (h : ∀ j x, (ms.take k)[j]? = some x → MAt K (g + 1) w g (0 + j * 4) x) {va vc : Value} (hv : MV K (g + 1) w va vc ms[k]) :
    ∀ j x, (ms.take (k + 1))[j]? = some x → MAt K (g + 1) ((((w.setCell ⟨g, k * 4, none⟩ (.int .i64 ms[k].name)).setCell ⟨g, k * 4 + 1, none⟩ va).setCell ⟨g, k * 4 + 2, none⟩ (.int .i64 ms[k].gives)).setCell ⟨g, k * 4 + 3, none⟩ vc) g (0 + j * 4) x := by
  intro j x hj
  rw [List.getElem?_take] at hj
  split at hj
  · rename_i hlt
    by_cases e : j = k
    · subst e
      rw [List.getElem?_eq_getElem hk] at hj
      simp at hj
      subst hj
      obtain ⟨⟨x0, h0⟩, _⟩ := hroom (j * 4) (by omega)
      obtain ⟨⟨x1, h1⟩, _⟩ := hroom (j * 4 + 1) (by omega)
      obtain ⟨⟨x2, h2⟩, _⟩ := hroom (j * 4 + 2) (by omega)
      obtain ⟨⟨x3, h3⟩, _⟩ := hroom (j * 4 + 3) (by omega)
      rw [Nat.zero_add]
      have k1 := Keep.set (B := g + 1) w (p := ⟨g, j * 4, none⟩) (by simp) (.int .i64 ms[j].name)
      refine ⟨va, vc, ?_, ?_, ?_, ?_, hv.on (((k1.trans (Keep.set _ (p := ⟨g, j * 4 + 1, none⟩) (by simp) va)).trans (Keep.set _ (p := ⟨g, j * 4 + 2, none⟩) (by simp) _)).trans (Keep.set _ (p := ⟨g, j * 4 + 3, none⟩) (by simp) vc))⟩
      · rw [World.cell?_setCell_other _ _ _ _ (ne_off (by omega)), World.cell?_setCell_other _ _ _ _ (ne_off (by omega)), World.cell?_setCell_other _ _ _ _ (ne_off (by omega))]
        exact World.cell?_setCell_same _ _ _ h0
      · rw [World.cell?_setCell_other _ _ _ _ (ne_off (by omega)), World.cell?_setCell_other _ _ _ _ (ne_off (by omega))]
        exact World.cell?_setCell_same _ _ _ ((World.cell?_setCell_other _ _ _ _ (ne_off (by omega))).trans h1)
      · rw [World.cell?_setCell_other _ _ _ _ (ne_off (by omega))]
        exact World.cell?_setCell_same _ _ _ ((World.cell?_setCell_other _ _ _ _ (ne_off (by omega))).trans ((World.cell?_setCell_other _ _ _ _ (ne_off (by omega))).trans h2))
      · exact World.cell?_setCell_same _ _ _ ((World.cell?_setCell_other _ _ _ _ (ne_off (by omega))).trans ((World.cell?_setCell_other _ _ _ _ (ne_off (by omega))).trans ((World.cell?_setCell_other _ _ _ _ (ne_off (by omega))).trans h3)))
    · have hx := h j x (by rw [List.getElem?_take, if_pos (by omega)]; exact hj)
      exact (((hx.far (by omega) (by omega) _).far (by omega) (by omega) _).far (by omega) (by omega) _).far (by omega) (by omega) _
  · simp at hj
theorem classes_next {K : Way} {g k : Nat} {w : World} {ms : Prg} (hk : k < ms.length) (hroom : Room w g (ms.length * 3)) (h : ∀ j x, (ms.take k)[j]? = some x → CAt K (g + 1) w g (0 + j * 3) x) {vf vm : Value} (hv : CV K (g + 1) w vf vm ms[k]) :
    ∀ j x, (ms.take (k + 1))[j]? = some x → CAt K (g + 1) (((w.setCell ⟨g, k * 3, none⟩ (.int .i64 ms[k].super)).setCell ⟨g, k * 3 + 1, none⟩ vf).setCell ⟨g, k * 3 + 2, none⟩ vm) g (0 + j * 3) x := by
  intro j x hj
  rw [List.getElem?_take] at hj
  split at hj
  · rename_i hlt
    by_cases e : j = k
    · subst e
      rw [List.getElem?_eq_getElem hk] at hj
      simp at hj
      subst hj
      obtain ⟨⟨x0, h0⟩, _⟩ := hroom (j * 3) (by omega)
      obtain ⟨⟨x1, h1⟩, _⟩ := hroom (j * 3 + 1) (by omega)
      obtain ⟨⟨x2, h2⟩, _⟩ := hroom (j * 3 + 2) (by omega)
      rw [Nat.zero_add]
      have k1 := Keep.set (B := g + 1) w (p := ⟨g, j * 3, none⟩) (by simp) (.int .i64 ms[j].super)
      refine ⟨vf, vm, ?_, ?_, ?_, hv.on ((k1.trans (Keep.set _ (p := ⟨g, j * 3 + 1, none⟩) (by simp) vf)).trans (Keep.set _ (p := ⟨g, j * 3 + 2, none⟩) (by simp) vm))⟩
      · rw [World.cell?_setCell_other _ _ _ _ (ne_off (by omega)), World.cell?_setCell_other _ _ _ _ (ne_off (by omega))]
        exact World.cell?_setCell_same _ _ _ h0
      · rw [World.cell?_setCell_other _ _ _ _ (ne_off (by omega))]
        exact World.cell?_setCell_same _ _ _ ((World.cell?_setCell_other _ _ _ _ (ne_off (by omega))).trans h1)
      · exact World.cell?_setCell_same _ _ _ ((World.cell?_setCell_other _ _ _ _ (ne_off (by omega))).trans ((World.cell?_setCell_other _ _ _ _ (ne_off (by omega))).trans h2))
    · have hx := h j x (by rw [List.getElem?_take, if_pos (by omega)]; exact hj)
      exact ((hx.far (by omega) (by omega) _).far (by omega) (by omega) _).far (by omega) (by omega) _
  · simp at hj

/-- All is short. -/
def SmallM (m : Meth) : Prop := m.args.length ≤ 1048576 ∧ m.code.length ≤ 1048576
def SmallC (c : Cls) : Prop := c.fields.length ≤ 1048576 ∧ c.meths.length ≤ 1048576 ∧ ∀ m ∈ c.meths, SmallM m
def SmallP (p : Prg) : Prop := p.length ≤ 1048576 ∧ ∀ c ∈ p, SmallC c
theorem SmallP.of {p : Prg} (h : szP p ≤ 1048576) : SmallP p := by
  refine ⟨by unfold szP at h; omega, fun c hc => ?_⟩
  have h1 := szC_le hc
  have e : szC c = c.fields.length + szMs c.meths := rfl
  have e2 : szMs c.meths = c.meths.length + sumN (c.meths.map szM) := rfl
  refine ⟨by omega, by omega, fun m hm => ?_⟩
  have h2 := szM_le hm
  have e3 : szM m = m.args.length + m.code.length := rfl
  exact ⟨by omega, by omega⟩

end Pg
end Go.Proofs.Ytmbbombjlijknaa

/- Contracts of the laws' own comparing of programs, where both are the same. -/
namespace Go.Proofs.Ytmbbombjlijknaa
namespace Pg
open Go.ChangeShapes Go.WideShapes Go.ChangeAt Go.RowKit St

end Pg
end Go.Proofs.Ytmbbombjlijknaa

/- Contracts of both sides' account of the fields of a class. -/
namespace Go.Proofs.Ytmbbombjlijknaa
namespace Pg
open Go.ChangeShapes Go.WideShapes Go.ChangeAt Go.RowKit St

/-- The fields of a class, from the highest above it on. -/
def fieldsR (p : Prg) : Nat → Int → List Int
  | 0, _ => []
  | f + 1, up => if up < 0 then [] else match p[up.toNat]? with | none => [] | some c => fieldsR p f c.super ++ c.fields
def fieldsF (p : Prg) (t : Int) : List Int := if okP p && (decide (0 ≤ t) && decide (t < (p.length : Int))) then fieldsR p 6 t else []
theorem fieldsR_neg (p : Prg) (f : Nat) {up : Int} (h : up < 0) : fieldsR p f up = [] := by
  cases f with
  | zero => rfl
  | succ f => simp [fieldsR, h]
theorem fieldsR_fuel {p : Prg} {n : Nat} (hs : SupOk p n) : ∀ (f g : Nat) (up : Int), up < (n : Int) → up < (f : Int) → up < (g : Int) → fieldsR p f up = fieldsR p g up := by
  intro f
  induction f with
  | zero => intro g up _ h1 _; rw [fieldsR_neg _ _ (by omega), fieldsR_neg _ _ (by omega)]
  | succ f ih =>
    intro g up hn h1 h2
    by_cases h0 : up < 0
    · rw [fieldsR_neg _ _ h0, fieldsR_neg _ _ h0]
    · cases g with
      | zero => omega
      | succ g =>
        simp only [fieldsR, h0, if_false]
        cases hc : p[up.toNat]? with
        | none => rfl
        | some c =>
          have := hs up.toNat c (by omega) hc
          simp only []
          rw [ih g c.super (by omega) (by omega) (by omega)]
theorem fieldsR_step {p : Prg} {n : Nat} (hs : SupOk p n) {u : Nat} (hu : u < n) (h6 : u < 6) {c : Cls} (hc : p[u]? = some c) : fieldsR p 6 (u : Int) = fieldsR p 6 c.super ++ c.fields := by
  have h0 : ¬ (u : Int) < 0 := by omega
  have := hs u c hu hc
  have e : fieldsR p 5 c.super = fieldsR p 6 c.super := fieldsR_fuel hs 5 6 c.super (by omega) (by omega) (by omega)
  show (if (u : Int) < 0 then [] else match p[(u : Int).toNat]? with | none => [] | some c => fieldsR p 5 c.super ++ c.fields) = _
  rw [if_neg h0, Int.toNat_natCast, hc]
  simp only []
  rw [e]
theorem fieldsR_len {p : Prg} {n : Nat} (hs : SupOk p n) (h6 : n ≤ 6) (hn : n ≤ p.length) (h4 : ∀ j c, j < n → p[j]? = some c → c.fields.length ≤ 4) : ∀ (k : Nat) (up : Int), up < (k : Int) → up < (n : Int) → (fieldsR p 6 up).length ≤ 4 * k := by
  intro k
  induction k with
  | zero => intro up h _; rw [fieldsR_neg _ _ (by omega)]; simp
  | succ k ih =>
    intro up hk hu
    by_cases h0 : up < 0
    · rw [fieldsR_neg _ _ h0]; simp
    · obtain ⟨u, rfl⟩ := Int.eq_ofNat_of_zero_le (show 0 ≤ up by omega)
      have hc := List.getElem?_eq_getElem (show u < p.length by omega)
      have h1 := hs u _ (by omega) hc
      have h2 := h4 u _ (by omega) hc
      rw [fieldsR_step hs (by omega) (by omega) hc, List.length_append]
      have := ih p[u].super (by omega) (by omega)
      omega
theorem okP_sup {p : Prg} (h : okP p = true) : SupOk p p.length := SupOk.of fun _ hi => okP_at h hi
theorem okP_four {p : Prg} (h : okP p = true) : ∀ j c, j < p.length → p[j]? = some c → c.fields.length ≤ 4 := fun _ _ hj hc => (okC_few (by rw [← okAt_of hc]; exact okP_at h hj)).1

/-- A row of numbers that the call has made and that may grow. -/
def nums (l : List Int) : List Value := l.map (Value.int .i64)
def Grow (B : Nat) (w : World) (v : Value) (l : List Int) : Prop := w.ownsRow B 2 1 v l.length (nums l) ∧ v ≠ .slice none 0 0
theorem ownOn {u v : World} {B n q : Nat} {e : TypeId} {x : Value} {xs : List Value} (h : u.ownsRow B e q x n xs) (hb : Below u.heap.size u v) : v.ownsRow B e q x n xs :=
  h.kept (row := none) ⟨hb.os, hb.tape, hb.output, hb.size, fun k hk _ => hb.block k hk⟩ (by
    cases hx : x.ownBlock with
    | none => exact Or.inl rfl
    | some g => exact Or.inr (by simp))
theorem ownBase {w : World} {B B' : Nat} {e : TypeId} {q n : Nat} {x : Value} {xs : List Value} (h : w.ownsRow B e q x n xs) (hB : B' ≤ B) : w.ownsRow B' e q x n xs := by
  obtain ⟨q1, q2 | ⟨g1, c1, cur1, q3, q4, q5⟩⟩ := h
  · exact ⟨q1, Or.inl q2⟩
  · exact ⟨q1, Or.inr ⟨g1, c1, cur1, q3, Nat.le_trans hB q4, q5⟩⟩
/-- A row of numbers at the front of a block, which may be written. -/
def GInt (B : Nat) (w : World) (v : Value) (l : List Int) : Prop := ∃ g cap, v = .slice (some ⟨g, 0, none⟩) l.length cap ∧ B ≤ g ∧ g < w.heap.size ∧ IRow w g 0 l ∧ Room w g l.length
theorem Grow.gint {B : Nat} {w : World} {v : Value} {l : List Int} (h : Grow B w v l) : GInt B w v l := by
  obtain ⟨h, hv⟩ := h
  have hc := @World.ownsRow.cells w B 2 1 v l.length (nums l) h
  have hlt := @World.ownsRow.lt w B 2 1 v l.length (nums l) h
  obtain ⟨_, ⟨h, _⟩ | ⟨g, cap, cur, rfl, hB, hblk, hcap, hmax, hsz, _⟩⟩ := h
  · exact absurd h hv
  · have hcell : ∀ j x, l[j]? = some x → w.cell? ⟨g, j, none⟩ = some (.int .i64 x) := fun j x hj => by
      have := hc (g := g) rfl j (.int .i64 x) (by simp [nums, hj])
      simpa [Go.WideShapes.add_plain] using this
    refine ⟨g, cap, rfl, hB, (hlt g rfl).2, fun j x hj => by rw [Nat.zero_add]; exact hcell j x hj, fun j hj => ⟨⟨_, hcell j _ (List.getElem?_eq_getElem hj)⟩, by simp [World.frozen?, hblk]⟩⟩
theorem GInt.on {B : Nat} {u w : World} {v : Value} {l : List Int} (h : GInt B u v l) (hb : Keep B u w) : GInt B w v l := by
  obtain ⟨g, cap, hv, h1, h2, h3, h4⟩ := h
  refine ⟨g, cap, hv, h1, Nat.lt_of_lt_of_le h2 hb.size, fun j x hj => (hb.cell (p := ⟨g, 0 + j, none⟩) h1 h2).trans (h3 j x hj), fun i hi => ?_⟩
  obtain ⟨⟨x, hx⟩, hf⟩ := h4 i hi
  exact ⟨⟨x, (hb.cell (p := ⟨g, i, none⟩) h1 h2).trans hx⟩, (hb.frozen (p := ⟨g, i, none⟩) h1 h2).trans hf⟩
theorem GInt.si {B : Nat} {w : World} {v : Value} {l : List Int} (h : GInt B w v l) : SI true B w v l := by
  obtain ⟨g, cap, rfl, h1, h2, h3, h4⟩ := h
  exact SI.row h1 h2 h3 h4
theorem SI.nums {f : Bool} {B : Nat} {w : World} {b : Addr} {n cap : Nat} {l : List Int} (h : SI f B w (.slice (some b) n cap) l) : ∀ j u, (nums l)[j]? = some u → w.cell? (b.add j) = some u := by
  intro j u hu
  unfold Pg.nums at hu
  rw [List.getElem?_map] at hu
  cases hv : l[j]? with
  | none => rw [hv] at hu; simp at hu
  | some x =>
    rw [hv] at hu
    simp at hu
    subst hu
    have hj : j < l.length := (List.getElem?_eq_some_iff.1 hv).1
    obtain ⟨b', o', he, hrow⟩ := SI.rows h (by omega)
    simp at he
    subst he
    rw [Go.WideShapes.add_plain]
    exact hrow j x hv
theorem grow_nil (w : World) (o : Obj) : Grow w.heap.size ((w.alloc o).alloc (.cells #[] 2)) (.slice (some ⟨w.heap.size + 1, 0, none⟩) 0 0) [] := by
  refine ⟨ownBase (B := (w.alloc o).heap.size) ?_ (by simp), by simp⟩
  have h : ((w.alloc o).alloc (.cells #[] 2)).ownsRow (w.alloc o).heap.size 2 1 (.slice (some ⟨(w.alloc o).heap.size, 0, none⟩) 0 0) 0 [] := World.ownsRow_made (w.alloc o) #[] 0 (Nat.le_refl _) (by decide) (by simp)
  simpa [Pg.nums] using h
theorem nums_one (l : List Int) : ∀ u ∈ nums l, u.oneCell' = true := by
  intro u hu
  obtain ⟨x, _, rfl⟩ := List.mem_map.1 hu
  rfl
theorem stepApp {P : Program} (w : World) {ops : Array Oper} {o : Oper} {a : Act} {K : Act → World → Prop} {Q : Exit → Act → World → Prop} {E : Prop} (hgd : o.guard = none) (s x : Operand) (t : TypeId)
    (ho : o.op = .call { callee := .builtin .append, args := #[s, x], argTypes := #[t, t] })
    (base : Nat) (e : TypeId) (i : TypeInfo) (z : Value) (size bytes : Nat) (ht : P.underlying t = some (.slice e)) (hi : P.info? e = some i) (hz : i.zero = some z)
    (hsize : i.size = size) (hby : i.bytes = bytes) (hzs : z.cells.size = size) (hsz : 0 < size)
    (v : Value) (n : Nat) (xs : List Value) (hs : a.eval s = v) (hown : w.ownsRow base e size v n xs)
    (ad : Addr) (m c : Nat) (news : List Value) (hx : a.eval x = .slice (some ad) m c) (hl : news.length = m * size) (hnews : ∀ j u, news[j]? = some u → w.cell? (ad.add j) = some u) (h1 : ∀ u ∈ news, u.oneCell' = true)
    (h63 : n + m ≤ maxLen) (hbytes : (n + m) * bytes ≤ 140737488355328) (hbase : base ≤ w.heap.size)
    (h : ∀ v' w', w'.ownsRow base e size v' (n + m) (xs ++ news) → w.grownBy w' v.ownBlock → (v' = .slice none 0 0 ↔ v = .slice none 0 0 ∧ m = 0) → K (a.put o.dst v') w') :
    if Region.wanted o (yielded ops a.tmps) = true then Oper.wp P o a w K Q else E := by
  have hw : Region.wanted o (yielded ops a.tmps) = true := by simp [Region.wanted, hgd]
  rw [if_pos hw]
  exact wp_append_own w s x t ho base e i z size bytes ht hi hz hsize hby hzs hsz v n xs hs hown ad m c news hx hl hnews h1 h63 hbytes hbase h
theorem stepAppNone {P : Program} (w : World) {ops : Array Oper} {o : Oper} {a : Act} {K : Act → World → Prop} {Q : Exit → Act → World → Prop} {E : Prop} (hgd : o.guard = none) (s x : Operand) (t : TypeId)
    (ho : o.op = .call { callee := .builtin .append, args := #[s, x], argTypes := #[t, t] })
    (base : Nat) (e : TypeId) (i : TypeInfo) (size : Nat) (ht : P.underlying t = some (.slice e)) (hi : P.info? e = some i)
    (v : Value) (n : Nat) (xs : List Value) (hs : a.eval s = v) (hown : w.ownsRow base e size v n xs) (hx : a.eval x = .slice none 0 0)
    (h : K (a.put o.dst v) w) :
    if Region.wanted o (yielded ops a.tmps) = true then Oper.wp P o a w K Q else E := by
  have hw : Region.wanted o (yielded ops a.tmps) = true := by simp [Region.wanted, hgd]
  rw [if_pos hw]
  have hrun := run_append_owned_none (P := P) (w := w) base t o.type e i size ht hi v n xs hown
  unfold Oper.wp
  simp [execOp, ho, resolve, invoke, builtin, hs, hx, hrun, Result.andThen]
  exact h

end Pg
end Go.Proofs.Ytmbbombjlijknaa

/- Contracts of both sides' copying of methods. -/
namespace Go.Proofs.Ytmbbombjlijknaa
namespace Pg
open Go.ChangeShapes Go.WideShapes Go.ChangeAt Go.RowKit St

theorem SI.nil (f : Bool) (B : Nat) (w : World) : SI f B w (.slice none 0 0) [] := ⟨none, 0, rfl, fun _ _ => rfl, fun h => by simp at h⟩
theorem Cells.low {u w : World} {k B : Nat} {vs : List Value} (h : Cells u k vs) (hb : Below B u w) (hk : k < B) : Cells w k vs := fun i x hx => by
  obtain ⟨h1, h2⟩ := h i x hx
  exact ⟨(hb.cell (p := ⟨k, i, none⟩) hk).trans h1, (hb.frozen (p := ⟨k, i, none⟩) hk).trans h2⟩
theorem grow_of {w : World} {B : Nat} {v : Value} {l : List Int} (h : w.ownsRow B 2 1 v l.length (nums l)) (hv : v ≠ .slice none 0 0) : Grow B w v l := ⟨h, hv⟩
theorem cs_of {w : World} {B : Nat} {v : Value} {l : List Tx.Ins} (h : w.ownsRow B 68 3 v l.length (flat l)) (hv : v ≠ .slice none 0 0) : CS B w v l := got_of h hv

/-- A row of numbers of its own, in a block from B1 on and below B2, or nil. -/
def GZ (B1 B2 : Nat) (w : World) (v : Value) (l : List Int) : Prop := (∃ g c, v = .slice (some ⟨g, 0, none⟩) l.length c ∧ B1 ≤ g ∧ g < B2 ∧ g < w.heap.size ∧ IRow w g 0 l ∧ Room w g l.length) ∨ (v = .slice none 0 0 ∧ l = [])
/-- A row of steps of its own, in a block from B1 on and below B2, or nil. -/
def CZ (B1 B2 : Nat) (w : World) (v : Value) (l : List Tx.Ins) : Prop := (∃ g c, v = .slice (some ⟨g, 0, none⟩) l.length c ∧ B1 ≤ g ∧ g < B2 ∧ g < w.heap.size ∧ Row w g 0 l ∧ Room w g (l.length * 3)) ∨ (v = .slice none 0 0 ∧ l = [])
theorem room_moved {u w : World} {g n : Nat} (hg : w.heap[g]? = u.heap[g]?) (h : Room u g n) : Room w g n := fun i hi => by
  obtain ⟨⟨x, hx⟩, hf⟩ := h i hi
  exact ⟨⟨x, (World.cell?_of_block (w := u) hg).trans hx⟩, (World.frozen?_of_block (w := u) hg).trans hf⟩
theorem GZ.moved {B1 B2 : Nat} {u w : World} {v : Value} {l : List Int} (h : GZ B1 B2 u v l) (hs : u.heap.size ≤ w.heap.size) (hb : ∀ k, B1 ≤ k → k < B2 → k < u.heap.size → w.heap[k]? = u.heap[k]?) : GZ B1 B2 w v l := by
  rcases h with ⟨g, c, hv, h1, h2, h3, h4, h5⟩ | h
  · have hg := hb g h1 h2 h3
    exact .inl ⟨g, c, hv, h1, h2, by omega, fun j x hj => (World.cell?_of_block (w := u) hg).trans (h4 j x hj), room_moved hg h5⟩
  · exact .inr h
theorem CZ.moved {B1 B2 : Nat} {u w : World} {v : Value} {l : List Tx.Ins} (h : CZ B1 B2 u v l) (hs : u.heap.size ≤ w.heap.size) (hb : ∀ k, B1 ≤ k → k < B2 → k < u.heap.size → w.heap[k]? = u.heap[k]?) : CZ B1 B2 w v l := by
  rcases h with ⟨g, c, hv, h1, h2, h3, h4, h5⟩ | h
  · have hg := hb g h1 h2 h3
    exact .inl ⟨g, c, hv, h1, h2, by omega, fun j x hj => by
      obtain ⟨c0, c1, c2⟩ := h4 j x hj
      exact ⟨(World.cell?_of_block (w := u) hg).trans c0, (World.cell?_of_block (w := u) hg).trans c1, (World.cell?_of_block (w := u) hg).trans c2⟩, room_moved hg h5⟩
  · exact .inr h
theorem GZ.keep {B B1 B2 : Nat} {u w : World} {v : Value} {l : List Int} (h : GZ B1 B2 u v l) (hk : Keep B u w) (hB : B ≤ B1) : GZ B1 B2 w v l := h.moved hk.size fun k h1 _ hl => hk.block k (by omega) hl
theorem CZ.keep {B B1 B2 : Nat} {u w : World} {v : Value} {l : List Tx.Ins} (h : CZ B1 B2 u v l) (hk : Keep B u w) (hB : B ≤ B1) : CZ B1 B2 w v l := h.moved hk.size fun k h1 _ hl => hk.block k (by omega) hl
theorem GZ.low {B B1 B2 : Nat} {u w : World} {v : Value} {l : List Int} (h : GZ B1 B2 u v l) (hk : Below B u w) (hB : B2 ≤ B) : GZ B1 B2 w v l := h.moved hk.size fun k _ h2 _ => hk.block k (by omega)
theorem CZ.low {B B1 B2 : Nat} {u w : World} {v : Value} {l : List Tx.Ins} (h : CZ B1 B2 u v l) (hk : Below B u w) (hB : B2 ≤ B) : CZ B1 B2 w v l := h.moved hk.size fun k _ h2 _ => hk.block k (by omega)
theorem GZ.on {B1 B2 : Nat} {u w : World} {v : Value} {l : List Int} (h : GZ B1 B2 u v l) (hk : Below u.heap.size u w) : GZ B1 B2 w v l := h.moved hk.size fun k _ _ h3 => hk.block k h3
theorem CZ.on {B1 B2 : Nat} {u w : World} {v : Value} {l : List Tx.Ins} (h : CZ B1 B2 u v l) (hk : Below u.heap.size u w) : CZ B1 B2 w v l := h.moved hk.size fun k _ _ h3 => hk.block k h3
theorem GZ.weak {B1 B2 C1 C2 : Nat} {w : World} {v : Value} {l : List Int} (h : GZ B1 B2 w v l) (h1 : C1 ≤ B1) (h2 : B2 ≤ C2) : GZ C1 C2 w v l := by
  rcases h with ⟨g, c, hv, k1, k2, h3, h4, h5⟩ | h
  · exact .inl ⟨g, c, hv, by omega, by omega, h3, h4, h5⟩
  · exact .inr h
theorem CZ.weak {B1 B2 C1 C2 : Nat} {w : World} {v : Value} {l : List Tx.Ins} (h : CZ B1 B2 w v l) (h1 : C1 ≤ B1) (h2 : B2 ≤ C2) : CZ C1 C2 w v l := by
  rcases h with ⟨g, c, hv, k1, k2, h3, h4, h5⟩ | h
  · exact .inl ⟨g, c, hv, by omega, by omega, h3, h4, h5⟩
  · exact .inr h
theorem GZ.form {B1 B2 : Nat} {w : World} {v : Value} {l : List Int} (h : GZ B1 B2 w v l) : ∃ a c, v = .slice a l.length c := by
  rcases h with ⟨g, c, hv, _⟩ | ⟨hv, hl⟩
  · exact ⟨_, _, hv⟩
  · subst hl; exact ⟨_, _, hv⟩
theorem CZ.form {B1 B2 : Nat} {w : World} {v : Value} {l : List Tx.Ins} (h : CZ B1 B2 w v l) : ∃ a c, v = .slice a l.length c := by
  rcases h with ⟨g, c, hv, _⟩ | ⟨hv, hl⟩
  · exact ⟨_, _, hv⟩
  · subst hl; exact ⟨_, _, hv⟩
theorem GZ.of {B : Nat} {w : World} {v : Value} {l : List Int} (h : GInt B w v l) : GZ B w.heap.size w v l := by
  obtain ⟨g, c, hv, h1, h2, h3, h4⟩ := h
  exact .inl ⟨g, c, hv, h1, h2, h2, h3, h4⟩
theorem CZ.of {B : Nat} {w : World} {v : Value} {l : List Tx.Ins} (h : CS B w v l) : CZ B w.heap.size w v l := by
  obtain ⟨g, c, hv, h1, h2, h3, h4⟩ := h
  exact .inl ⟨g, c, hv, h1, h2, h2, h3, h4⟩
theorem GZ.si {B1 B2 : Nat} {w : World} {v : Value} {l : List Int} (h : GZ B1 B2 w v l) : SI true B1 w v l := by
  rcases h with ⟨g, c, rfl, h1, _, h2, h3, h4⟩ | ⟨rfl, rfl⟩
  · exact SI.row h1 h2 h3 h4
  · exact SI.nil _ _ _
/-- A method that a call has made: its rows in blocks of their own. -/
def AnsM (B : Nat) (w : World) (va vc : Value) (m : Meth) : Prop := ∃ M, B ≤ M ∧ M ≤ w.heap.size ∧ GZ B M w va m.args ∧ CZ M w.heap.size w vc m.code

theorem AnsM.keep {B C : Nat} {u w : World} {va vc : Value} {m : Meth} (h : AnsM B u va vc m) (hk : Keep C u w) (hB : C ≤ B) : AnsM B w va vc m := by
  obtain ⟨M, h1, h2, h3, h4⟩ := h
  exact ⟨M, h1, Nat.le_trans h2 hk.size, h3.keep hk hB, (h4.keep hk (Nat.le_trans hB h1)).weak (Nat.le_refl _) hk.size⟩
theorem AnsM.weak {B C : Nat} {w : World} {va vc : Value} {m : Meth} (h : AnsM B w va vc m) (hB : C ≤ B) : AnsM C w va vc m := by
  obtain ⟨M, h1, h2, h3, h4⟩ := h
  exact ⟨M, Nat.le_trans hB h1, h2, h3.weak hB (Nat.le_refl _), h4⟩

set_option maxRecDepth 100000 in
set_option maxHeartbeats 800000 in
theorem cloneInts (B : Nat) (a : Option Addr) (cap : Nat) (l : List Int) (hl : l.length ≤ 1048576) (w : World) (h : SI true B w (.slice a l.length cap) l) :
    Calls Try.prog 55 #[.slice a l.length cap] w fun e w' => ∃ v, e = .returned v ∧ GZ w.heap.size w'.heap.size w' v l ∧ Below w.heap.size w w' := by
  obtain ⟨i0, hif, hz0, hz1, hz2⟩ := info_parts infoN
  cases a with
  | none =>
    obtain ⟨rfl, _, rfl⟩ := Arr.nil h
    clear h
    have hq : ∀ W : World, (binOp .eql 32 (.slice none 0 0) (.slice none 0 0)).run Try.prog W = .ok (.bool true) W := fun W => Lib.run_eql_slice_nil W _ _ _ _ _ _ _ Try.underlying32
    go_enter Try.func55, Try.ntmps55
    go_wp2
    go_ret
    exact ⟨_, rfl, .inr ⟨rfl, rfl⟩, Below.refl _ _⟩
  | some ad =>
    have HN : Hid (∀ x, Below w.heap.size w x → ∀ j u, (nums l)[j]? = some u → x.cell? (ad.add j) = some u) := fun x hx => SI.nums (SI.on h (Keep.of hx))
    clear h
    have hq : ∀ W : World, (binOp .eql 32 (.slice (some ad) l.length cap) (.slice none 0 0)).run Try.prog W = .ok (.bool false) W := fun W => Lib.run_eql_slice_nil W _ _ _ _ _ _ _ Try.underlying32
    go_enter Try.func55, Try.ntmps55
    go_wp2_with (at_builtin; refine wpList_append_own _ rfl _ _ 32 rfl w.heap.size 2 i0 (.int .i64 0) 1 8 Try.underlying32 hif hz0 hz1 hz2 rfl (by decide) _ _ _ rfl (World.ownsRow_made w #[] 0 (Nat.le_refl _) (by decide) (by simp)) ad l.length cap (nums l) rfl (by simp [nums]) (HN.out _ ((Below.refl _ _).alloc (Nat.le_refl _) _)) (nums_one _) (by unfold maxLen; omega) (by omega) (by simp) ?_)
    intro v' w1 hown hgrow hnil
    have hb : Below w.heap.size w w1 := ((Below.refl _ _).alloc (Nat.le_refl _) _).grown hgrow (by simp) (fun g hg => by simp [Value.ownBlock] at hg; omega)
    have HG : Hid (GZ w.heap.size w1.heap.size w1 v' l) := GZ.of (grow_of hown (fun h => by first | exact hnil h | exact absurd (hnil.1 h).1 (by simp))).gint
    clear hown hgrow hnil
    go_wp2
    go_ret
    exact ⟨_, rfl, HG.out, hb⟩
set_option maxRecDepth 100000 in
set_option maxHeartbeats 800000 in
theorem cloneCode (B : Nat) (v : Value) (l : List Tx.Ins) (hl : l.length ≤ 1048576) (w : World) (h : CS B w v l) :
    Calls Try.prog 56 #[v] w fun e w' => ∃ v, e = .returned v ∧ CS w.heap.size w' v l ∧ Below w.heap.size w w' := by
  obtain ⟨i0, hi, hz0, hz1, hz2⟩ := info_parts infoI
  obtain ⟨g, cap, rfl, _, _, hr, _⟩ := h
  have HR : Hid (Row w g 0 l) := hr
  clear hr
  have hq : ∀ W : World, (binOp .eql 39 (.slice (some ⟨g, 0, none⟩) l.length cap) (.slice none 0 0)).run Try.prog W = .ok (.bool false) W := fun W => Lib.run_eql_slice_nil W _ _ _ _ _ _ _ Try.underlying39
  go_enter Try.func56, Try.ntmps56
  go_wp2_with (at_builtin; refine wpList_append_own _ rfl _ _ 39 rfl w.heap.size 68 i0 (.agg #[.int .i64 0, .int .i64 0, .int .i64 0]) 3 24 Try.underlying39 hi hz0 hz1 hz2 rfl (by decide) _ _ _ rfl (World.ownsRow_made w #[] 0 (Nat.le_refl _) (by decide) (by simp)) ⟨g, 0, none⟩ l.length cap (flat l) rfl (flat_len l) (HR.out.on ((Below.refl _ _).alloc (Nat.le_refl _) _)).flat (flat_one _) (by unfold maxLen; omega) (by omega) (by simp) ?_)
  intro v' w1 hown hgrow hnil
  have hb : Below w.heap.size w w1 := ((Below.refl _ _).alloc (Nat.le_refl _) _).grown hgrow (by simp) (fun g hg => by simp [Value.ownBlock] at hg; omega)
  have HG : Hid (CS w.heap.size w1 v' l) := cs_of hown (fun h => by first | exact hnil h | exact absurd (hnil.1 h).1 (by simp))
  clear hown hgrow hnil
  go_wp2
  go_ret
  exact ⟨_, rfl, HG.out, hb⟩
end Pg
end Go.Proofs.Ytmbbombjlijknaa

/- The contract of the other side's copying of a method. -/
namespace Go.Proofs.Ytmbbombjlijknaa
namespace Pg
open Go.ChangeShapes Go.WideShapes Go.ChangeAt Go.RowKit St

theorem forget {P : Program} {ops : Array Oper} {Q : Exit → Act → World → Prop} {rest : List Oper} {a : Act} {w : World} (h : ∀ u, Hid (u = w) → wpList P ops Q rest a u) : wpList P ops Q rest a w := h w rfl

set_option maxRecDepth 100000 in
set_option maxHeartbeats 4000000 in
theorem l4Copy (B : Nat) (m : Meth) (va vc : Value) (hs : SmallM m) (w : World) (hv : MV front B w va vc m) :
    Calls Try.prog 109 #[.agg #[.int .i64 m.name, va, .int .i64 m.gives, vc]] w fun e w' => ∃ x1 y1 x2 y2, e = .returned (.agg #[.int .i64 m.name, .slice x1 m.args.length y1, .int .i64 m.gives, .slice x2 m.code.length y2]) ∧ AnsM w.heap.size w' (.slice x1 m.args.length y1) (.slice x2 m.code.length y2) m ∧ Below w.heap.size w w' ∧ CS w.heap.size w' (.slice x2 m.code.length y2) m.code := by
  obtain ⟨k0, hif, hz0, hz1, hz2⟩ := info_parts infoN
  obtain ⟨j0, hj, hy0, hy1, hy2⟩ := info_parts infoI
  obtain ⟨x1, y1, rfl⟩ := hv.1.form
  obtain ⟨gc, y2, rfl, _, _, hrow, _⟩ := hv.2
  have HI : Hid (SI true B w (.slice x1 m.args.length y1) m.args) := hv.1
  have HR : Hid (Row w gc 0 m.code) := hrow
  have hs1 := hs.1
  have hs2 := hs.2
  clear hv hrow hs
  have hwW : Below w.heap.size w ((w.alloc (.cells #[.int .i64 m.name, .slice x1 m.args.length y1, .int .i64 m.gives, .slice (some ⟨gc, 0, none⟩) m.code.length y2] 41)).alloc (.cells #[.int .i64 0, .slice none 0 0, .int .i64 0, .slice none 0 0] 41)) := ((Below.refl _ _).alloc (Nat.le_refl _) _).alloc (by simp) _
  have HZW : Hid (((w.alloc (.cells #[.int .i64 m.name, .slice x1 m.args.length y1, .int .i64 m.gives, .slice (some ⟨gc, 0, none⟩) m.code.length y2] 41)).alloc (.cells #[.int .i64 0, .slice none 0 0, .int .i64 0, .slice none 0 0] 41)).heap.size = w.heap.size + 1 + 1) := by show _ = _; simp
  have M0 : Hid (Cells ((w.alloc (.cells #[.int .i64 m.name, .slice x1 m.args.length y1, .int .i64 m.gives, .slice (some ⟨gc, 0, none⟩) m.code.length y2] 41)).alloc (.cells #[.int .i64 0, .slice none 0 0, .int .i64 0, .slice none 0 0] 41)) w.heap.size [.int .i64 m.name, .slice x1 m.args.length y1, .int .i64 m.gives, .slice (some ⟨gc, 0, none⟩) m.code.length y2]) := (Cells.new w _ rfl _ _).alloc _
  have R0 : Hid (Cells ((w.alloc (.cells #[.int .i64 m.name, .slice x1 m.args.length y1, .int .i64 m.gives, .slice (some ⟨gc, 0, none⟩) m.code.length y2] 41)).alloc (.cells #[.int .i64 0, .slice none 0 0, .int .i64 0, .slice none 0 0] 41)) (w.heap.size + 1) [.int .i64 0, .slice none 0 0, .int .i64 0, .slice none 0 0]) := Cells.new (w.alloc _) _ (by simp) _ _
  have HOW : Hid ((((w.alloc (.cells #[.int .i64 m.name, .slice x1 m.args.length y1, .int .i64 m.gives, .slice (some ⟨gc, 0, none⟩) m.code.length y2] 41)).alloc (.cells #[.int .i64 0, .slice none 0 0, .int .i64 0, .slice none 0 0] 41)).alloc (.cells #[] 2)).ownsRow (w.heap.size + 1 + 1) 2 1 (.slice (some ⟨w.heap.size + 1 + 1, 0, none⟩) 0 0) 0 []) := by
    have h := World.ownsRow_made (base := w.heap.size + 1 + 1) (e := 2) (size := 1) ((w.alloc (.cells #[.int .i64 m.name, .slice x1 m.args.length y1, .int .i64 m.gives, .slice (some ⟨gc, 0, none⟩) m.code.length y2] 41)).alloc (.cells #[.int .i64 0, .slice none 0 0, .int .i64 0, .slice none 0 0] 41)) #[] 0 (by simp) (by decide) (by simp)
    unfold Hid
    simpa using h
  have HNN : Hid ((⟨w.heap.size, 1, none⟩ : Addr).block ≠ w.heap.size + 1) := by show w.heap.size ≠ w.heap.size + 1; omega
  have b1 := (M0.out.alloc (.cells #[] 2)).g1.1
  cases x1 with
  | none =>
    obtain ⟨hfe, _, ht1⟩ := Arr.nil HI.out
    obtain ⟨nm, ags, gv, cd⟩ := m
    dsimp only at hfe
    subst hfe
    subst ht1
    dsimp only [List.length_nil] at *
    clear HI
    go_enter Try.func109, Try.ntmps109
    go_wp2_with (at_builtin; refine wpList_append_own_none rfl _ _ 32 rfl (w.heap.size + 1 + 1) 2 k0 1 Try.underlying32 hif _ _ _ rfl HOW.out rfl ?_; refine forget ?_)
    intro w1 hu
    have hb1 : Below ((w.alloc (.cells #[.int .i64 nm, .slice none 0 0, .int .i64 gv, .slice (some ⟨gc, 0, none⟩) cd.length y2] 41)).alloc (.cells #[.int .i64 0, .slice none 0 0, .int .i64 0, .slice none 0 0] 41)).heap.size ((w.alloc (.cells #[.int .i64 nm, .slice none 0 0, .int .i64 gv, .slice (some ⟨gc, 0, none⟩) cd.length y2] 41)).alloc (.cells #[.int .i64 0, .slice none 0 0, .int .i64 0, .slice none 0 0] 41)) w1 := by rw [hu.out]; exact (Below.refl _ _).alloc (Nat.le_refl _) _
    have HS1 : Hid (GZ (w.heap.size + 1 + 1) w1.heap.size w1 (.slice (some ⟨w.heap.size + 1 + 1, 0, none⟩) 0 0) []) := by
      rw [hu.out]
      exact GZ.of (grow_of (l := []) HOW.out (by simp)).gint
    have M1 := M0.out.on hb1
    have R1 := R0.out.on hb1
    have HB1 : Hid (Below w.heap.size w w1) := below_over hwW hb1
    have hz1' : w.heap.size + 1 + 1 ≤ w1.heap.size := by
      have h1 := hb1.size
      have h2 := HZW.out
      omega
    clear hu
    obtain ⟨m1, f1⟩ := M1.g1
    have MX1 := M1.s1 (.slice (some ⟨w.heap.size + 1 + 1, 0, none⟩) 0 0)
    have RX1 := R1.far ⟨w.heap.size, 1, none⟩ (.slice (some ⟨w.heap.size + 1 + 1, 0, none⟩) 0 0) HNN.out
    have SX1 := HS1.out.keep (Keep.set (B := w.heap.size + 1 + 1) w1 (p := ⟨w.heap.size, 1, none⟩) (by show w.heap.size < w.heap.size + 1 + 1; omega) (.slice (some ⟨w.heap.size + 1 + 1, 0, none⟩) 0 0)) (Nat.le_refl _)
    have hwX := HB1.out.setCell (p := ⟨w.heap.size, 1, none⟩) (by simp) (.slice (some ⟨w.heap.size + 1 + 1, 0, none⟩) 0 0)
    have hzX1 : w.heap.size + 1 + 1 ≤ (w1.setCell ⟨w.heap.size, 1, none⟩ (.slice (some ⟨w.heap.size + 1 + 1, 0, none⟩) 0 0)).heap.size := by
      simp
      omega
    clear hb1 b1 HS1 M1 R1 HB1 HOW M0 R0 hwW HZW
    have MB : Hid (Cells (w1.setCell ⟨w.heap.size, 1, none⟩ (.slice (some ⟨w.heap.size + 1 + 1, 0, none⟩) 0 0)) w.heap.size [.int .i64 nm, .slice (some ⟨w.heap.size + 1 + 1, 0, none⟩) 0 0, .int .i64 gv, .slice (some ⟨gc, 0, none⟩) cd.length y2]) := MX1
    have RB : Hid (Cells (w1.setCell ⟨w.heap.size, 1, none⟩ (.slice (some ⟨w.heap.size + 1 + 1, 0, none⟩) 0 0)) (w.heap.size + 1) [.int .i64 0, .slice none 0 0, .int .i64 0, .slice none 0 0]) := RX1
    have HV1 : Hid (GZ (w.heap.size + 1 + 1) w1.heap.size (w1.setCell ⟨w.heap.size, 1, none⟩ (.slice (some ⟨w.heap.size + 1 + 1, 0, none⟩) 0 0)) (.slice (some ⟨w.heap.size + 1 + 1, 0, none⟩) 0 0) []) := SX1
    have HBX : Hid (Below w.heap.size w (w1.setCell ⟨w.heap.size, 1, none⟩ (.slice (some ⟨w.heap.size + 1 + 1, 0, none⟩) 0 0))) := hwX
    have hzX : w.heap.size + 1 + 1 ≤ (w1.setCell ⟨w.heap.size, 1, none⟩ (.slice (some ⟨w.heap.size + 1 + 1, 0, none⟩) 0 0)).heap.size := hzX1
    clear MX1 RX1 SX1 hwX hzX1
    have HO2 : Hid (((w1.setCell ⟨w.heap.size, 1, none⟩ (.slice (some ⟨w.heap.size + 1 + 1, 0, none⟩) 0 0)).alloc (.cells #[] 68)).ownsRow w1.heap.size 68 3 (.slice (some ⟨w1.heap.size, 0, none⟩) 0 0) 0 []) := by
      have h := World.ownsRow_made (base := w1.heap.size) (e := 68) (size := 3) (w1.setCell ⟨w.heap.size, 1, none⟩ (.slice (some ⟨w.heap.size + 1 + 1, 0, none⟩) 0 0)) #[] 0 (by simp) (by decide) (by simp)
      unfold Hid
      simpa using h
    have k3 := (MB.out.alloc (.cells #[] 68)).g3.1
    go_wp2_with (at_builtin; go_loud (refine wpList_append_own _ rfl _ _ 39 rfl w1.heap.size 68 j0 (.agg #[.int .i64 0, .int .i64 0, .int .i64 0]) 3 24 Try.underlying39 hj hy0 hy1 hy2 rfl (by decide) _ _ _ rfl HO2.out ⟨gc, 0, none⟩ cd.length y2 (flat cd) rfl (flat_len cd) (HR.out.on (HBX.out.alloc HBX.out.size _)).flat (flat_one _) (by unfold maxLen; omega) (by omega) (by simp) ?_))
    intro v5 w5 hown5 hgrow5 hnil5
    have hb5 : Below (w1.setCell ⟨w.heap.size, 1, none⟩ (.slice (some ⟨w.heap.size + 1 + 1, 0, none⟩) 0 0)).heap.size (w1.setCell ⟨w.heap.size, 1, none⟩ (.slice (some ⟨w.heap.size + 1 + 1, 0, none⟩) 0 0)) w5 := ((Below.refl _ _).alloc (Nat.le_refl _) _).grown hgrow5 (by simp) (fun g hg => by simp [Value.ownBlock] at hg ⊢; omega)
    have hcs := cs_of hown5 (fun h => by first | exact hnil5 h | exact absurd (hnil5.1 h).1 (by simp))
    obtain ⟨a5, c5, rfl⟩ := front.form hcs
    have HC5 : Hid (CS w1.heap.size w5 (.slice a5 cd.length c5) cd) := hcs
    have HV5 : Hid (GZ (w.heap.size + 1 + 1) w1.heap.size w5 (.slice (some ⟨w.heap.size + 1 + 1, 0, none⟩) 0 0) []) := HV1.out.on hb5
    have HZ5 : Hid (w1.heap.size ≤ w5.heap.size) := by show _ ≤ _; have := hb5.size; simpa using this
    have HW5 : Hid (Below w.heap.size w w5) := below_over HBX.out hb5
    have O3 := MB.out.on hb5
    have R3 := RB.out.on hb5
    clear hown5 hgrow5 hnil5 hcs k3 HV1 HBX MB RB hb5
    have N10 : (⟨w.heap.size, 3, none⟩ : Addr).block ≠ w.heap.size + 1 := by show w.heap.size ≠ w.heap.size + 1; omega
    have O4 := O3.s3 (.slice a5 cd.length c5)
    have R4 := R3.far ⟨w.heap.size, 3, none⟩ (.slice a5 cd.length c5) N10
    have R5 := (((R4.s0 (.int .i64 nm)).s1 (.slice (some ⟨w.heap.size + 1 + 1, 0, none⟩) 0 0)).s2 (.int .i64 gv)).s3 (.slice a5 cd.length c5)
    obtain ⟨o3, p3⟩ := O3.g3
    obtain ⟨i0, _⟩ := O4.g0
    obtain ⟨i1, _⟩ := O4.g1
    obtain ⟨i2, _⟩ := O4.g2
    obtain ⟨i3, _⟩ := O4.g3
    obtain ⟨r0, q0⟩ := R4.g0
    obtain ⟨r1, q1⟩ := R4.g1
    obtain ⟨r2, q2⟩ := R4.g2
    obtain ⟨r3, q3⟩ := R4.g3
    obtain ⟨e0, _⟩ := R5.g0
    obtain ⟨e1, _⟩ := R5.g1
    obtain ⟨e2, _⟩ := R5.g2
    obtain ⟨e3, _⟩ := R5.g3
    clear O4 R4 R5 R3 O3 N10
    go_wp2
    refine bodyPost_ret (v := .agg #[.int .i64 nm, .slice (some ⟨w.heap.size + 1 + 1, 0, none⟩) 0 0, .int .i64 gv, .slice a5 cd.length c5]) (by simp [results, Try.results109, go_sem, e0, e1, e2, e3]) rfl ?_
    have hk : ∀ (x : World) (j i : Nat) (v : Value), j < w.heap.size + 1 + 1 → Keep (w.heap.size + 1 + 1) x (x.setCell ⟨j, i, none⟩ v) := fun x j i v hj => Keep.set x (p := ⟨j, i, none⟩) hj v
    have hkk := ((((hk w5 w.heap.size 3 (.slice a5 cd.length c5) (by omega)).trans (hk _ (w.heap.size + 1) 0 (.int .i64 nm) (by omega))).trans (hk _ (w.heap.size + 1) 1 (.slice (some ⟨w.heap.size + 1 + 1, 0, none⟩) 0 0) (by omega))).trans (hk _ (w.heap.size + 1) 2 (.int .i64 gv) (by omega))).trans (hk _ (w.heap.size + 1) 3 (.slice a5 cd.length c5) (by omega))
    have hbb := ((((HW5.out.setCell (p := ⟨w.heap.size, 3, none⟩) (by simp) (.slice a5 cd.length c5)).setCell (p := ⟨w.heap.size + 1, 0, none⟩) (by simp) (.int .i64 nm)).setCell (p := ⟨w.heap.size + 1, 1, none⟩) (by simp) (.slice (some ⟨w.heap.size + 1 + 1, 0, none⟩) 0 0)).setCell (p := ⟨w.heap.size + 1, 2, none⟩) (by simp) (.int .i64 gv)).setCell (p := ⟨w.heap.size + 1, 3, none⟩) (by simp) (.slice a5 cd.length c5)
    exact ⟨some ⟨w.heap.size + 1 + 1, 0, none⟩, 0, a5, c5, rfl, ⟨w1.heap.size, by omega, by have := hkk.size; have := HZ5.out; omega, (HV5.out.keep hkk (Nat.le_refl _)).weak (by omega) (Nat.le_refl _), ((CZ.of HC5.out).keep hkk hz1').weak (Nat.le_refl _) hkk.size⟩, hbb, front.weak (HC5.out.on (hkk.mono hz1')) (by omega)⟩
  | some ad =>
    have HN : Hid (∀ x, Below ((w.alloc (.cells #[.int .i64 m.name, .slice (some ad) m.args.length y1, .int .i64 m.gives, .slice (some ⟨gc, 0, none⟩) m.code.length y2] 41)).alloc (.cells #[.int .i64 0, .slice none 0 0, .int .i64 0, .slice none 0 0] 41)).heap.size ((w.alloc (.cells #[.int .i64 m.name, .slice (some ad) m.args.length y1, .int .i64 m.gives, .slice (some ⟨gc, 0, none⟩) m.code.length y2] 41)).alloc (.cells #[.int .i64 0, .slice none 0 0, .int .i64 0, .slice none 0 0] 41)) x → ∀ j u, (nums m.args)[j]? = some u → x.cell? (ad.add j) = some u) := fun x hx => SI.nums (SI.on HI.out (Keep.of (below_over hwW hx)))
    go_enter Try.func109, Try.ntmps109
    go_wp2_with (at_builtin; refine wpList_append_own _ rfl _ _ 32 rfl (w.heap.size + 1 + 1) 2 k0 (.int .i64 0) 1 8 Try.underlying32 hif hz0 hz1 hz2 rfl (by decide) _ _ _ rfl HOW.out ad m.args.length y1 (nums m.args) rfl (by simp [nums]) (HN.out _ ((Below.refl _ _).alloc (Nat.le_refl _) _)) (nums_one _) (by unfold maxLen; omega) (by omega) (by simp) ?_)
    intro v1 w1 hown1 hgrow1 hnil1
    have hb1 : Below ((w.alloc (.cells #[.int .i64 m.name, .slice (some ad) m.args.length y1, .int .i64 m.gives, .slice (some ⟨gc, 0, none⟩) m.code.length y2] 41)).alloc (.cells #[.int .i64 0, .slice none 0 0, .int .i64 0, .slice none 0 0] 41)).heap.size ((w.alloc (.cells #[.int .i64 m.name, .slice (some ad) m.args.length y1, .int .i64 m.gives, .slice (some ⟨gc, 0, none⟩) m.code.length y2] 41)).alloc (.cells #[.int .i64 0, .slice none 0 0, .int .i64 0, .slice none 0 0] 41)) w1 := ((Below.refl _ _).alloc (Nat.le_refl _) _).grown hgrow1 (by simp) (fun g hg => by simp [Value.ownBlock] at hg ⊢; omega)
    have hsi := GZ.of (grow_of hown1 (fun h => by first | exact hnil1 h | exact absurd (hnil1.1 h).1 (by simp))).gint
    obtain ⟨a1, c1, rfl⟩ := hsi.form
    have HS1 : Hid (GZ (w.heap.size + 1 + 1) w1.heap.size w1 (.slice a1 m.args.length c1) m.args) := hsi
    have M1 := M0.out.on hb1
    have R1 := R0.out.on hb1
    have HB1 : Hid (Below w.heap.size w w1) := below_over hwW hb1
    have hz1' : w.heap.size + 1 + 1 ≤ w1.heap.size := by
      have h1 := hb1.size
      have h2 := HZW.out
      omega
    obtain ⟨m1, f1⟩ := M1.g1
    have MX1 := M1.s1 (.slice a1 m.args.length c1)
    have RX1 := R1.far ⟨w.heap.size, 1, none⟩ (.slice a1 m.args.length c1) HNN.out
    have SX1 := HS1.out.keep (Keep.set (B := w.heap.size + 1 + 1) w1 (p := ⟨w.heap.size, 1, none⟩) (by show w.heap.size < w.heap.size + 1 + 1; omega) (.slice a1 m.args.length c1)) (Nat.le_refl _)
    have hwX := HB1.out.setCell (p := ⟨w.heap.size, 1, none⟩) (by simp) (.slice a1 m.args.length c1)
    have hzX1 : w.heap.size + 1 + 1 ≤ (w1.setCell ⟨w.heap.size, 1, none⟩ (.slice a1 m.args.length c1)).heap.size := by
      simp
      omega
    clear hown1 hgrow1 hnil1 hsi hb1 b1 HS1 M1 R1 HB1 HOW M0 R0 hwW HZW
    have MB : Hid (Cells (w1.setCell ⟨w.heap.size, 1, none⟩ (.slice a1 m.args.length c1)) w.heap.size [.int .i64 m.name, .slice a1 m.args.length c1, .int .i64 m.gives, .slice (some ⟨gc, 0, none⟩) m.code.length y2]) := MX1
    have RB : Hid (Cells (w1.setCell ⟨w.heap.size, 1, none⟩ (.slice a1 m.args.length c1)) (w.heap.size + 1) [.int .i64 0, .slice none 0 0, .int .i64 0, .slice none 0 0]) := RX1
    have HV1 : Hid (GZ (w.heap.size + 1 + 1) w1.heap.size (w1.setCell ⟨w.heap.size, 1, none⟩ (.slice a1 m.args.length c1)) (.slice a1 m.args.length c1) m.args) := SX1
    have HBX : Hid (Below w.heap.size w (w1.setCell ⟨w.heap.size, 1, none⟩ (.slice a1 m.args.length c1))) := hwX
    have hzX : w.heap.size + 1 + 1 ≤ (w1.setCell ⟨w.heap.size, 1, none⟩ (.slice a1 m.args.length c1)).heap.size := hzX1
    clear MX1 RX1 SX1 hwX hzX1
    have HO2 : Hid (((w1.setCell ⟨w.heap.size, 1, none⟩ (.slice a1 m.args.length c1)).alloc (.cells #[] 68)).ownsRow w1.heap.size 68 3 (.slice (some ⟨w1.heap.size, 0, none⟩) 0 0) 0 []) := by
      have h := World.ownsRow_made (base := w1.heap.size) (e := 68) (size := 3) (w1.setCell ⟨w.heap.size, 1, none⟩ (.slice a1 m.args.length c1)) #[] 0 (by simp) (by decide) (by simp)
      unfold Hid
      simpa using h
    have k3 := (MB.out.alloc (.cells #[] 68)).g3.1
    go_wp2_with (at_builtin; go_loud (refine wpList_append_own _ rfl _ _ 39 rfl w1.heap.size 68 j0 (.agg #[.int .i64 0, .int .i64 0, .int .i64 0]) 3 24 Try.underlying39 hj hy0 hy1 hy2 rfl (by decide) _ _ _ rfl HO2.out ⟨gc, 0, none⟩ m.code.length y2 (flat m.code) rfl (flat_len m.code) (HR.out.on (HBX.out.alloc HBX.out.size _)).flat (flat_one _) (by unfold maxLen; omega) (by omega) (by simp) ?_))
    intro v5 w5 hown5 hgrow5 hnil5
    have hb5 : Below (w1.setCell ⟨w.heap.size, 1, none⟩ (.slice a1 m.args.length c1)).heap.size (w1.setCell ⟨w.heap.size, 1, none⟩ (.slice a1 m.args.length c1)) w5 := ((Below.refl _ _).alloc (Nat.le_refl _) _).grown hgrow5 (by simp) (fun g hg => by simp [Value.ownBlock] at hg ⊢; omega)
    have hcs := cs_of hown5 (fun h => by first | exact hnil5 h | exact absurd (hnil5.1 h).1 (by simp))
    obtain ⟨a5, c5, rfl⟩ := front.form hcs
    have HC5 : Hid (CS w1.heap.size w5 (.slice a5 m.code.length c5) m.code) := hcs
    have HV5 : Hid (GZ (w.heap.size + 1 + 1) w1.heap.size w5 (.slice a1 m.args.length c1) m.args) := HV1.out.on hb5
    have HZ5 : Hid (w1.heap.size ≤ w5.heap.size) := by show _ ≤ _; have := hb5.size; simpa using this
    have HW5 : Hid (Below w.heap.size w w5) := below_over HBX.out hb5
    have O3 := MB.out.on hb5
    have R3 := RB.out.on hb5
    clear hown5 hgrow5 hnil5 hcs k3 HV1 HBX MB RB hb5
    have N10 : (⟨w.heap.size, 3, none⟩ : Addr).block ≠ w.heap.size + 1 := by show w.heap.size ≠ w.heap.size + 1; omega
    have O4 := O3.s3 (.slice a5 m.code.length c5)
    have R4 := R3.far ⟨w.heap.size, 3, none⟩ (.slice a5 m.code.length c5) N10
    have R5 := (((R4.s0 (.int .i64 m.name)).s1 (.slice a1 m.args.length c1)).s2 (.int .i64 m.gives)).s3 (.slice a5 m.code.length c5)
    obtain ⟨o3, p3⟩ := O3.g3
    obtain ⟨i0, _⟩ := O4.g0
    obtain ⟨i1, _⟩ := O4.g1
    obtain ⟨i2, _⟩ := O4.g2
    obtain ⟨i3, _⟩ := O4.g3
    obtain ⟨r0, q0⟩ := R4.g0
    obtain ⟨r1, q1⟩ := R4.g1
    obtain ⟨r2, q2⟩ := R4.g2
    obtain ⟨r3, q3⟩ := R4.g3
    obtain ⟨e0, _⟩ := R5.g0
    obtain ⟨e1, _⟩ := R5.g1
    obtain ⟨e2, _⟩ := R5.g2
    obtain ⟨e3, _⟩ := R5.g3
    clear O4 R4 R5 R3 O3 N10
    go_wp2
    refine bodyPost_ret (v := .agg #[.int .i64 m.name, .slice a1 m.args.length c1, .int .i64 m.gives, .slice a5 m.code.length c5]) (by simp [results, Try.results109, go_sem, e0, e1, e2, e3]) rfl ?_
    have hk : ∀ (x : World) (j i : Nat) (v : Value), j < w.heap.size + 1 + 1 → Keep (w.heap.size + 1 + 1) x (x.setCell ⟨j, i, none⟩ v) := fun x j i v hj => Keep.set x (p := ⟨j, i, none⟩) hj v
    have hkk := ((((hk w5 w.heap.size 3 (.slice a5 m.code.length c5) (by omega)).trans (hk _ (w.heap.size + 1) 0 (.int .i64 m.name) (by omega))).trans (hk _ (w.heap.size + 1) 1 (.slice a1 m.args.length c1) (by omega))).trans (hk _ (w.heap.size + 1) 2 (.int .i64 m.gives) (by omega))).trans (hk _ (w.heap.size + 1) 3 (.slice a5 m.code.length c5) (by omega))
    have hbb := ((((HW5.out.setCell (p := ⟨w.heap.size, 3, none⟩) (by simp) (.slice a5 m.code.length c5)).setCell (p := ⟨w.heap.size + 1, 0, none⟩) (by simp) (.int .i64 m.name)).setCell (p := ⟨w.heap.size + 1, 1, none⟩) (by simp) (.slice a1 m.args.length c1)).setCell (p := ⟨w.heap.size + 1, 2, none⟩) (by simp) (.int .i64 m.gives)).setCell (p := ⟨w.heap.size + 1, 3, none⟩) (by simp) (.slice a5 m.code.length c5)
    exact ⟨a1, c1, a5, c5, rfl, ⟨w1.heap.size, by omega, by have := hkk.size; have := HZ5.out; omega, (HV5.out.keep hkk (Nat.le_refl _)).weak (by omega) (Nat.le_refl _), ((CZ.of HC5.out).keep hkk hz1').weak (Nat.le_refl _) hkk.size⟩, hbb, front.weak (HC5.out.on (hkk.mono hz1')) (by omega)⟩
end Pg
end Go.Proofs.Ytmbbombjlijknaa

/- A program that is being drawn: a class under way, and the classes that stand. -/
namespace Go.Proofs.Ytmbbombjlijknaa
namespace Pg
open Go.ChangeShapes Go.WideShapes Go.ChangeAt Go.RowKit St

/-- What hangs on the blocks from L up to M alone. -/
def Win (L M : Nat) (R : World → Prop) (w : World) : Prop := M ≤ w.heap.size ∧ ∀ w' : World, w.heap.size ≤ w'.heap.size → (∀ k, L ≤ k → k < M → w'.heap[k]? = w.heap[k]?) → R w'
theorem Win.now {L M : Nat} {R : World → Prop} {w : World} (h : Win L M R w) : R w := h.2 w (Nat.le_refl _) (fun _ _ _ => rfl)
theorem Win.move {L M : Nat} {R : World → Prop} {w w' : World} (h : Win L M R w) (hs : w.heap.size ≤ w'.heap.size) (hb : ∀ k, L ≤ k → k < M → w'.heap[k]? = w.heap[k]?) : Win L M R w' :=
  ⟨Nat.le_trans h.1 hs, fun x hx hk => h.2 x (Nat.le_trans hs hx) (fun k h1 h2 => (hk k h1 h2).trans (hb k h1 h2))⟩
/-- Nothing from lo up to hi has turned. -/
def Same (lo hi : Nat) (w w' : World) : Prop := w.heap.size ≤ w'.heap.size ∧ ∀ k, lo ≤ k → k < hi → w'.heap[k]? = w.heap[k]?
theorem Same.refl (lo hi : Nat) (w : World) : Same lo hi w w := ⟨Nat.le_refl _, fun _ _ _ => rfl⟩
theorem Same.trans {lo hi : Nat} {u v w : World} (h : Same lo hi u v) (k : Same lo hi v w) : Same lo hi u w := ⟨Nat.le_trans h.1 k.1, fun i h1 h2 => (k.2 i h1 h2).trans (h.2 i h1 h2)⟩
theorem Same.sub {lo hi lo' hi' : Nat} {u w : World} (h : Same lo hi u w) (h1 : lo ≤ lo') (h2 : hi' ≤ hi) : Same lo' hi' u w := ⟨h.1, fun k a b => h.2 k (by omega) (by omega)⟩
theorem Same.touch {lo hi c : Nat} {u w : World} (h : Cu.Touch c u w) (hc : c < lo) (hh : hi ≤ u.heap.size) : Same lo hi u w := ⟨h.size, fun k h1 h2 => h.block k (by omega) (by omega)⟩
theorem Same.on {lo hi : Nat} {u w : World} (h : Below u.heap.size u w) (hh : hi ≤ u.heap.size) : Same lo hi u w := ⟨h.size, fun k _ h2 => h.block k (by omega)⟩
theorem Same.set {lo hi b i : Nat} (w : World) (v : Value) (hb : b < lo ∨ hi ≤ b) : Same lo hi w (w.setCell ⟨b, i, none⟩ v) := by
  have hb' := (Below.refl 0 w).setCell (p := ⟨b, i, none⟩) (Nat.zero_le _) v
  exact ⟨hb'.size, fun k h1 h2 => Below.heap_setCell w ⟨b, i, none⟩ v k (fun e => by have : k = b := e; omega)⟩
theorem Same.grown {lo hi : Nat} {u w : World} {row : Option Nat} (h : u.grownBy w row) (hh : hi ≤ u.heap.size) (hr : ∀ g, row = some g → g < lo ∨ hi ≤ g) : Same lo hi u w :=
  ⟨h.size, fun k h1 h2 => h.block k (by omega) (fun e => by have := hr k e.symm; omega)⟩
theorem Same.alloc {lo hi : Nat} (w : World) (o : Obj) (hh : hi ≤ w.heap.size) : Same lo hi w (w.alloc o) := Same.on ((Below.refl _ _).alloc (Nat.le_refl _) _) hh
theorem own_move {u w : World} {B q n : Nat} {e : TypeId} {v : Value} {xs : List Value} (h : u.ownsRow B e q v n xs) (hb : ∀ g, v.ownBlock = some g → w.heap[g]? = u.heap[g]?) : w.ownsRow B e q v n xs := by
  obtain ⟨h0, ⟨h1, h2⟩ | ⟨g, cap, cur, rfl, h1, h2, h3⟩⟩ := h
  · exact ⟨h0, .inl ⟨h1, h2⟩⟩
  · exact ⟨h0, .inr ⟨g, cap, cur, rfl, h1, (hb g rfl).trans h2, h3⟩⟩
theorem cells_move {u w : World} {k : Nat} {vs : List Value} (h : Cells u k vs) (hb : w.heap[k]? = u.heap[k]?) : Cells w k vs := fun i x hx => by
  obtain ⟨h1, h2⟩ := h i x hx
  exact ⟨(World.cell?_of_block (w := u) hb).trans h1, (World.frozen?_of_block (w := u) hb).trans h2⟩
def Off (v : Value) (L M : Nat) : Prop := ∀ g, v.ownBlock = some g → g < L ∨ M ≤ g
theorem Off.next {v v' : Value} {L M N : Nat} (h : Off v L M) (hM : M ≤ N) (hat : v'.ownBlock = v.ownBlock ∨ v'.ownBlock = some N) : Off v' L M := fun g hg => by
  rcases hat with e | e
  · exact h g (e ▸ hg)
  · rw [e] at hg; injection hg with hg; omega

/-- The cells of a row of methods. -/
def flatM : List (Meth × Value × Value) → List Value
  | [] => []
  | x :: l => .int .i64 x.1.name :: x.2.1 :: .int .i64 x.1.gives :: x.2.2 :: flatM l
theorem flatM_len (l : List (Meth × Value × Value)) : (flatM l).length = l.length * 4 := by
  induction l with
  | nil => rfl
  | cons x l ih => simp only [flatM, List.length_cons, ih]; omega
theorem flatM_snoc (l : List (Meth × Value × Value)) (x : Meth × Value × Value) : flatM (l ++ [x]) = flatM l ++ [.int .i64 x.1.name, x.2.1, .int .i64 x.1.gives, x.2.2] := by
  induction l with
  | nil => rfl
  | cons y l ih => simp only [List.cons_append, flatM, ih]
theorem flatM_at : ∀ (l : List (Meth × Value × Value)) (j : Nat) (x : Meth × Value × Value), l[j]? = some x → (flatM l)[j * 4]? = some (.int .i64 x.1.name) ∧ (flatM l)[j * 4 + 1]? = some x.2.1 ∧ (flatM l)[j * 4 + 2]? = some (.int .i64 x.1.gives) ∧ (flatM l)[j * 4 + 3]? = some x.2.2
  | [], _, _, h => by simp at h
  | y :: l, 0, x, h => by simp at h; subst h; simp [flatM]
  | y :: l, j + 1, x, h => by
    have := flatM_at l j x (by simpa using h)
    rw [show (j + 1) * 4 = j * 4 + 1 + 1 + 1 + 1 from by omega, show j * 4 + 1 + 1 + 1 + 1 + 1 = j * 4 + 1 + 1 + 1 + 1 + 1 from rfl]
    simp only [flatM, List.getElem?_cons_succ]
    exact this
/-- The cells of a row of classes. -/
def flatK : List (Cls × Value × Value) → List Value
  | [] => []
  | x :: l => .int .i64 x.1.super :: x.2.1 :: x.2.2 :: flatK l
theorem flatK_len (l : List (Cls × Value × Value)) : (flatK l).length = l.length * 3 := by
  induction l with
  | nil => rfl
  | cons x l ih => simp only [flatK, List.length_cons, ih]; omega
theorem flatK_snoc (l : List (Cls × Value × Value)) (x : Cls × Value × Value) : flatK (l ++ [x]) = flatK l ++ [.int .i64 x.1.super, x.2.1, x.2.2] := by
  induction l with
  | nil => rfl
  | cons y l ih => simp only [List.cons_append, flatK, ih]
theorem flatK_at : ∀ (l : List (Cls × Value × Value)) (j : Nat) (x : Cls × Value × Value), l[j]? = some x → (flatK l)[j * 3]? = some (.int .i64 x.1.super) ∧ (flatK l)[j * 3 + 1]? = some x.2.1 ∧ (flatK l)[j * 3 + 2]? = some x.2.2
  | [], _, _, h => by simp at h
  | y :: l, 0, x, h => by simp at h; subst h; simp [flatK]
  | y :: l, j + 1, x, h => by
    have := flatK_at l j x (by simpa using h)
    rw [show (j + 1) * 3 = j * 3 + 1 + 1 + 1 from by omega]
    simp only [flatK, List.getElem?_cons_succ]
    exact this
/-- Slices take one cell. -/
theorem one_slice {v : Value} (h : ∃ a n c, v = .slice a n c) : v.oneCell' = true := by
  obtain ⟨a, n, c, rfl⟩ := h; rfl

/-- A row of methods, what each holds in blocks of its own, none of them the row's or one of q's. -/
def MR (S : Nat) (q : Value) (w : World) (v : Value) (ms : List Meth) : Prop :=
  ∃ l : List (Meth × Value × Value), l.map (·.1) = ms ∧ w.ownsRow S 41 4 v ms.length (flatM l) ∧
    ∀ x ∈ l, ∃ L M, S ≤ L ∧ Win L M (fun u => MV front L u x.2.1 x.2.2 x.1) w ∧ Off v L M ∧ Off q L M
/-- The rows of a class, in blocks from S on; block S + 1 is none of them. -/
def XD (S : Nat) (w : World) (vf vm : Value) (c : Cls) : Prop := Grow S w vf c.fields ∧ MR (S + 2) vf w vm c.meths ∧ (∀ g, vf.ownBlock = some g → vm.ownBlock ≠ some g) ∧ vf.ownBlock ≠ some (S + 1)
/-- They stand wherever none of them but block S + 1 has turned. -/
theorem XD.but {S : Nat} {w w' : World} {vf vm : Value} {c : Cls} (h : XD S w vf vm c) (hz : w.heap.size ≤ w'.heap.size) (hs : ∀ k, S ≤ k → k < w.heap.size → k ≠ S + 1 → w'.heap[k]? = w.heap[k]?) : XD S w' vf vm c := by
  obtain ⟨h2, ⟨l, e, h3, h4⟩, h7, h8⟩ := h
  refine ⟨⟨own_move h2.1 (fun g hg => ?_), h2.2⟩, ⟨l, e, own_move h3 (fun g hg => ?_), fun x hx => ?_⟩, h7, h8⟩
  · have := h2.1.lt g hg; exact hs g (by omega) this.2 (fun e => h8 (e ▸ hg))
  · have := h3.lt g hg; exact hs g (by omega) this.2 (by omega)
  · obtain ⟨L, M, k1, k2, k3, k4⟩ := h4 x hx
    exact ⟨L, M, k1, k2.move hz (fun k a b => hs k (by omega) (Nat.lt_of_lt_of_le b k2.1) (by omega)), k3, k4⟩
theorem XD.same {S : Nat} {w w' : World} {vf vm : Value} {c : Cls} (h : XD S w vf vm c) (hs : Same S w.heap.size w w') : XD S w' vf vm c := h.but hs.1 (fun k a b _ => hs.2 k a b)
theorem XD.win {S : Nat} {w : World} {vf vm : Value} {c : Cls} (h : XD S w vf vm c) : Win S w.heap.size (fun u => XD S u vf vm c) w :=
  ⟨Nat.le_refl _, fun _ hs hk => h.same ⟨hs, hk⟩⟩
/-- A class under way: its box at s + 1, its rows. -/
def XC (s : Nat) (w : World) (c : Cls) : Prop := ∃ vf vm, Cells w (s + 1) [.int .i64 c.super, vf, vm] ∧ XD s w vf vm c
theorem XC.same {s : Nat} {w w' : World} {c : Cls} (h : XC s w c) (hs : Same s w.heap.size w w') : XC s w' c := by
  obtain ⟨vf, vm, h1, h2⟩ := h
  have hx : s + 1 < w.heap.size := St.cell_lt (h1 0 _ rfl).1
  exact ⟨vf, vm, cells_move h1 (hs.2 (s + 1) (by omega) hx), h2.same hs⟩
/-- What stands of the classes: each one's rows in blocks of its own, ahead of the next one's; none of them the row's. -/
def KD (lo hi : Nat) (v : Value) (w : World) (l : List (Cls × Value × Value)) (W : Nat → Nat × Nat) : Prop :=
  ∀ j x, l[j]? = some x → lo ≤ (W j).1 ∧ (W j).2 ≤ hi ∧ Win (W j).1 (W j).2 (fun u => XD (W j).1 u x.2.1 x.2.2 x.1) w ∧ Off v (W j).1 (W j).2 ∧ ∀ i, i < j → (W i).2 ≤ (W j).1
/-- The classes that stand: the program's box at pb, all of it below T. -/
def PC (pb T : Nat) (w : World) (cs : Prg) : Prop :=
  T ≤ w.heap.size ∧ ∃ (v : Value) (l : List (Cls × Value × Value)) (W : Nat → Nat × Nat), l.map (·.1) = cs ∧ Cells w pb [v] ∧ pb < T ∧ w.ownsRow (pb + 1) 65 3 v cs.length (flatK l) ∧ (∀ g, v.ownBlock = some g → g < T) ∧ KD (pb + 1) T v w l W
theorem KD.same {lo hi : Nat} {v : Value} {w w' : World} {l : List (Cls × Value × Value)} {W : Nat → Nat × Nat} (h : KD lo hi v w l W) (hs : Same lo hi w w') : KD lo hi v w' l W := fun j x hx => by
  obtain ⟨k1, k2, k3, k4, k5⟩ := h j x hx
  exact ⟨k1, k2, k3.move hs.1 (fun k a b => hs.2 k (by omega) (by omega)), k4, k5⟩
theorem PC.same {pb T : Nat} {w w' : World} {cs : Prg} (h : PC pb T w cs) (hs : Same pb T w w') : PC pb T w' cs := by
  obtain ⟨h0, v, l, W, e, h1, h2, h3, h4, h5⟩ := h
  refine ⟨Nat.le_trans h0 hs.1, v, l, W, e, cells_move h1 (hs.2 pb (Nat.le_refl _) h2), h2, own_move h3 (fun g hg => ?_), h4, h5.same (hs.sub (by omega) (Nat.le_refl _))⟩
  have := h3.lt g hg; exact hs.2 g (by omega) (h4 g hg)
theorem MV.win {L : Nat} {w : World} {va vc : Value} {m : Meth} (h : MV front L w va vc m) : Win L w.heap.size (fun u => MV front L u va vc m) w :=
  ⟨Nat.le_refl _, fun _ hs hk => h.on ⟨hs, fun k a b => hk k a b⟩⟩
/-- What has been put together is a class as it lies. -/
theorem XD.cv {S : Nat} {w : World} {c : Cls} {vf vm : Value} (h : XD S w vf vm c) : CV front S w vf vm c := by
  obtain ⟨h2, h3, _⟩ := h
  refine ⟨h2.gint.si, ?_⟩
  obtain ⟨l, e, hown, hd⟩ := h3
  obtain ⟨h0, ⟨hv, hn⟩ | ⟨g, cap, cur, hv, hB, hblk, hle, hmx, hsz, htk⟩⟩ := hown
  · refine ⟨none, 0, by rw [hv, hn], fun _ _ => rfl, fun hp => by omega⟩
  · have hgw : g < w.heap.size := (Array.getElem?_eq_some_iff.1 hblk).1
    refine ⟨some ⟨g, 0, none⟩, cap, hv, fun _ h => by simp at h, fun hp => ⟨g, 0, rfl, (by omega), ⟨hgw, fun _ j hj => by simp [World.frozen?, hblk]⟩, fun j m hj => ?_⟩⟩
    have hl : l.length = c.meths.length := by rw [← e]; simp
    obtain ⟨x, hx⟩ : ∃ x, l[j]? = some x := by
      rw [← e, List.getElem?_map] at hj
      cases hq : l[j]? with
      | none => rw [hq] at hj; simp at hj
      | some x => exact ⟨x, rfl⟩
    have hxm : x.1 = m := by rw [← e, List.getElem?_map, hx] at hj; simpa using hj
    obtain ⟨L, M, k1, k2, k3, k4⟩ := hd x (List.mem_of_getElem? hx)
    obtain ⟨a0, a1, a2, a3⟩ := flatM_at l j x hx
    have hcell : ∀ i u, (flatM l)[i]? = some u → w.cell? ⟨g, 0 + i, none⟩ = some u := fun i u hu => by
      have := World.ownsRow.cells (w := w) ⟨h0, .inr ⟨g, cap, cur, hv, hB, hblk, hle, hmx, hsz, htk⟩⟩ (g := g) (by rw [hv]; rfl) i u hu
      rwa [Go.WideShapes.add_plain] at this
    subst hxm
    refine ⟨x.2.1, x.2.2, ?_, ?_, ?_, ?_, k2.now.weak (by omega)⟩
    · have := hcell _ _ a0; rwa [Nat.zero_add] at this ⊢
    · have := hcell _ _ a1; rw [Nat.zero_add] at this ⊢; exact this
    · have := hcell _ _ a2; rw [Nat.zero_add] at this ⊢; exact this
    · have := hcell _ _ a3; rw [Nat.zero_add] at this ⊢; exact this
end Pg
end Go.Proofs.Ytmbbombjlijknaa
