/- States that calls have made, in windows of blocks; the laws' own comparing and marking of them. -/
import Derived.Test.YtkcbbpfclfncpaaDoorSg0
import Derived.Test.YtkcbbpfclfncpaaDoorPz0
import Derived.Test.YtkcbbpfclfncpaaDoorPg5
namespace Go.Proofs.YtkcbbpfclfncpaaDoor
namespace Pg
open Go.ChangeShapes Go.WideShapes Go.ChangeAt Go.RowKit St

/-- Both rows of a state in blocks from B on and ahead of D, apart. -/
def StZ (B D : Nat) (w : World) (sv lv : Value) (s : Sta) : Prop := GZ B D w sv s.1 ∧ GZ B D w lv s.2 ∧ (sv.ownBlock = none ∨ sv.ownBlock ≠ lv.ownBlock)
theorem StZ.moved {B D : Nat} {u w : World} {sv lv : Value} {s : Sta} (h : StZ B D u sv lv s) (hs : u.heap.size ≤ w.heap.size) (hb : ∀ k, B ≤ k → k < D → k < u.heap.size → w.heap[k]? = u.heap[k]?) : StZ B D w sv lv s := ⟨h.1.moved hs hb, h.2.1.moved hs hb, h.2.2⟩
theorem StZ.on {B D : Nat} {u w : World} {sv lv : Value} {s : Sta} (h : StZ B D u sv lv s) (hb : Below u.heap.size u w) : StZ B D w sv lv s := h.moved hb.size fun k _ _ h3 => hb.block k h3
theorem StZ.mrk {C1 C2 B D : Nat} {u w : World} {sv lv : Value} {s : Sta} (h : StZ B D u sv lv s) (hm : Mrk C1 C2 u w) (hd : D ≤ C1 ∨ C2 ≤ B) : StZ B D w sv lv s := h.moved hm.size fun k h1 h2 hl => hm.far k hl (by omega)
theorem StZ.low {C B D : Nat} {u w : World} {sv lv : Value} {s : Sta} (h : StZ B D u sv lv s) (hk : Below C u w) (hB : D ≤ C) : StZ B D w sv lv s := h.moved hk.size fun k _ h2 _ => hk.block k (by omega)
theorem StZ.high {C B D : Nat} {u w : World} {sv lv : Value} {s : Sta} (h : StZ B D u sv lv s) (hk : Keep C u w) (hB : C ≤ B) : StZ B D w sv lv s := h.moved hk.size fun k h1 _ hl => hk.block k (by omega) hl
theorem AnsS.z {B : Nat} {w : World} {sv lv : Value} {s : Sta} (h : AnsS B w sv lv s) : StZ B w.heap.size w sv lv s := ⟨h.1, GZ.of h.2.1, h.2.2⟩
theorem StZ.nil (B D : Nat) (w : World) : StZ B D w (.slice none 0 0) (.slice none 0 0) ([], []) := ⟨.inr ⟨rfl, rfl⟩, .inr ⟨rfl, rfl⟩, .inl rfl⟩
theorem gz_own {B D : Nat} {w : World} {v : Value} {l : List Int} (h : GZ B D w v l) {g : Nat} (hg : v.ownBlock = some g) : B ≤ g ∧ g < D := by
  rcases h with ⟨g', c, rfl, h1, h2, _⟩ | ⟨rfl, _⟩
  · simp [Value.ownBlock] at hg; subst hg; exact ⟨h1, h2⟩
  · cases hg
/-- The same row, in the smallest window. -/
theorem gz_one {B D : Nat} {w : World} {v : Value} {l : List Int} (h : GZ B D w v l) {g : Nat} (hg : v.ownBlock = some g) : GZ g (g + 1) w v l := by
  rcases h with ⟨g', c, rfl, h1, h2, h3⟩ | ⟨rfl, _⟩
  · simp [Value.ownBlock] at hg; subst hg; exact .inl ⟨_, c, rfl, Nat.le_refl _, Nat.lt_succ_self _, h3⟩
  · cases hg
theorem gz_none {B D : Nat} {w : World} {v : Value} {l : List Int} (h : GZ B D w v l) (hg : v.ownBlock = none) : v = .slice none 0 0 ∧ l = [] := by
  rcases h with ⟨g', c, rfl, _⟩ | h
  · cases hg
  · exact h
/-- A row abides what is done in another row's block alone. -/
theorem gz_apart {B D g : Nat} {u w : World} {v : Value} {l : List Int} (h : GZ B D u v l) (hne : v.ownBlock ≠ some g) (hb : Below g u w) (hk : Keep (g + 1) u w) : GZ B D w v l := by
  cases hv : v.ownBlock with
  | none => obtain ⟨rfl, rfl⟩ := gz_none h hv; exact .inr ⟨rfl, rfl⟩
  | some b =>
    obtain ⟨h1, h2⟩ := gz_own h hv
    have hbg : b ≠ g := fun e => hne (by rw [hv, e])
    refine ((gz_one h hv).moved hk.size fun k k1 k2 hl => ?_).weak h1 (by omega)
    have : k = b := by omega
    subst this
    rcases Nat.lt_or_ge k g with hlt | hge
    · exact hb.block k hlt
    · exact hk.block k (by omega) hl

theorem eqIntsZ (B C B' C' : Nat) (a a' : Option Addr) (c c' : Nat) (l : List Int) (hl : l.length ≤ 1048576) (w : World) (h1 : GZ B C w (.slice a l.length c) l) (h2 : GZ B' C' w (.slice a' l.length c') l) :
    Calls Tryd.prog 20 #[.slice a l.length c, .slice a' l.length c'] w fun e w' => e = .returned (.bool true) ∧ Below w.heap.size w w' := eqInts' B B' a a' c c' l hl w h1.si h2.si
set_option maxRecDepth 100000 in
set_option maxHeartbeats 1000000 in
theorem eqStateZ (B D B' D' : Nat) (s : Sta) (h8 : s.1.length ≤ 1048576) (h9 : s.2.length ≤ 1048576) (x1 x2 y1 y2 : Option Addr) (c1 c2 d1 d2 : Nat) (w : World) (h : StZ B D w (.slice x1 s.1.length c1) (.slice x2 s.2.length c2) s) (k : StZ B' D' w (.slice y1 s.1.length d1) (.slice y2 s.2.length d2) s) :
    Calls Tryd.prog 8 #[.agg #[.slice x1 s.1.length c1, .slice x2 s.2.length c2], .agg #[.slice y1 s.1.length d1, .slice y2 s.2.length d2]] w fun e w' => e = .returned (.bool true) ∧ Below w.heap.size w w' := by
  have H : Hid (StZ B D w (.slice x1 s.1.length c1) (.slice x2 s.2.length c2) s) := h
  have K : Hid (StZ B' D' w (.slice y1 s.1.length d1) (.slice y2 s.2.length d2) s) := k
  clear h k
  obtain ⟨W, hW⟩ : ∃ W, W = (w.alloc (.cells #[.slice x1 s.1.length c1, .slice x2 s.2.length c2] 28)).alloc (.cells #[.slice y1 s.1.length d1, .slice y2 s.2.length d2] 28) := ⟨_, rfl⟩
  have hwW : Below w.heap.size w W := by rw [hW]; exact ((Below.refl _ _).alloc (Nat.le_refl _) _).alloc (by simp) _
  have A0 : Hid (Cells W w.heap.size [.slice x1 s.1.length c1, .slice x2 s.2.length c2]) := by rw [hW]; exact (Cells.new w _ rfl _ _).alloc _
  have B0 : Hid (Cells W (w.heap.size + 1) [.slice y1 s.1.length d1, .slice y2 s.2.length d2]) := by rw [hW]; exact Cells.new (w.alloc _) _ (by simp) _ _
  go_enter Tryd.func8, Tryd.ntmps8
  go_wp2_with fail
  rw [← hW]
  clear hW
  refine (eqIntsZ B D B' D' x1 y1 c1 d1 s.1 h8 _ (H.out.on hwW).1 (K.out.on hwW).1).mono ?_
  rintro e w1 ⟨rfl, hb1⟩
  have hw1 : Below w.heap.size w w1 := below_over hwW hb1
  obtain ⟨a1, _⟩ := (A0.out.on hb1).g1
  obtain ⟨b1, _⟩ := (B0.out.on hb1).g1
  clear hb1
  go_wp2_with fail
  refine (eqIntsZ B D B' D' x2 y2 c2 d2 s.2 h9 _ (H.out.on hw1).2.1 (K.out.on hw1).2.1).mono ?_
  rintro e w2 ⟨rfl, hb2⟩
  have hw2 : Below w.heap.size w w2 := below_over hw1 hb2
  clear hb2 hw1 a1 b1
  go_wp2
  go_ret
  exact ⟨rfl, hw2⟩
/-- The marks in a state, from m on. -/
def stMarks (m : Nat) (s : Sta) : Sta := (imarks m s.1.length, imarks (m + s.1.length) s.2.length)
theorem markIntsAt (B D m : Nat) (a : Option Addr) (c : Nat) (l : List Int) (hl : l.length ≤ 1048576) (hm : m + l.length ≤ 4000000) (w : World) (hB : B ≤ w.heap.size) (h : GZ B D w (.slice a l.length c) l) :
    Calls Tryd.prog 23 #[.slice a l.length c, .int .i64 m] w fun e w' => e = .returned (.int .i64 ((m + l.length : Nat) : Int)) ∧ GZ B D w' (.slice a l.length c) (imarks m l.length) ∧ Below B w w' ∧ Keep D w w' ∧ (∀ v' l', GZ B D w v' l' → (v'.ownBlock = none ∨ v'.ownBlock ≠ (Value.slice a l.length c).ownBlock) → GZ B D w' v' l') := by
  cases hv : (Value.slice a l.length c).ownBlock with
  | none =>
    obtain ⟨e1, e2⟩ := gz_none h hv
    refine (markIntsZ w.heap.size w.heap.size m a c l hl hm w (Nat.le_refl _) (.inr ⟨e1, e2⟩)).mono ?_
    rintro e w' ⟨h1, _, h3, _⟩
    refine ⟨h1, ?_, below_less h3 hB, Keep.of h3, fun v' l' hg _ => hg.on h3⟩
    rw [e2] at e1 ⊢
    exact .inr ⟨e1, rfl⟩
  | some g =>
    have hg1 := gz_own h hv
    refine (markIntsZ g (g + 1) m a c l hl hm w ?_ (gz_one h hv)).mono ?_
    · rcases h with ⟨g', c', hvv, _, _, h3, _⟩ | ⟨hvv, _⟩
      · rw [hvv] at hv; simp [Value.ownBlock] at hv; omega
      · rw [hvv] at hv; cases hv
    · rintro e w' ⟨h1, h2, h3, h4⟩
      refine ⟨h1, h2.weak hg1.1 (by omega), below_less h3 hg1.1, h4.mono (by omega), fun v' l' hg hne => gz_apart hg ?_ h3 h4⟩
      rcases hne with e | e
      · rw [e]; simp
      · exact e
set_option maxRecDepth 100000 in
set_option maxHeartbeats 1000000 in
theorem markStateZ (B D m : Nat) (s : Sta) (h8 : s.1.length ≤ 1048576) (h9 : s.2.length ≤ 1048576) (hm : m + s.1.length + s.2.length ≤ 4000000) (x1 x2 : Option Addr) (c1 c2 : Nat) (w : World) (hB : B ≤ w.heap.size) (hD : D ≤ w.heap.size) (h : StZ B D w (.slice x1 s.1.length c1) (.slice x2 s.2.length c2) s) :
    Calls Tryd.prog 11 #[.agg #[.slice x1 s.1.length c1, .slice x2 s.2.length c2], .int .i64 m] w fun e w' => e = .returned (.int .i64 ((m + s.1.length + s.2.length : Nat) : Int)) ∧ StZ B D w' (.slice x1 s.1.length c1) (.slice x2 s.2.length c2) (stMarks m s) ∧ Below B w w' ∧ Keep D w w' := by
  have H : Hid (StZ B D w (.slice x1 s.1.length c1) (.slice x2 s.2.length c2) s) := h
  clear h
  obtain ⟨W, hW⟩ : ∃ W, W = w.alloc (.cells #[.slice x1 s.1.length c1, .slice x2 s.2.length c2] 28) := ⟨_, rfl⟩
  have hwW : Below w.heap.size w W := by rw [hW]; exact (Below.refl _ _).alloc (Nat.le_refl _) _
  have A0 : Hid (Cells W w.heap.size [.slice x1 s.1.length c1, .slice x2 s.2.length c2]) := by rw [hW]; exact Cells.new w _ rfl _ _
  have HW : Hid (StZ B D W (.slice x1 s.1.length c1) (.slice x2 s.2.length c2) s) := H.out.on hwW
  go_enter Tryd.func11, Tryd.ntmps11
  go_wp2_with fail
  rw [← hW]
  clear hW
  refine (markIntsAt B D m x1 c1 s.1 h8 (by omega) W (Nat.le_trans hB hwW.size) HW.out.1).mono ?_
  rintro e w1 ⟨rfl, hg1, hb1, hk1, hap1⟩
  have HG1 : Hid (GZ B D w1 (.slice x1 s.1.length c1) (imarks m s.1.length)) := hg1
  have HL1 : Hid (GZ B D w1 (.slice x2 s.2.length c2) s.2) := hap1 _ _ HW.out.2.1 (by
    cases e2 : (Value.slice x2 s.2.length c2).ownBlock with
    | none => exact .inl rfl
    | some g =>
      refine .inr fun e => ?_
      rcases HW.out.2.2 with e3 | e3
      · rw [e3] at e; cases e
      · exact e3 (by rw [e2]; exact e.symm))
  have HA1 : Hid (Cells w1 w.heap.size [.slice x1 s.1.length c1, .slice x2 s.2.length c2]) := A0.out.keep hk1 hD
  obtain ⟨a1, _⟩ := HA1.out.g1
  have HB1 : Hid (Below B w w1) := (below_less hwW hB).trans hb1
  have HK1 : Hid (Keep D w w1) := (Keep.of hwW).trans hk1
  have hsz1 : B ≤ w1.heap.size := Nat.le_trans hB (Nat.le_trans hwW.size hb1.size)
  clear hg1 hb1 hk1 hap1
  have hm2 : (m + s.1.length) + s.2.length ≤ 4000000 := by omega
  generalize hq : m + s.1.length = q at *
  have HQ : Hid (m + s.1.length = q) := hq
  clear hq
  go_wp2_with fail
  refine (markIntsAt B D q x2 c2 s.2 h9 hm2 w1 hsz1 HL1.out).mono ?_
  rintro e w2 ⟨rfl, hg2, hb2, hk2, hap2⟩
  have HS2 : Hid (StZ B D w2 (.slice x1 s.1.length c1) (.slice x2 s.2.length c2) (stMarks m s)) := by
    refine ⟨hap2 _ _ HG1.out HW.out.2.2, ?_, HW.out.2.2⟩
    show GZ B D w2 _ (imarks (m + s.1.length) s.2.length)
    rw [HQ.out]; exact hg2
  have HB2 : Hid (Below B w w2) := HB1.out.trans hb2
  have HK2 : Hid (Keep D w w2) := HK1.out.trans hk2
  clear hg2 hb2 hk2 hap2 a1
  go_wp2
  go_ret
  refine ⟨?_, HS2.out, HB2.out, HK2.out⟩
  have hq := HQ.out
  show Ending.returned (Value.int .i64 _) = Ending.returned (Value.int .i64 _)
  congr 2
  omega
set_option maxRecDepth 100000 in
set_option maxHeartbeats 1000000 in
theorem heldStateZ (B D m : Nat) (s : Sta) (h8 : s.1.length ≤ 1048576) (h9 : s.2.length ≤ 1048576) (hm : m + s.1.length + s.2.length ≤ 4000000) (x1 x2 : Option Addr) (c1 c2 : Nat) (w : World) (h : StZ B D w (.slice x1 s.1.length c1) (.slice x2 s.2.length c2) (stMarks m s)) :
    Calls Tryd.prog 12 #[.agg #[.slice x1 s.1.length c1, .slice x2 s.2.length c2], .int .i64 m] w fun e w' => e = .returned (.int .i64 ((m + s.1.length + s.2.length : Nat) : Int)) ∧ Below w.heap.size w w' := by
  have H : Hid (StZ B D w (.slice x1 s.1.length c1) (.slice x2 s.2.length c2) (stMarks m s)) := h
  clear h
  obtain ⟨W, hW⟩ : ∃ W, W = w.alloc (.cells #[.slice x1 s.1.length c1, .slice x2 s.2.length c2] 28) := ⟨_, rfl⟩
  have hwW : Below w.heap.size w W := by rw [hW]; exact (Below.refl _ _).alloc (Nat.le_refl _) _
  have A0 : Hid (Cells W w.heap.size [.slice x1 s.1.length c1, .slice x2 s.2.length c2]) := by rw [hW]; exact Cells.new w _ rfl _ _
  have HW : Hid (StZ B D W (.slice x1 s.1.length c1) (.slice x2 s.2.length c2) (stMarks m s)) := H.out.on hwW
  go_enter Tryd.func12, Tryd.ntmps12
  go_wp2_with fail
  rw [← hW]
  clear hW
  refine (heldIntsZ B D m s.1.length x1 c1 h8 (by omega) W HW.out.1).mono ?_
  rintro e w1 ⟨rfl, rfl⟩
  obtain ⟨a1, _⟩ := A0.out.g1
  have HL : Hid (GZ B D W (.slice x2 s.2.length c2) (imarks (m + s.1.length) s.2.length)) := HW.out.2.1
  have hm2 : (m + s.1.length) + s.2.length ≤ 4000000 := by omega
  generalize hq : m + s.1.length = q at *
  have HQ : Hid (m + s.1.length = q) := hq
  clear hq
  have hneg : ¬ ((q : Int) < 0) := by omega
  go_wp2_with fail
  refine (heldIntsZ B D q s.2.length x2 c2 h9 (by omega) W HL.out).mono ?_
  rintro e w2 ⟨rfl, rfl⟩
  generalize hr : q + s.2.length = r at *
  have HR : Hid (q + s.2.length = r) := hr
  clear hr
  have hneg2 : ¬ ((r : Int) < 0) := by omega
  clear a1
  go_wp2
  go_ret
  refine ⟨?_, hwW⟩
  have hq := HQ.out
  have hr := HR.out
  show Ending.returned (Value.int .i64 _) = Ending.returned (Value.int .i64 _)
  congr 2
  omega
end Pg
end Go.Proofs.YtkcbbpfclfncpaaDoor
