/- States that calls have made, in windows of blocks; the laws' own comparing and marking of them. -/
import Derived.Test.YtfdlljdljefkfaaGreatDoorJLo0
import Derived.Test.YtfdlljdljefkfaaGreatDoorJPz0
import Derived.Test.YtfdlljdljefkfaaGreatDoorJGot0
import Derived.Test.YtfdlljdljefkfaaGreatDoorJPg4
namespace Go.Proofs.YtfdlljdljefkfaaGreatDoor
namespace Pg
open Go.ChangeShapes Go.WideShapes Go.ChangeAt Go.RowKit St

/-- Both rows of a state in blocks from B on and ahead of D, apart. -/
def StZ (B D : Nat) (w : World) (sv lv : Value) (s : Sta) : Prop := GZ B D w sv s.1 ∧ GZ B D w lv s.2 ∧ (sv.ownBlock = none ∨ sv.ownBlock ≠ lv.ownBlock)
theorem StZ.moved {B D : Nat} {u w : World} {sv lv : Value} {s : Sta} (h : StZ B D u sv lv s) (hs : u.heap.size ≤ w.heap.size) (hb : ∀ k, B ≤ k → k < D → k < u.heap.size → w.heap[k]? = u.heap[k]?) : StZ B D w sv lv s := ⟨h.1.moved hs hb, h.2.1.moved hs hb, h.2.2⟩
theorem StZ.on {B D : Nat} {u w : World} {sv lv : Value} {s : Sta} (h : StZ B D u sv lv s) (hb : Below u.heap.size u w) : StZ B D w sv lv s := h.moved hb.size fun k _ _ h3 => hb.block k h3
theorem StZ.mrk {C1 C2 B D : Nat} {u w : World} {sv lv : Value} {s : Sta} (h : StZ B D u sv lv s) (hm : Mrk C1 C2 u w) (hd : D ≤ C1 ∨ C2 ≤ B) : StZ B D w sv lv s := h.moved hm.size fun k h1 h2 hl => hm.far k hl (by omega)
theorem StZ.low {C B D : Nat} {u w : World} {sv lv : Value} {s : Sta} (h : StZ B D u sv lv s) (hk : Below C u w) (hB : D ≤ C) : StZ B D w sv lv s := h.moved hk.size fun k _ h2 _ => hk.block k (by omega)
theorem StZ.high {C B D : Nat} {u w : World} {sv lv : Value} {s : Sta} (h : StZ B D u sv lv s) (hk : Keep C u w) (hB : C ≤ B) : StZ B D w sv lv s := h.moved hk.size fun k h1 _ hl => hk.block k (by omega) hl
theorem AnsS.z {B : Nat} {w : World} {sv lv : Value} {s : Sta} (h : AnsS B w sv lv s) : StZ B w.heap.size w sv lv s := ⟨h.1, GZ.of h.2.1, h.2.2⟩
theorem StZ.nil (B D : Nat) (w : World) : StZ B D w (.slice none 0 0) (.slice none 0 0) ([], []) := ⟨.inr ⟨rfl, rfl⟩, .inr ⟨rfl, rfl⟩, .inl rfl⟩
theorem gz_own {B D : Nat} {w : World} {v : Value} {l : List Int} (h : GZ B D w v l) {g : Nat} (hg : v.ownBlock = some g) : B ≤ g ∧ g < D := by
  rcases h with ⟨g', c, rfl, h1, h2, _⟩ | ⟨rfl, _⟩
  · simp [Value.ownBlock] at hg; subst hg; exact ⟨h1, h2⟩
  · cases hg
/-- The same row, in the smallest window. -/
theorem gz_one {B D : Nat} {w : World} {v : Value} {l : List Int} (h : GZ B D w v l) {g : Nat} (hg : v.ownBlock = some g) : GZ g (g + 1) w v l := by
  rcases h with ⟨g', c, rfl, h1, h2, h3⟩ | ⟨rfl, _⟩
  · simp [Value.ownBlock] at hg; subst hg; exact .inl ⟨_, c, rfl, Nat.le_refl _, Nat.lt_succ_self _, h3⟩
  · cases hg
theorem gz_none {B D : Nat} {w : World} {v : Value} {l : List Int} (h : GZ B D w v l) (hg : v.ownBlock = none) : v = .slice none 0 0 ∧ l = [] := by
  rcases h with ⟨g', c, rfl, _⟩ | h
  · cases hg
  · exact h
/-- A row abides what is done in another row's block alone. -/
theorem gz_apart {B D g : Nat} {u w : World} {v : Value} {l : List Int} (h : GZ B D u v l) (hne : v.ownBlock ≠ some g) (hb : Below g u w) (hk : Keep (g + 1) u w) : GZ B D w v l := by
  cases hv : v.ownBlock with
  | none => obtain ⟨rfl, rfl⟩ := gz_none h hv; exact .inr ⟨rfl, rfl⟩
  | some b =>
    obtain ⟨h1, h2⟩ := gz_own h hv
    have hbg : b ≠ g := fun e => hne (by rw [hv, e])
    refine ((gz_one h hv).moved hk.size fun k k1 k2 hl => ?_).weak h1 (by omega)
    have : k = b := by omega
    subst this
    rcases Nat.lt_or_ge k g with hlt | hge
    · exact hb.block k hlt
    · exact hk.block k (by omega) hl

theorem eqIntsZ (B C B' C' : Nat) (a a' : Option Addr) (c c' : Nat) (l : List Int) (hl : l.length ≤ 1048576) (w : World) (h1 : GZ B C w (.slice a l.length c) l) (h2 : GZ B' C' w (.slice a' l.length c') l) :
    Calls Tryz.prog 26 #[.slice a l.length c, .slice a' l.length c'] w fun e w' => e = .returned (.bool true) ∧ Below w.heap.size w w' := eqInts' B B' a a' c c' l hl w h1.si h2.si
set_option maxRecDepth 100000 in
set_option maxHeartbeats 1000000 in
theorem eqStateZ (B D B' D' : Nat) (s : Sta) (h8 : s.1.length ≤ 1048576) (h9 : s.2.length ≤ 1048576) (x1 x2 y1 y2 : Option Addr) (c1 c2 d1 d2 : Nat) (w : World) (h : StZ B D w (.slice x1 s.1.length c1) (.slice x2 s.2.length c2) s) (k : StZ B' D' w (.slice y1 s.1.length d1) (.slice y2 s.2.length d2) s) :
    Calls Tryz.prog 11 #[.agg #[.slice x1 s.1.length c1, .slice x2 s.2.length c2], .agg #[.slice y1 s.1.length d1, .slice y2 s.2.length d2]] w fun e w' => e = .returned (.bool true) ∧ Below w.heap.size w w' := by
  have H : Hid (StZ B D w (.slice x1 s.1.length c1) (.slice x2 s.2.length c2) s) := h
  have K : Hid (StZ B' D' w (.slice y1 s.1.length d1) (.slice y2 s.2.length d2) s) := k
  clear h k
  obtain ⟨W, hW⟩ : ∃ W, W = (w.alloc (.cells #[.slice x1 s.1.length c1, .slice x2 s.2.length c2] 32)).alloc (.cells #[.slice y1 s.1.length d1, .slice y2 s.2.length d2] 32) := ⟨_, rfl⟩
  have hwW : Below w.heap.size w W := by rw [hW]; exact ((Below.refl _ _).alloc (Nat.le_refl _) _).alloc (by simp) _
  have A0 : Hid (Cells W w.heap.size [.slice x1 s.1.length c1, .slice x2 s.2.length c2]) := by rw [hW]; exact (Cells.new w _ rfl _ _).alloc _
  have B0 : Hid (Cells W (w.heap.size + 1) [.slice y1 s.1.length d1, .slice y2 s.2.length d2]) := by rw [hW]; exact Cells.new (w.alloc _) _ (by simp) _ _
  go_enter Tryz.func11, Tryz.ntmps11
  go_wp2_with fail
  rw [← hW]
  clear hW
  refine (eqIntsZ B D B' D' x1 y1 c1 d1 s.1 h8 _ (H.out.on hwW).1 (K.out.on hwW).1).mono ?_
  rintro e w1 ⟨rfl, hb1⟩
  have hw1 : Below w.heap.size w w1 := below_over hwW hb1
  obtain ⟨a1, _⟩ := (A0.out.on hb1).g1
  obtain ⟨b1, _⟩ := (B0.out.on hb1).g1
  clear hb1
  go_wp2_with fail
  refine (eqIntsZ B D B' D' x2 y2 c2 d2 s.2 h9 _ (H.out.on hw1).2.1 (K.out.on hw1).2.1).mono ?_
  rintro e w2 ⟨rfl, hb2⟩
  have hw2 : Below w.heap.size w w2 := below_over hw1 hb2
  clear hb2 hw1 a1 b1
  go_wp2
  go_ret
  exact ⟨rfl, hw2⟩
/-- The marks in a state, from m on. -/
def stMarks (m : Nat) (s : Sta) : Sta := (imarks m s.1.length, imarks (m + s.1.length) s.2.length)
theorem markIntsAt (B D m : Nat) (a : Option Addr) (c : Nat) (l : List Int) (hl : l.length ≤ 1048576) (hm : m + l.length ≤ 4000000) (w : World) (hB : B ≤ w.heap.size) (h : GZ B D w (.slice a l.length c) l) :
    Calls Tryz.prog 29 #[.slice a l.length c, .int .i64 m] w fun e w' => e = .returned (.int .i64 ((m + l.length : Nat) : Int)) ∧ GZ B D w' (.slice a l.length c) (imarks m l.length) ∧ Below B w w' ∧ Keep D w w' ∧ (∀ v' l', GZ B D w v' l' → (v'.ownBlock = none ∨ v'.ownBlock ≠ (Value.slice a l.length c).ownBlock) → GZ B D w' v' l') := by
  cases hv : (Value.slice a l.length c).ownBlock with
  | none =>
    obtain ⟨e1, e2⟩ := gz_none h hv
    refine (markIntsZ w.heap.size w.heap.size m a c l hl hm w (Nat.le_refl _) (.inr ⟨e1, e2⟩)).mono ?_
    rintro e w' ⟨h1, _, h3, _⟩
    refine ⟨h1, ?_, below_less h3 hB, Keep.of h3, fun v' l' hg _ => hg.on h3⟩
    rw [e2] at e1 ⊢
    exact .inr ⟨e1, rfl⟩
  | some g =>
    have hg1 := gz_own h hv
    refine (markIntsZ g (g + 1) m a c l hl hm w ?_ (gz_one h hv)).mono ?_
    · rcases h with ⟨g', c', hvv, _, _, h3, _⟩ | ⟨hvv, _⟩
      · rw [hvv] at hv; simp [Value.ownBlock] at hv; omega
      · rw [hvv] at hv; cases hv
    · rintro e w' ⟨h1, h2, h3, h4⟩
      refine ⟨h1, h2.weak hg1.1 (by omega), below_less h3 hg1.1, h4.mono (by omega), fun v' l' hg hne => gz_apart hg ?_ h3 h4⟩
      rcases hne with e | e
      · rw [e]; simp
      · exact e
set_option maxRecDepth 100000 in
set_option maxHeartbeats 1000000 in
theorem markStateZ (B D m : Nat) (s : Sta) (h8 : s.1.length ≤ 1048576) (h9 : s.2.length ≤ 1048576) (hm : m + s.1.length + s.2.length ≤ 4000000) (x1 x2 : Option Addr) (c1 c2 : Nat) (w : World) (hB : B ≤ w.heap.size) (hD : D ≤ w.heap.size) (h : StZ B D w (.slice x1 s.1.length c1) (.slice x2 s.2.length c2) s) :
    Calls Tryz.prog 14 #[.agg #[.slice x1 s.1.length c1, .slice x2 s.2.length c2], .int .i64 m] w fun e w' => e = .returned (.int .i64 ((m + s.1.length + s.2.length : Nat) : Int)) ∧ StZ B D w' (.slice x1 s.1.length c1) (.slice x2 s.2.length c2) (stMarks m s) ∧ Below B w w' ∧ Keep D w w' := by
  have H : Hid (StZ B D w (.slice x1 s.1.length c1) (.slice x2 s.2.length c2) s) := h
  clear h
  obtain ⟨W, hW⟩ : ∃ W, W = w.alloc (.cells #[.slice x1 s.1.length c1, .slice x2 s.2.length c2] 32) := ⟨_, rfl⟩
  have hwW : Below w.heap.size w W := by rw [hW]; exact (Below.refl _ _).alloc (Nat.le_refl _) _
  have A0 : Hid (Cells W w.heap.size [.slice x1 s.1.length c1, .slice x2 s.2.length c2]) := by rw [hW]; exact Cells.new w _ rfl _ _
  have HW : Hid (StZ B D W (.slice x1 s.1.length c1) (.slice x2 s.2.length c2) s) := H.out.on hwW
  go_enter Tryz.func14, Tryz.ntmps14
  go_wp2_with fail
  rw [← hW]
  clear hW
  refine (markIntsAt B D m x1 c1 s.1 h8 (by omega) W (Nat.le_trans hB hwW.size) HW.out.1).mono ?_
  rintro e w1 ⟨rfl, hg1, hb1, hk1, hap1⟩
  have HG1 : Hid (GZ B D w1 (.slice x1 s.1.length c1) (imarks m s.1.length)) := hg1
  have HL1 : Hid (GZ B D w1 (.slice x2 s.2.length c2) s.2) := hap1 _ _ HW.out.2.1 (by
    cases e2 : (Value.slice x2 s.2.length c2).ownBlock with
    | none => exact .inl rfl
    | some g =>
      refine .inr fun e => ?_
      rcases HW.out.2.2 with e3 | e3
      · rw [e3] at e; cases e
      · exact e3 (by rw [e2]; exact e.symm))
  have HA1 : Hid (Cells w1 w.heap.size [.slice x1 s.1.length c1, .slice x2 s.2.length c2]) := A0.out.keep hk1 hD
  obtain ⟨a1, _⟩ := HA1.out.g1
  have HB1 : Hid (Below B w w1) := (below_less hwW hB).trans hb1
  have HK1 : Hid (Keep D w w1) := (Keep.of hwW).trans hk1
  have hsz1 : B ≤ w1.heap.size := Nat.le_trans hB (Nat.le_trans hwW.size hb1.size)
  clear hg1 hb1 hk1 hap1
  have hm2 : (m + s.1.length) + s.2.length ≤ 4000000 := by omega
  generalize hq : m + s.1.length = q at *
  have HQ : Hid (m + s.1.length = q) := hq
  clear hq
  go_wp2_with fail
  refine (markIntsAt B D q x2 c2 s.2 h9 hm2 w1 hsz1 HL1.out).mono ?_
  rintro e w2 ⟨rfl, hg2, hb2, hk2, hap2⟩
  have HS2 : Hid (StZ B D w2 (.slice x1 s.1.length c1) (.slice x2 s.2.length c2) (stMarks m s)) := by
    refine ⟨hap2 _ _ HG1.out HW.out.2.2, ?_, HW.out.2.2⟩
    show GZ B D w2 _ (imarks (m + s.1.length) s.2.length)
    rw [HQ.out]; exact hg2
  have HB2 : Hid (Below B w w2) := HB1.out.trans hb2
  have HK2 : Hid (Keep D w w2) := HK1.out.trans hk2
  clear hg2 hb2 hk2 hap2 a1
  go_wp2
  go_ret
  refine ⟨?_, HS2.out, HB2.out, HK2.out⟩
  have hq := HQ.out
  show Ending.returned (Value.int .i64 _) = Ending.returned (Value.int .i64 _)
  congr 2
  omega
set_option maxRecDepth 100000 in
set_option maxHeartbeats 1000000 in
theorem heldStateZ (B D m : Nat) (s : Sta) (h8 : s.1.length ≤ 1048576) (h9 : s.2.length ≤ 1048576) (hm : m + s.1.length + s.2.length ≤ 4000000) (x1 x2 : Option Addr) (c1 c2 : Nat) (w : World) (h : StZ B D w (.slice x1 s.1.length c1) (.slice x2 s.2.length c2) (stMarks m s)) :
    Calls Tryz.prog 15 #[.agg #[.slice x1 s.1.length c1, .slice x2 s.2.length c2], .int .i64 m] w fun e w' => e = .returned (.int .i64 ((m + s.1.length + s.2.length : Nat) : Int)) ∧ Below w.heap.size w w' := by
  have H : Hid (StZ B D w (.slice x1 s.1.length c1) (.slice x2 s.2.length c2) (stMarks m s)) := h
  clear h
  obtain ⟨W, hW⟩ : ∃ W, W = w.alloc (.cells #[.slice x1 s.1.length c1, .slice x2 s.2.length c2] 32) := ⟨_, rfl⟩
  have hwW : Below w.heap.size w W := by rw [hW]; exact (Below.refl _ _).alloc (Nat.le_refl _) _
  have A0 : Hid (Cells W w.heap.size [.slice x1 s.1.length c1, .slice x2 s.2.length c2]) := by rw [hW]; exact Cells.new w _ rfl _ _
  have HW : Hid (StZ B D W (.slice x1 s.1.length c1) (.slice x2 s.2.length c2) (stMarks m s)) := H.out.on hwW
  go_enter Tryz.func15, Tryz.ntmps15
  go_wp2_with fail
  rw [← hW]
  clear hW
  refine (heldIntsZ B D m s.1.length x1 c1 h8 (by omega) W HW.out.1).mono ?_
  rintro e w1 ⟨rfl, rfl⟩
  obtain ⟨a1, _⟩ := A0.out.g1
  have HL : Hid (GZ B D W (.slice x2 s.2.length c2) (imarks (m + s.1.length) s.2.length)) := HW.out.2.1
  have hm2 : (m + s.1.length) + s.2.length ≤ 4000000 := by omega
  generalize hq : m + s.1.length = q at *
  have HQ : Hid (m + s.1.length = q) := hq
  clear hq
  have hneg : ¬ ((q : Int) < 0) := by omega
  go_wp2_with fail
  refine (heldIntsZ B D q s.2.length x2 c2 h9 (by omega) W HL.out).mono ?_
  rintro e w2 ⟨rfl, rfl⟩
  generalize hr : q + s.2.length = r at *
  have HR : Hid (q + s.2.length = r) := hr
  clear hr
  have hneg2 : ¬ ((r : Int) < 0) := by omega
  clear a1
  go_wp2
  go_ret
  refine ⟨?_, hwW⟩
  have hq := HQ.out
  have hr := HR.out
  show Ending.returned (Value.int .i64 _) = Ending.returned (Value.int .i64 _)
  congr 2
  omega
end Pg
end Go.Proofs.YtfdlljdljefkfaaGreatDoor

/- Both sides' answer, a state and whether, in one form. -/
namespace Go.Proofs.YtfdlljdljefkfaaGreatDoor
namespace Pg
open Go.ChangeShapes Go.WideShapes Go.ChangeAt Go.RowKit St

def StAns (s : Sta) (q : Bool) (w : World) (e : Ending) (w' : World) : Prop := ∃ x1 y1 x2 y2, e = .returned (.tuple #[.agg #[.slice x1 s.1.length y1, .slice x2 s.2.length y2], .bool q]) ∧ StZ w.heap.size w'.heap.size w' (.slice x1 s.1.length y1) (.slice x2 s.2.length y2) s ∧ Below w.heap.size w w'
theorem st_ans (o : Option Sta) (ho : ∀ x, o = some x → x.1.length ≤ 8 ∧ x.2.length ≤ 8) : ∃ (s : Sta) (q : Bool), s.1.length ≤ 8 ∧ s.2.length ≤ 8 ∧ ∀ w e w', StPost o w e w' → StAns s q w e w' := by
  cases o with
  | none =>
    refine ⟨([], []), false, by simp, by simp, fun w e w' h => ?_⟩
    obtain ⟨⟨t, _, _, _, _, hx, _⟩ | ⟨_, he⟩, hb⟩ := h
    · cases hx
    · exact ⟨none, 0, none, 0, he, StZ.nil _ _ _, hb⟩
  | some x =>
    refine ⟨x, true, (ho x rfl).1, (ho x rfl).2, fun w e w' h => ?_⟩
    obtain ⟨⟨t, x1, y1, x2, y2, hx, he, ha⟩ | ⟨hx, _⟩, hb⟩ := h
    · injection hx with hx
      subst hx
      exact ⟨x1, y1, x2, y2, he, ha.z, hb⟩
    · cases hx
end Pg
end Go.Proofs.YtfdlljdljefkfaaGreatDoor

/- The laws' own state, counted and turned. -/
namespace Go.Proofs.YtfdlljdljefkfaaGreatDoor
namespace Pg
open Go.ChangeShapes Go.WideShapes Go.ChangeAt Go.RowKit St

set_option maxHeartbeats 800000 in
theorem szState (a a' : Option Addr) (n n' cap cap' : Nat) (left : Int) (h0 : 0 ≤ left) (h1 : left ≤ 1048576) (hn : n ≤ 9223372036854775807) (hn' : n' ≤ 9223372036854775807) (w : World) :
    Calls Tryz.prog 5 #[.agg #[.slice a n cap, .slice a' n' cap'], .int .i64 left] w fun e w' => e = .returned (.int .i64 (szR (n + n') left)) ∧ Below w.heap.size w w' := by
  by_cases h : (n : Int) ≤ left
  · by_cases h' : (n' : Int) ≤ left - n
    · rw [szR_yes (n := n + n') (by omega)]
      go_enter Tryz.func5, Tryz.ntmps5
      go_wp2_with fail
      refine (szInts a n cap left h0 h1 hn _).mono ?_
      rw [szR_yes h]
      rintro e w1 ⟨rfl, rfl⟩
      go_wp2_with fail
      refine (szInts a' n' cap' _ (by omega) (by omega) hn' _).mono ?_
      rw [szR_yes h']
      rintro e w1 ⟨rfl, rfl⟩
      go_wp2
      go_ret
      exact ⟨retI (by omega), (Below.refl _ _).alloc (Nat.le_refl _) _⟩
    · rw [szR_no (n := n + n') (by omega)]
      go_enter Tryz.func5, Tryz.ntmps5
      go_wp2_with fail
      refine (szInts a n cap left h0 h1 hn _).mono ?_
      rw [szR_yes h]
      rintro e w1 ⟨rfl, rfl⟩
      go_wp2_with fail
      refine (szInts a' n' cap' _ (by omega) (by omega) hn' _).mono ?_
      rw [szR_no h']
      rintro e w1 ⟨rfl, rfl⟩
      go_wp2
      go_ret
      exact ⟨rfl, (Below.refl _ _).alloc (Nat.le_refl _) _⟩
  · rw [szR_no (n := n + n') (by omega)]
    go_enter Tryz.func5, Tryz.ntmps5
    go_wp2_with fail
    refine (szInts a n cap left h0 h1 hn _).mono ?_
    rw [szR_no h]
    rintro e w1 ⟨rfl, rfl⟩
    go_wp2
    go_ret
    exact ⟨rfl, (Below.refl _ _).alloc (Nat.le_refl _) _⟩
set_option maxRecDepth 100000 in
set_option maxHeartbeats 1000000 in
theorem toState (s : Sta) (x1 x2 : Option Addr) (c1 c2 : Nat) (h1 : s.1.length ≤ 1048576) (h2 : s.2.length ≤ 1048576) (w : World) (hi : SI false 0 w (.slice x1 s.1.length c1) s.1) (hl : SI false 0 w (.slice x2 s.2.length c2) s.2) :
    Calls Tryz.prog 9 #[.agg #[.slice x1 s.1.length c1, .slice x2 s.2.length c2]] w fun e w' => ∃ y1 y2, e = .returned (.agg #[.slice y1 s.1.length s.1.length, .slice y2 s.2.length s.2.length]) ∧ StZ w.heap.size w'.heap.size w' (.slice y1 s.1.length s.1.length) (.slice y2 s.2.length s.2.length) s ∧ Below w.heap.size w w' := by
  have HI : Hid (SI false 0 w (.slice x1 s.1.length c1) s.1) := hi
  have HL : Hid (SI false 0 w (.slice x2 s.2.length c2) s.2) := hl
  clear hi hl
  obtain ⟨W, hW⟩ : ∃ W, W = ((w.alloc (.cells #[.slice x1 s.1.length c1, .slice x2 s.2.length c2] 29)).alloc (.cells #[.slice none 0 0, .slice none 0 0] 32)).alloc (.cells #[.slice none 0 0, .slice none 0 0] 32) := ⟨_, rfl⟩
  have hwW : Below w.heap.size w W := by rw [hW]; exact (((Below.refl _ _).alloc (Nat.le_refl _) _).alloc (by simp) _).alloc (by simp; omega) _
  have A0 : Hid (Cells W w.heap.size [.slice x1 s.1.length c1, .slice x2 s.2.length c2]) := by rw [hW]; exact ((Cells.new w _ rfl _ _).alloc _).alloc _
  have R0 : Hid (Cells W (w.heap.size + 1) [.slice none 0 0, .slice none 0 0]) := by rw [hW]; exact (Cells.new (w.alloc _) _ (by simp) _ _).alloc _
  have O0 : Hid (Cells W (w.heap.size + 1 + 1) [.slice none 0 0, .slice none 0 0]) := by rw [hW]; exact Cells.new ((w.alloc _).alloc _) _ (by simp) _ _
  have HZ : Hid (W.heap.size = w.heap.size + 1 + 1 + 1) := by rw [hW]; show _ = _; simp
  go_enter Tryz.func9, Tryz.ntmps9
  go_wp2_with fail
  rw [← hW]
  clear hW
  refine (toInts x1 c1 s.1 h1 W (SI.rows (SI.on HI.out (Keep.of hwW)))).mono ?_
  rintro e w1 ⟨rfl, r1, m1, z1, hb1⟩
  obtain ⟨G1, hG1⟩ : ∃ G, G = W.heap.size := ⟨_, rfl⟩
  rw [← hG1] at r1 m1 z1
  rw [← hG1]
  have HG1 : Hid (G1 = W.heap.size) := hG1
  have O1 := O0.out.on hb1
  obtain ⟨o0, f0⟩ := O1.g0
  obtain ⟨a1, _⟩ := ((A0.out.on hb1).far ⟨w.heap.size + 1 + 1, 0, none⟩ (.slice (some ⟨G1, 0, none⟩) s.1.length s.1.length) (by simp; omega)).g1
  have hw1 : Below w.heap.size w (w1.setCell ⟨w.heap.size + 1 + 1, 0, none⟩ (.slice (some ⟨G1, 0, none⟩) s.1.length s.1.length)) := (below_over hwW hb1).setCell (p := ⟨w.heap.size + 1 + 1, 0, none⟩) (by simp; omega) _
  have hz1 : W.heap.size ≤ w1.heap.size := hb1.size
  have O2 : Hid (Cells (w1.setCell ⟨w.heap.size + 1 + 1, 0, none⟩ (.slice (some ⟨G1, 0, none⟩) s.1.length s.1.length)) (w.heap.size + 1 + 1) [.slice (some ⟨G1, 0, none⟩) s.1.length s.1.length, .slice none 0 0]) := O1.s0 _
  have R2 : Hid (Cells (w1.setCell ⟨w.heap.size + 1 + 1, 0, none⟩ (.slice (some ⟨G1, 0, none⟩) s.1.length s.1.length)) (w.heap.size + 1) [.slice none 0 0, .slice none 0 0]) := (R0.out.on hb1).far _ _ (by simp)
  have HQ1 : Hid (GZ G1 (G1 + 1) (w1.setCell ⟨w.heap.size + 1 + 1, 0, none⟩ (.slice (some ⟨G1, 0, none⟩) s.1.length s.1.length)) (.slice (some ⟨G1, 0, none⟩) s.1.length s.1.length) s.1) := by
    have hg : GZ G1 (G1 + 1) w1 (.slice (some ⟨G1, 0, none⟩) s.1.length s.1.length) s.1 := .inl ⟨G1, _, rfl, Nat.le_refl _, Nat.lt_succ_self _, z1, r1, m1⟩
    have hk : Keep (w.heap.size + 1 + 1 + 1) w1 (w1.setCell ⟨w.heap.size + 1 + 1, 0, none⟩ (.slice (some ⟨G1, 0, none⟩) s.1.length s.1.length)) := Keep.set w1 (p := ⟨w.heap.size + 1 + 1, 0, none⟩) (by show _ < _; simp) _
    have := HZ.out
    exact hg.moved hk.size fun k k1 k2 hl => hk.block k (by omega) hl
  have hz2 : w1.heap.size = (w1.setCell ⟨w.heap.size + 1 + 1, 0, none⟩ (.slice (some ⟨G1, 0, none⟩) s.1.length s.1.length)).heap.size := by simp
  have HZ2 : Hid (w.heap.size + 1 + 1 + 1 ≤ G1 ∧ G1 < (w1.setCell ⟨w.heap.size + 1 + 1, 0, none⟩ (.slice (some ⟨G1, 0, none⟩) s.1.length s.1.length)).heap.size) := by have := HZ.out; exact ⟨by omega, by omega⟩
  clear r1 m1 z1 hb1 O1 hz2 hz1 hG1
  go_wp2_with fail
  generalize w1.setCell ⟨w.heap.size + 1 + 1, 0, none⟩ (.slice (some ⟨G1, 0, none⟩) s.1.length s.1.length) = w2 at *
  refine (toInts x2 c2 s.2 h2 w2 (SI.rows (SI.on HL.out (Keep.of hw1)))).mono ?_
  rintro e w3 ⟨rfl, r3, m3, z3, hb3⟩
  obtain ⟨G2, hG2⟩ : ∃ G, G = w2.heap.size := ⟨_, rfl⟩
  rw [← hG2] at r3 m3 z3
  rw [← hG2]
  have hzz := HZ2.out
  rw [← hG2] at hzz
  have O3 := O2.out.on hb3
  have R3 := R2.out.on hb3
  obtain ⟨o3, p3⟩ := O3.g1
  have O4 := O3.s1 (.slice (some ⟨G2, 0, none⟩) s.2.length s.2.length)
  have R4 := R3.far ⟨w.heap.size + 1 + 1, 1, none⟩ (.slice (some ⟨G2, 0, none⟩) s.2.length s.2.length) (by simp)
  have R5 := (R4.s0 (.slice (some ⟨G1, 0, none⟩) s.1.length s.1.length)).s1 (.slice (some ⟨G2, 0, none⟩) s.2.length s.2.length)
  obtain ⟨i0, _⟩ := O4.g0
  obtain ⟨i1, _⟩ := O4.g1
  obtain ⟨r0, q0⟩ := R4.g0
  obtain ⟨r1, q1⟩ := R4.g1
  obtain ⟨e0, _⟩ := R5.g0
  obtain ⟨e1, _⟩ := R5.g1
  have HB3 : Hid (Below w.heap.size w w3) := below_over hw1 hb3
  have HGA : Hid (GZ G1 (G1 + 1) w3 (.slice (some ⟨G1, 0, none⟩) s.1.length s.1.length) s.1) := HQ1.out.on hb3
  have HGB : Hid (GZ G2 (G2 + 1) w3 (.slice (some ⟨G2, 0, none⟩) s.2.length s.2.length) s.2) := .inl ⟨G2, _, rfl, Nat.le_refl _, Nat.lt_succ_self _, z3, r3, m3⟩
  have HZ3 : Hid (w.heap.size + 1 + 1 + 1 ≤ G1 ∧ G1 < G2 ∧ G2 < w3.heap.size) := ⟨hzz.1, hzz.2, z3⟩
  clear O3 O4 R3 R4 R5 r3 m3 z3 hb3 hG2 hzz hw1
  go_wp2
  refine bodyPost_ret (v := .agg #[.slice (some ⟨G1, 0, none⟩) s.1.length s.1.length, .slice (some ⟨G2, 0, none⟩) s.2.length s.2.length]) (by simp [results, Tryz.results9, go_sem, e0, e1]) rfl ?_
  have hz := HZ3.out
  have hk : ∀ (u : World) (j i : Nat) (x : Value), j < w.heap.size + 1 + 1 + 1 → Keep (w.heap.size + 1 + 1 + 1) u (u.setCell ⟨j, i, none⟩ x) := fun u j i x hj => Keep.set u (p := ⟨j, i, none⟩) hj x
  have hkk := ((hk w3 (w.heap.size + 1 + 1) 1 (.slice (some ⟨G2, 0, none⟩) s.2.length s.2.length) (by omega)).trans (hk _ (w.heap.size + 1) 0 (.slice (some ⟨G1, 0, none⟩) s.1.length s.1.length) (by omega))).trans (hk _ (w.heap.size + 1) 1 (.slice (some ⟨G2, 0, none⟩) s.2.length s.2.length) (by omega))
  have hbb := ((HB3.out.setCell (p := ⟨w.heap.size + 1 + 1, 1, none⟩) (by simp; omega) (.slice (some ⟨G2, 0, none⟩) s.2.length s.2.length)).setCell (p := ⟨w.heap.size + 1, 0, none⟩) (by simp) (.slice (some ⟨G1, 0, none⟩) s.1.length s.1.length)).setCell (p := ⟨w.heap.size + 1, 1, none⟩) (by simp) (.slice (some ⟨G2, 0, none⟩) s.2.length s.2.length)
  refine ⟨_, _, rfl, ⟨?_, ?_, .inr (by simp [Value.ownBlock]; omega)⟩, hbb⟩
  · exact (HGA.out.moved hkk.size fun k k1 k2 hl => hkk.block k (by omega) hl).weak (by omega) (by have := hkk.size; omega)
  · exact (HGB.out.moved hkk.size fun k k1 k2 hl => hkk.block k (by omega) hl).weak (by omega) (by have := hkk.size; omega)
end Pg
end Go.Proofs.YtfdlljdljefkfaaGreatDoor
