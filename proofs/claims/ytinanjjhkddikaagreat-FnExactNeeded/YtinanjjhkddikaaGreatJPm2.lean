/- What is reached: the specification's Made and LiveMethods; a class put into a list. -/
import Derived.Test.YtinanjjhkddikaaGreatJRx1
import Derived.Test.YtinanjjhkddikaaGreatJLo0
namespace Go.Proofs.YtinanjjhkddikaaGreat
namespace Pg
open Go.ChangeShapes Go.WideShapes Go.ChangeAt Go.RowKit St Wd

theorem lstB_empty {B : Nat} {w : World} (hB : B ≤ w.heap.size) (t : TypeId) : LstB B (w.alloc (.cells #[] t)) (.slice (some ⟨w.heap.size, 0, none⟩) 0 0) [] :=
  ⟨_, 0, rfl, Nat.le_refl _, hB, by simp, fun j x hj => by simp at hj⟩
set_option maxRecDepth 100000 in
set_option maxHeartbeats 2000000 in
theorem specMade_at (B : Nat) (p : Prg) (a : Option Addr) (cap : Nat) (hsp : SmallP p) (w : World) (hp : SK front B w (.slice a p.length cap) p) :
    Calls Tryz.prog 8 #[.agg #[.slice a p.length cap]] w fun e w' => ∃ x, e = .returned x ∧ LstB w.heap.size w' x (madL p) ∧ Below w.heap.size w w' := by
  obtain ⟨W, hW⟩ : ∃ W, W = w.alloc (.cells #[.slice a p.length cap] 30) := ⟨_, rfl⟩
  have hwW : Below w.heap.size w W := by rw [hW]; exact (Below.refl _ _).alloc (Nat.le_refl _) _
  have P0 : Hid (Cells W w.heap.size [.slice a p.length cap]) := by rw [hW]; exact Cells.new w _ rfl _ _
  have HP : Hid (SK front B w (.slice a p.length cap) p) := hp
  have HSP : Hid (SmallP p) := hsp
  clear hp hsp
  go_enter Tryz.func8, Tryz.ntmps8
  have p0 := P0.out.g0.1
  go_upto_region 1 with fail
  rw [← hW]
  clear hW
  go_wp2_with fail
  refine (specProgramOk B p a cap HSP.out W (SK.on HP.out (Keep.of hwW))).mono ?_
  rintro e w1 ⟨rfl, hb1⟩
  have hw1 : Below w.heap.size w w1 := below_over hwW hb1
  clear p0
  have p0 := (P0.out.on hb1).g0.1
  cases hok : okP p
  · have HE : Hid (madL p = []) := by show _ = _; simp [madL, hok]
    clear hok
    go_wp2
    go_ret
    exact ⟨_, rfl, by rw [HE.out]; exact lstB_empty hw1.size _, hw1.alloc hw1.size _⟩
  · have HE : Hid (madL p = risL (madB p) 6) := by show _ = _; simp [madL, hok]
    have HOK : Hid (okP p = true) := hok
    have hpl := (okP_len hok).1
    obtain ⟨bp, po, rfl, _⟩ := HP.out.get (k := 0) (by omega)
    clear hok
    go_wp2_with fail
    refine (l14Reach_at B p bp po cap HOK.out HSP.out w1 (SK.on HP.out (Keep.of hw1))).mono ?_
    rintro e w2 ⟨v1, v2, rfl, h1, h2, hb2⟩
    have H1 : Hid (LstB w1.heap.size w2 v1 (risL (madB p) 6)) := h1
    have hw2 : Below w.heap.size w w2 := below_over hw1 hb2
    have hz1 := hw1.size
    clear h1 h2 hb2
    go_wp2
    go_ret
    refine ⟨_, rfl, ?_, hw2⟩
    rw [HE.out]
    obtain ⟨g, c, hv, hc, hg, hl, hi⟩ := H1.out
    exact ⟨g, c, hv, hc, by omega, hl, hi⟩
set_option maxRecDepth 100000 in
set_option maxHeartbeats 2000000 in
theorem specLive_at (B : Nat) (p : Prg) (a : Option Addr) (cap : Nat) (hsp : SmallP p) (w : World) (hp : SK front B w (.slice a p.length cap) p) :
    Calls Tryz.prog 16 #[.agg #[.slice a p.length cap]] w fun e w' => ∃ x, e = .returned x ∧ LstB w.heap.size w' x (livR p) ∧ Below w.heap.size w w' := by
  obtain ⟨W, hW⟩ : ∃ W, W = w.alloc (.cells #[.slice a p.length cap] 30) := ⟨_, rfl⟩
  have hwW : Below w.heap.size w W := by rw [hW]; exact (Below.refl _ _).alloc (Nat.le_refl _) _
  have P0 : Hid (Cells W w.heap.size [.slice a p.length cap]) := by rw [hW]; exact Cells.new w _ rfl _ _
  have HP : Hid (SK front B w (.slice a p.length cap) p) := hp
  have HSP : Hid (SmallP p) := hsp
  clear hp hsp
  go_enter Tryz.func16, Tryz.ntmps16
  have p0 := P0.out.g0.1
  go_upto_region 1 with fail
  rw [← hW]
  clear hW
  go_wp2_with fail
  refine (specProgramOk B p a cap HSP.out W (SK.on HP.out (Keep.of hwW))).mono ?_
  rintro e w1 ⟨rfl, hb1⟩
  have hw1 : Below w.heap.size w w1 := below_over hwW hb1
  clear p0
  have p0 := (P0.out.on hb1).g0.1
  cases hok : okP p
  · have HE : Hid (livR p = []) := by show _ = _; simp [livR, hok]
    clear hok
    go_wp2
    go_ret
    exact ⟨_, rfl, by rw [HE.out]; exact lstB_empty hw1.size _, hw1.alloc hw1.size _⟩
  · have HE : Hid (livR p = risL (livB p) 120) := by show _ = _; simp [livR, hok]
    have HOK : Hid (okP p = true) := hok
    have hpl := (okP_len hok).1
    obtain ⟨bp, po, rfl, _⟩ := HP.out.get (k := 0) (by omega)
    clear hok
    go_wp2_with fail
    refine (l14Reach_at B p bp po cap HOK.out HSP.out w1 (SK.on HP.out (Keep.of hw1))).mono ?_
    rintro e w2 ⟨v1, v2, rfl, h1, h2, hb2⟩
    have H2 : Hid (LstB w1.heap.size w2 v2 (risL (livB p) 120)) := h2
    have hw2 : Below w.heap.size w w2 := below_over hw1 hb2
    have hz1 := hw1.size
    clear h1 h2 hb2
    go_wp2
    go_ret
    refine ⟨_, rfl, ?_, hw2⟩
    rw [HE.out]
    obtain ⟨g, c, hv, hc, hg, hl, hi⟩ := H2.out
    exact ⟨g, c, hv, hc, by omega, hl, hi⟩
end Pg
end Go.Proofs.YtinanjjhkddikaaGreat

/- Contracts of the laws' own marking of programs: what it leaves alone. -/
namespace Go.Proofs.YtinanjjhkddikaaGreat
namespace Pg
open Go.ChangeShapes Go.WideShapes Go.ChangeAt Go.RowKit St

/-- From u to v numbers alone have turned, in blocks from B1 on and below B2. -/
structure Mrk (B1 B2 : Nat) (u v : World) : Prop where
  os : v.os = u.os
  tape : v.tape = u.tape
  output : v.output = u.output
  size : u.heap.size ≤ v.heap.size
  far : ∀ k, k < u.heap.size → (k < B1 ∨ B2 ≤ k) → v.heap[k]? = u.heap[k]?
  cell : ∀ p : Addr, p.block < u.heap.size → v.cell? p = u.cell? p ∨ ((∃ x, u.cell? p = some (.int .i64 x)) ∧ ∃ y, v.cell? p = some (.int .i64 y))
  frz : ∀ p : Addr, p.block < u.heap.size → v.frozen? p = u.frozen? p
theorem Mrk.refl (B1 B2 : Nat) (u : World) : Mrk B1 B2 u u := ⟨rfl, rfl, rfl, Nat.le_refl _, fun _ _ _ => rfl, fun _ _ => .inl rfl, fun _ _ => rfl⟩
theorem Mrk.trans {B1 B2 : Nat} {u v w : World} (h : Mrk B1 B2 u v) (k : Mrk B1 B2 v w) : Mrk B1 B2 u w :=
  ⟨k.os.trans h.os, k.tape.trans h.tape, k.output.trans h.output, Nat.le_trans h.size k.size, fun i hi hf => (k.far i (Nat.lt_of_lt_of_le hi h.size) hf).trans (h.far i hi hf), fun p hp => by
    have hp' := Nat.lt_of_lt_of_le hp h.size
    rcases h.cell p hp with h1 | ⟨h1, y, h2⟩
    · rcases k.cell p hp' with k1 | ⟨⟨x, k1⟩, k2⟩
      · exact .inl (k1.trans h1)
      · exact .inr ⟨⟨x, h1 ▸ k1⟩, k2⟩
    · rcases k.cell p hp' with k1 | ⟨_, k2⟩
      · exact .inr ⟨h1, y, k1.trans h2⟩
      · exact .inr ⟨h1, k2⟩, fun p hp => (k.frz p (Nat.lt_of_lt_of_le hp h.size)).trans (h.frz p hp)⟩
theorem Mrk.set {B1 B2 : Nat} (u : World) {p : Addr} (h1 : B1 ≤ p.block) (h2 : p.block < B2) {x : Int} (hx : u.cell? p = some (.int .i64 x)) (y : Int) : Mrk B1 B2 u (u.setCell p (.int .i64 y)) := by
  have hb := (Below.refl 0 u).setCell (p := p) (Nat.zero_le _) (.int .i64 y)
  refine ⟨hb.os, hb.tape, hb.output, hb.size, fun k _ hf => Below.heap_setCell u p _ k (by omega), fun q hq => ?_, fun q _ => by simp⟩
  by_cases e : p = q
  · subst e
    exact .inr ⟨⟨x, hx⟩, y, World.cell?_setCell_same _ _ _ hx⟩
  · exact .inl (World.cell?_setCell_other _ _ _ _ e)
theorem Mrk.of {B1 B2 : Nat} {u v : World} (h : Below u.heap.size u v) : Mrk B1 B2 u v :=
  ⟨h.os, h.tape, h.output, h.size, fun k hk _ => h.block k hk, fun _ hp => .inl (h.cell hp), fun _ hp => h.frozen hp⟩
theorem Mrk.below {B1 B2 B : Nat} {u v : World} (h : Mrk B1 B2 u v) (hB : B ≤ B1) (hu : B ≤ u.heap.size) : Below B u v :=
  ⟨h.os, h.tape, h.output, h.size, fun k hk => h.far k (by omega) (.inl (by omega))⟩
theorem Mrk.keep {B1 B2 : Nat} {u v : World} (h : Mrk B1 B2 u v) : Keep B2 u v := ⟨h.size, fun k hk hl => h.far k hl (.inr hk)⟩
theorem Mrk.slice {B1 B2 : Nat} {u v : World} (h : Mrk B1 B2 u v) {p : Addr} {a : Option Addr} {n c : Nat} (hp : u.cell? p = some (.slice a n c)) : v.cell? p = some (.slice a n c) := by
  rcases h.cell p (cell_lt hp) with h1 | ⟨⟨x, h1⟩, _⟩
  · exact h1.trans hp
  · rw [hp] at h1; simp at h1
theorem Mrk.int {B1 B2 : Nat} {u v : World} (h : Mrk B1 B2 u v) {p : Addr} {x : Int} (hp : u.cell? p = some (.int .i64 x)) : ∃ y, v.cell? p = some (.int .i64 y) := by
  rcases h.cell p (cell_lt hp) with h1 | ⟨_, h2⟩
  · exact ⟨x, h1.trans hp⟩
  · exact h2
/-- A number that may be written. -/
def NumW (w : World) (p : Addr) : Prop := (∃ x, w.cell? p = some (.int .i64 x)) ∧ w.frozen? p = false
theorem NumW.mrk {B1 B2 : Nat} {u v : World} {p : Addr} (h : NumW u p) (hm : Mrk B1 B2 u v) : NumW v p := by
  obtain ⟨⟨x, hx⟩, hf⟩ := h
  exact ⟨hm.int hx, (hm.frz p (cell_lt hx)).trans hf⟩
/-- A slice of n elements, each of sz numbers that may be written, in blocks from B1 on and below B2. -/
def ShN (sz B1 B2 : Nat) (w : World) (v : Value) (n : Nat) : Prop :=
  ∃ a cap, v = .slice a n cap ∧ (0 < n → ∃ b o, a = some ⟨b, o, none⟩ ∧ B1 ≤ b ∧ b < B2 ∧ ∀ j, j < n * sz → NumW w ⟨b, o + j, none⟩)
theorem ShN.mrk {sz B1 B2 : Nat} {u v : World} {x : Value} {n : Nat} (h : ShN sz B1 B2 u x n) (hm : Mrk B1 B2 u v) : ShN sz B1 B2 v x n := by
  obtain ⟨a, cap, hv, h⟩ := h
  refine ⟨a, cap, hv, fun h0 => ?_⟩
  obtain ⟨b, o, ha, h1, h2, h3⟩ := h h0
  exact ⟨b, o, ha, h1, h2, fun j hj => (h3 j hj).mrk hm⟩
theorem ShN.form {sz B1 B2 : Nat} {u : World} {x : Value} {n : Nat} (h : ShN sz B1 B2 u x n) : ∃ a cap, x = .slice a n cap := by
  obtain ⟨a, cap, hv, _⟩ := h
  exact ⟨a, cap, hv⟩
def ShMat (B1 B2 : Nat) (w : World) (b o : Nat) (m : Meth) : Prop :=
  ∃ va vc, NumW w ⟨b, o, none⟩ ∧ w.cell? ⟨b, o + 1, none⟩ = some va ∧ NumW w ⟨b, o + 2, none⟩ ∧ w.cell? ⟨b, o + 3, none⟩ = some vc ∧ ShN 1 B1 B2 w va m.args.length ∧ ShN 3 B1 B2 w vc m.code.length
theorem ShMat.mrk {B1 B2 : Nat} {u v : World} {b o : Nat} {m : Meth} (h : ShMat B1 B2 u b o m) (hm : Mrk B1 B2 u v) : ShMat B1 B2 v b o m := by
  obtain ⟨va, vc, h0, h1, h2, h3, h4, h5⟩ := h
  obtain ⟨a1, c1, rfl⟩ := h4.form
  obtain ⟨a2, c2, rfl⟩ := h5.form
  exact ⟨_, _, h0.mrk hm, hm.slice h1, h2.mrk hm, hm.slice h3, h4.mrk hm, h5.mrk hm⟩
def ShM (B1 B2 : Nat) (w : World) (v : Value) (l : List Meth) : Prop :=
  ∃ a cap, v = .slice a l.length cap ∧ (0 < l.length → ∃ b o, a = some ⟨b, o, none⟩ ∧ B1 ≤ b ∧ b < B2 ∧ ∀ j x, l[j]? = some x → ShMat B1 B2 w b (o + j * 4) x)
theorem ShM.mrk {B1 B2 : Nat} {u v : World} {x : Value} {l : List Meth} (h : ShM B1 B2 u x l) (hm : Mrk B1 B2 u v) : ShM B1 B2 v x l := by
  obtain ⟨a, cap, hv, h⟩ := h
  refine ⟨a, cap, hv, fun h0 => ?_⟩
  obtain ⟨b, o, ha, h1, h2, h3⟩ := h h0
  exact ⟨b, o, ha, h1, h2, fun j y hj => (h3 j y hj).mrk hm⟩
theorem ShM.form {B1 B2 : Nat} {u : World} {x : Value} {l : List Meth} (h : ShM B1 B2 u x l) : ∃ a cap, x = .slice a l.length cap := by
  obtain ⟨a, cap, hv, _⟩ := h
  exact ⟨a, cap, hv⟩
def ShKat (B1 B2 : Nat) (w : World) (b o : Nat) (c : Cls) : Prop :=
  ∃ vf vm, NumW w ⟨b, o, none⟩ ∧ w.cell? ⟨b, o + 1, none⟩ = some vf ∧ w.cell? ⟨b, o + 2, none⟩ = some vm ∧ ShN 1 B1 B2 w vf c.fields.length ∧ ShM B1 B2 w vm c.meths
theorem ShKat.mrk {B1 B2 : Nat} {u v : World} {b o : Nat} {c : Cls} (h : ShKat B1 B2 u b o c) (hm : Mrk B1 B2 u v) : ShKat B1 B2 v b o c := by
  obtain ⟨va, vc, h0, h1, h3, h4, h5⟩ := h
  obtain ⟨a1, c1, rfl⟩ := h4.form
  obtain ⟨a2, c2, rfl⟩ := h5.form
  exact ⟨_, _, h0.mrk hm, hm.slice h1, hm.slice h3, h4.mrk hm, h5.mrk hm⟩
def ShK (B1 B2 : Nat) (w : World) (v : Value) (l : Prg) : Prop :=
  ∃ a cap, v = .slice a l.length cap ∧ (0 < l.length → ∃ b o, a = some ⟨b, o, none⟩ ∧ B1 ≤ b ∧ b < B2 ∧ ∀ j x, l[j]? = some x → ShKat B1 B2 w b (o + j * 3) x)
theorem ShK.mrk {B1 B2 : Nat} {u v : World} {x : Value} {l : Prg} (h : ShK B1 B2 u x l) (hm : Mrk B1 B2 u v) : ShK B1 B2 v x l := by
  obtain ⟨a, cap, hv, h⟩ := h
  refine ⟨a, cap, hv, fun h0 => ?_⟩
  obtain ⟨b, o, ha, h1, h2, h3⟩ := h h0
  exact ⟨b, o, ha, h1, h2, fun j y hj => (h3 j y hj).mrk hm⟩

/-- The shape of a fresh program. -/
theorem shI_of {B : Nat} {w : World} {v : Value} {l : List Int} (h : SI true B w v l) : ShN 1 B w.heap.size w v l.length := by
  obtain ⟨a, cap, hv, _, h⟩ := h
  refine ⟨a, cap, hv, fun h0 => ?_⟩
  obtain ⟨b, o, ha, hB, ⟨hl, hf⟩, hx⟩ := h h0
  refine ⟨b, o, ha, hB, hl, fun j hj => ?_⟩
  have hj' : j < l.length := by omega
  have := hx j _ (List.getElem?_eq_getElem hj')
  rw [Nat.mul_one] at this
  exact ⟨⟨_, this⟩, hf rfl j hj⟩
theorem row_num {w : World} {g n : Nat} {l : List Tx.Ins} (hn : n = l.length) (h : Row w g 0 l) (hr : Room w g (l.length * 3)) : ∀ j, j < n * 3 → NumW w ⟨g, 0 + j, none⟩ := by
  intro j hj
  have hq : j / 3 < l.length := by omega
  obtain ⟨c0, c1, c2⟩ := h (j / 3) _ (List.getElem?_eq_getElem hq)
  refine ⟨?_, by rw [Nat.zero_add]; exact (hr j (by omega)).2⟩
  have hm : j % 3 = 0 ∨ j % 3 = 1 ∨ j % 3 = 2 := by omega
  rcases hm with hm | hm | hm
  · have e : 0 + j / 3 * 3 = 0 + j := by omega
    rw [e] at c0; exact ⟨_, c0⟩
  · have e : 0 + j / 3 * 3 + 1 = 0 + j := by omega
    rw [e] at c1; exact ⟨_, c1⟩
  · have e : 0 + j / 3 * 3 + 2 = 0 + j := by omega
    rw [e] at c2; exact ⟨_, c2⟩
theorem shC_of {B : Nat} {w : World} {v : Value} {l : List Tx.Ins} (h : CS B w v l) : ShN 3 B w.heap.size w v l.length := by
  obtain ⟨g, cap, hv, h1, h2, h3, h4⟩ := h
  exact ⟨_, cap, hv, fun _ => ⟨g, 0, rfl, h1, h2, row_num rfl h3 h4⟩⟩
theorem shM_of {B : Nat} {w : World} {v : Value} {l : List Meth} (h : SM front B w v l) : ShM B w.heap.size w v l := by
  obtain ⟨a, cap, hv, _, h⟩ := h
  refine ⟨a, cap, hv, fun h0 => ?_⟩
  obtain ⟨b, o, ha, hB, ⟨hl, hf⟩, hx⟩ := h h0
  refine ⟨b, o, ha, hB, hl, fun j x hj => ?_⟩
  have hjl : j < l.length := (List.getElem?_eq_some_iff.1 hj).1
  have f0 := hf rfl (j * 4) (by omega)
  have f2 := hf rfl (j * 4 + 2) (by omega)
  obtain ⟨va, vc, c0, c1, c2, c3, hv1, hv2⟩ := hx j x hj
  exact ⟨va, vc, ⟨⟨_, c0⟩, f0⟩, c1, ⟨⟨_, c2⟩, by rw [Nat.add_assoc]; exact f2⟩, c3, shI_of hv1, shC_of hv2⟩
theorem shK_of {B : Nat} {w : World} {v : Value} {l : Prg} (h : SK front B w v l) : ShK B w.heap.size w v l := by
  obtain ⟨a, cap, hv, _, h⟩ := h
  refine ⟨a, cap, hv, fun h0 => ?_⟩
  obtain ⟨b, o, ha, hB, ⟨hl, hf⟩, hx⟩ := h h0
  refine ⟨b, o, ha, hB, hl, fun j x hj => ?_⟩
  have hjl : j < l.length := (List.getElem?_eq_some_iff.1 hj).1
  have f0 := hf rfl (j * 3) (by omega)
  obtain ⟨va, vc, c0, c1, c2, hv1, hv2⟩ := hx j x hj
  exact ⟨va, vc, ⟨⟨_, c0⟩, f0⟩, c1, c2, shI_of hv1, shM_of hv2⟩

/-- How many numbers are marked. -/
def cntM (m : Meth) : Nat := 2 + m.args.length + 3 * m.code.length
def cntMs (ms : List Meth) : Nat := sumN (ms.map cntM)
def cntC (c : Cls) : Nat := 1 + c.fields.length + cntMs c.meths
def cntP (p : Prg) : Nat := sumN (p.map cntC)
theorem sumN_lin {α : Type} {f g : α → Nat} (l : List α) (h : ∀ x ∈ l, f x ≤ 3 + 3 * g x) : sumN (l.map f) ≤ 3 * (l.length + sumN (l.map g)) := by
  induction l with
  | nil => simp [sumN]
  | cons x l ih =>
    have h1 := h x (by simp)
    have h2 := ih (fun y hy => h y (by simp [hy]))
    simp only [sumN, List.map_cons, List.foldr_cons, List.length_cons] at h2 ⊢
    omega
theorem cntMs_le (ms : List Meth) : cntMs ms ≤ 3 * szMs ms := sumN_lin ms (fun m _ => by unfold cntM szM; omega)
theorem cntP_le (p : Prg) : cntP p ≤ 3 * szP p := sumN_lin p (fun c _ => by have := cntMs_le c.meths; unfold cntC szC; omega)

set_option maxRecDepth 100000 in
set_option maxHeartbeats 1000000 in
theorem markInts' (B1 B2 : Nat) (a : Option Addr) (cap m n : Nat) (hm : m + n ≤ 4000000) (w : World) (hs : ShN 1 B1 B2 w (.slice a n cap) n) :
    Calls Tryz.prog 14 #[.slice a n cap, .int .i64 m] w fun e w' => e = .returned (.int .i64 ((m + n : Nat) : Int)) ∧ Mrk B1 B2 w w' := by
  have HS : Hid (ShN 1 B1 B2 w (.slice a n cap) n) := hs
  clear hs
  go_enter Tryz.func14, Tryz.ntmps14
  go_wp2
  go_loopw [1, 5] (fun q i wr => ∃ k : Nat, k ≤ n ∧ i = .int .i64 k ∧ q = .int .i64 ((m : Int) + (k : Int)) ∧ Hid (Mrk B1 B2 w wr)) (fun _ i _ => n - (intOf i).toNat)
  case atStart => exact ⟨0, Nat.zero_le _, rfl, by simp, Mrk.refl _ _ _⟩
  case round =>
    obtain ⟨k, hk, rfl, rfl, hon⟩ := hrel
    by_cases hlt : k < n
    · have hki : (k : Int) < (n : Int) := by omega
      obtain ⟨a', c', he, hx⟩ := HS.out.mrk hon.out
      injection he with e1 e2 e3
      subst e1
      obtain ⟨b, o, rfl, h1, h2, h3⟩ := hx (by omega)
      obtain ⟨⟨x0, d0⟩, f0⟩ := h3 k (by omega)
      have HNX : Hid (Mrk B1 B2 w (wr.setCell ⟨b, o + k, none⟩ (.int .i64 ((m : Int) + (k : Int))))) := hon.out.trans (Mrk.set wr (p := ⟨b, o + k, none⟩) h1 h2 d0 _)
      clear hx h3
      go_wp2
      go_roundw
      case rel => exact ⟨k + 1, by omega, by go_num, by go_num, HNX.out⟩
      case measure => simp [intOf]; omega
    · have HKN : Hid (k = n) := by show k = n; omega
      go_wp2
      go_ret
      exact ⟨by rw [← HKN.out]; push_cast; rfl, hon.out⟩

set_option maxRecDepth 100000 in
set_option maxHeartbeats 1000000 in
theorem markInsns' (B1 B2 : Nat) (a : Option Addr) (cap m n : Nat) (hm : m + 3 * n ≤ 4000000) (w : World) (hs : ShN 3 B1 B2 w (.slice a n cap) n) :
    Calls Tryz.prog 72 #[.slice a n cap, .int .i64 m] w fun e w' => e = .returned (.int .i64 ((m + 3 * n : Nat) : Int)) ∧ Mrk B1 B2 w w' := by
  have HS : Hid (ShN 3 B1 B2 w (.slice a n cap) n) := hs
  clear hs
  go_enter Tryz.func72, Tryz.ntmps72
  go_wp2
  go_loopw [1, 5] (fun q i wr => ∃ k : Nat, k ≤ n ∧ i = .int .i64 k ∧ q = .int .i64 ((m : Int) + 3 * (k : Int)) ∧ Hid (Mrk B1 B2 w wr)) (fun _ i _ => n - (intOf i).toNat)
  case atStart => exact ⟨0, Nat.zero_le _, rfl, by simp, Mrk.refl _ _ _⟩
  case round =>
    obtain ⟨k, hk, rfl, rfl, hon⟩ := hrel
    by_cases hlt : k < n
    · have hki : (k : Int) < (n : Int) := by omega
      obtain ⟨a', c', he, hx⟩ := HS.out.mrk hon.out
      injection he with e1 e2 e3
      subst e1
      obtain ⟨b, o, rfl, h1, h2, h3⟩ := hx (by omega)
      obtain ⟨⟨x0, d0⟩, f0⟩ := h3 (k * 3) (by omega)
      obtain ⟨⟨x1, d1⟩, f1⟩ := h3 (k * 3 + 1) (by omega)
      obtain ⟨⟨x2, d2⟩, f2⟩ := h3 (k * 3 + 2) (by omega)
      rw [← Nat.add_assoc] at d1 f1 d2 f2
      have M1 := Mrk.set (B1 := B1) (B2 := B2) wr (p := ⟨b, o + k * 3, none⟩) h1 h2 d0 ((m : Int) + 3 * (k : Int))
      obtain ⟨y1, e1⟩ := M1.int d1
      obtain ⟨y2, e2⟩ := M1.int d2
      have M2 := Mrk.set (B1 := B1) (B2 := B2) _ (p := ⟨b, o + k * 3 + 1, none⟩) h1 h2 e1 ((m : Int) + 3 * (k : Int) + 1)
      obtain ⟨y3, e3⟩ := M2.int e2
      have M3 := Mrk.set (B1 := B1) (B2 := B2) _ (p := ⟨b, o + k * 3 + 2, none⟩) h1 h2 e3 ((m : Int) + 3 * (k : Int) + 1 + 1)
      have HNX : Hid (Mrk B1 B2 w (((wr.setCell ⟨b, o + k * 3, none⟩ (.int .i64 ((m : Int) + 3 * (k : Int)))).setCell ⟨b, o + k * 3 + 1, none⟩ (.int .i64 ((m : Int) + 3 * (k : Int) + 1))).setCell ⟨b, o + k * 3 + 2, none⟩ (.int .i64 ((m : Int) + 3 * (k : Int) + 1 + 1)))) := hon.out.trans ((M1.trans M2).trans M3)
      clear hx h3 M1 M2 M3
      go_wp2
      go_roundw
      case rel => exact ⟨k + 1, by omega, by go_num, by go_num, HNX.out⟩
      case measure => simp [intOf]; omega
    · have HKN : Hid (k = n) := by show k = n; omega
      go_wp2
      go_ret
      exact ⟨by rw [← HKN.out]; push_cast; rfl, hon.out⟩
end Pg
end Go.Proofs.YtinanjjhkddikaaGreat

/- Contracts of the laws' own marking of programs: methods, classes, programs. -/
namespace Go.Proofs.YtinanjjhkddikaaGreat
namespace Pg
open Go.ChangeShapes Go.WideShapes Go.ChangeAt Go.RowKit St

theorem ShM.at {B1 B2 : Nat} {w : World} {a : Option Addr} {n cap : Nat} {l : List Meth} (h : ShM B1 B2 w (.slice a n cap) l) {k : Nat} (hk : k < l.length) : ∃ b o, a = some ⟨b, o, none⟩ ∧ B1 ≤ b ∧ b < B2 ∧ ShMat B1 B2 w b (o + k * 4) l[k] := by
  obtain ⟨a', c', he, hx⟩ := h
  injection he with e1 e2 e3
  subst e1
  obtain ⟨b, o, ha, h1, h2, h3⟩ := hx (by omega)
  exact ⟨b, o, ha, h1, h2, h3 k _ (List.getElem?_eq_getElem hk)⟩
theorem ShK.at {B1 B2 : Nat} {w : World} {a : Option Addr} {n cap : Nat} {l : Prg} (h : ShK B1 B2 w (.slice a n cap) l) {k : Nat} (hk : k < l.length) : ∃ b o, a = some ⟨b, o, none⟩ ∧ B1 ≤ b ∧ b < B2 ∧ ShKat B1 B2 w b (o + k * 3) l[k] := by
  obtain ⟨a', c', he, hx⟩ := h
  injection he with e1 e2 e3
  subst e1
  obtain ⟨b, o, ha, h1, h2, h3⟩ := hx (by omega)
  exact ⟨b, o, ha, h1, h2, h3 k _ (List.getElem?_eq_getElem hk)⟩
theorem cnt_step {ms : List Meth} {k : Nat} (hk : k < ms.length) : cntMs (ms.take (k + 1)) = cntMs (ms.take k) + cntM ms[k] := sumN_take_succ _ ms k hk
theorem cnt_take (ms : List Meth) (k : Nat) : cntMs (ms.take k) ≤ cntMs ms := sumN_take_le _ ms k
theorem cntP_step {p : Prg} {k : Nat} (hk : k < p.length) : cntP (p.take (k + 1)) = cntP (p.take k) + cntC p[k] := sumN_take_succ _ p k hk
theorem cntP_take (p : Prg) (k : Nat) : cntP (p.take k) ≤ cntP p := sumN_take_le _ p k

set_option maxRecDepth 100000 in
set_option maxHeartbeats 2000000 in
theorem markMethods' (B1 B2 : Nat) (a : Option Addr) (cap q : Nat) (ms : List Meth) (hn : ms.length ≤ 1048576) (hq : q + cntMs ms ≤ 4000000) (w : World) (hs : ShM B1 B2 w (.slice a ms.length cap) ms) :
    Calls Tryz.prog 50 #[.slice a ms.length cap, .int .i64 q] w fun e w' => e = .returned (.int .i64 ((q + cntMs ms : Nat) : Int)) ∧ Mrk B1 B2 w w' := by
  have HS : Hid (ShM B1 B2 w (.slice a ms.length cap) ms) := hs
  clear hs
  go_enter Tryz.func50, Tryz.ntmps50
  go_wp2
  go_loopw [1, 5] (fun v i wr => ∃ k c : Nat, k ≤ ms.length ∧ i = .int .i64 k ∧ v = .int .i64 c ∧ Hid (c = q + cntMs (ms.take k)) ∧ Hid (Mrk B1 B2 w wr)) (fun _ i _ => ms.length - (intOf i).toNat)
  case atStart => exact ⟨0, q, Nat.zero_le _, rfl, rfl, by show _ = _; simp [cntMs, sumN], Mrk.refl _ _ _⟩
  case round =>
    obtain ⟨k, c, hk, rfl, rfl, hc, hon⟩ := hrel
    by_cases hlt : k < ms.length
    · have hki : (k : Int) < (ms.length : Int) := by omega
      have HST : Hid (cntMs (ms.take (k + 1)) = cntMs (ms.take k) + cntM ms[k]) := cnt_step hlt
      have hbd : c + cntM ms[k] ≤ 4000000 := by
        have h1 := HST.out
        have h2 := cnt_take ms (k + 1)
        have h3 := hc.out
        omega
      have HS0 : Hid (ShM B1 B2 wr (.slice a ms.length cap) ms) := HS.out.mrk hon.out
      obtain ⟨b, o, rfl, h1, h2, va0, vc0, ⟨⟨x0, d0⟩, f0⟩, _⟩ := HS0.out.at hlt
      have HAT : Hid (∀ u, Mrk B1 B2 wr u → ShMat B1 B2 u b (o + k * 4) ms[k]) := fun u hu => by
        obtain ⟨b', o', he, _, _, hm⟩ := (HS0.out.mrk hu).at hlt
        simp at he
        obtain ⟨rfl, rfl⟩ := he
        exact hm
      generalize ms[k] = m at *
      have em : cntM m = 2 + m.args.length + 3 * m.code.length := rfl
      have M1 : Hid (Mrk B1 B2 wr (wr.setCell ⟨b, o + k * 4, none⟩ (.int .i64 c))) := Mrk.set wr (p := ⟨b, o + k * 4, none⟩) h1 h2 d0 c
      obtain ⟨va, vc, _, c1, _, _, hva, _⟩ := HAT.out _ M1.out
      obtain ⟨a1, y1, rfl⟩ := hva.form
      have HVA : Hid (ShN 1 B1 B2 (wr.setCell ⟨b, o + k * 4, none⟩ (.int .i64 c)) (.slice a1 m.args.length y1) m.args.length) := hva
      clear hva HS0
      go_wp2_with fail
      have e1 : ((c : Int) + 1) = ((c + 1 : Nat) : Int) := by omega
      rw [e1]
      clear e1
      refine (markInts' B1 B2 a1 y1 (c + 1) m.args.length (by omega) _ HVA.out).mono ?_
      rintro e w2 ⟨rfl, hm2⟩
      have M2 : Hid (Mrk B1 B2 wr w2) := M1.out.trans hm2
      clear hm2 c1 d0 f0 HVA M1
      obtain ⟨_, _, _, _, ⟨⟨x2, d2⟩, f2⟩, _⟩ := HAT.out _ M2.out
      have M3 : Hid (Mrk B1 B2 wr (w2.setCell ⟨b, o + k * 4 + 2, none⟩ (.int .i64 ((c + 1 + m.args.length : Nat) : Int)))) := M2.out.trans (Mrk.set w2 (p := ⟨b, o + k * 4 + 2, none⟩) h1 h2 d2 _)
      obtain ⟨va3, vc3, _, _, _, c3, _, hvc⟩ := HAT.out _ M3.out
      obtain ⟨a3, y3, rfl⟩ := hvc.form
      have HVC : Hid (ShN 3 B1 B2 (w2.setCell ⟨b, o + k * 4 + 2, none⟩ (.int .i64 ((c + 1 + m.args.length : Nat) : Int))) (.slice a3 m.code.length y3) m.code.length) := hvc
      clear hvc
      generalize hcc : c + 1 + m.args.length = cc at *
      have HCC : Hid (c + 1 + m.args.length = cc) := hcc
      have hcc2 : cc ≤ 4000000 := by omega
      have hcc3 : cc + 1 + 3 * m.code.length ≤ 4000000 := by omega
      clear hcc
      go_wp2_with fail
      have e2 : ((cc : Int) + 1) = ((cc + 1 : Nat) : Int) := by omega
      rw [e2]
      clear e2
      refine (markInsns' B1 B2 a3 y3 (cc + 1) m.code.length hcc3 _ HVC.out).mono ?_
      rintro e w4 ⟨rfl, hm4⟩
      have M4 : Hid (Mrk B1 B2 w w4) := hon.out.trans (M3.out.trans hm4)
      have HC4 : Hid (cc + 1 + 3 * m.code.length = q + cntMs (ms.take (k + 1))) := by
        show _ = _
        have h1 := HST.out
        have h2 := hc.out
        have h3 := HCC.out
        omega
      clear hm4 c3 d2 f2 HVC M2 M3 HAT hon HST hc HCC
      generalize cc + 1 + 3 * m.code.length = c5 at *
      go_wp2
      go_roundw
      case rel => exact ⟨k + 1, c5, by omega, by go_num, rfl, HC4.out, M4.out⟩
      case measure => simp [intOf]; omega
    · have HKN : Hid (q + cntMs ms = c) := by
        show _ = _
        have h := hc.out
        rw [List.take_of_length_le (by omega)] at h
        exact h.symm
      go_wp2
      go_ret
      exact ⟨retI (by rw [HKN.out]), hon.out⟩

set_option maxRecDepth 100000 in
set_option maxHeartbeats 2000000 in
theorem markClasses' (B1 B2 : Nat) (a : Option Addr) (cap q : Nat) (ms : Prg) (hsm : SmallP ms) (hq : q + cntP ms ≤ 4000000) (w : World) (hs : ShK B1 B2 w (.slice a ms.length cap) ms) :
    Calls Tryz.prog 29 #[.slice a ms.length cap, .int .i64 q] w fun e w' => e = .returned (.int .i64 ((q + cntP ms : Nat) : Int)) ∧ Mrk B1 B2 w w' := by
  have HS : Hid (ShK B1 B2 w (.slice a ms.length cap) ms) := hs
  have hn := hsm.1
  have HSM : Hid (SmallP ms) := hsm
  clear hs hsm
  go_enter Tryz.func29, Tryz.ntmps29
  go_wp2
  go_loopw [1, 5] (fun v i wr => ∃ k c : Nat, k ≤ ms.length ∧ i = .int .i64 k ∧ v = .int .i64 c ∧ Hid (c = q + cntP (ms.take k)) ∧ Hid (Mrk B1 B2 w wr)) (fun _ i _ => ms.length - (intOf i).toNat)
  case atStart => exact ⟨0, q, Nat.zero_le _, rfl, rfl, by show _ = _; simp [cntP, sumN], Mrk.refl _ _ _⟩
  case round =>
    obtain ⟨k, c, hk, rfl, rfl, hc, hon⟩ := hrel
    by_cases hlt : k < ms.length
    · have hki : (k : Int) < (ms.length : Int) := by omega
      have HST : Hid (cntP (ms.take (k + 1)) = cntP (ms.take k) + cntC ms[k]) := cntP_step hlt
      have hbd : c + cntC ms[k] ≤ 4000000 := by
        have h1 := HST.out
        have h2 := cntP_take ms (k + 1)
        have h3 := hc.out
        omega
      have hml := (HSM.out.2 _ (List.getElem_mem hlt)).2.1
      have HS0 : Hid (ShK B1 B2 wr (.slice a ms.length cap) ms) := HS.out.mrk hon.out
      obtain ⟨b, o, rfl, h1, h2, va0, vc0, ⟨⟨x0, d0⟩, f0⟩, _⟩ := HS0.out.at hlt
      have HAT : Hid (∀ u, Mrk B1 B2 wr u → ShKat B1 B2 u b (o + k * 3) ms[k]) := fun u hu => by
        obtain ⟨b', o', he, _, _, hm⟩ := (HS0.out.mrk hu).at hlt
        simp at he
        obtain ⟨rfl, rfl⟩ := he
        exact hm
      generalize ms[k] = m at *
      have em : cntC m = 1 + m.fields.length + cntMs m.meths := rfl
      have M1 : Hid (Mrk B1 B2 wr (wr.setCell ⟨b, o + k * 3, none⟩ (.int .i64 c))) := Mrk.set wr (p := ⟨b, o + k * 3, none⟩) h1 h2 d0 c
      obtain ⟨va, vc, _, c1, _, hva, _⟩ := HAT.out _ M1.out
      obtain ⟨a1, y1, rfl⟩ := hva.form
      have HVA : Hid (ShN 1 B1 B2 (wr.setCell ⟨b, o + k * 3, none⟩ (.int .i64 c)) (.slice a1 m.fields.length y1) m.fields.length) := hva
      clear hva HS0
      go_wp2_with fail
      have e1 : ((c : Int) + 1) = ((c + 1 : Nat) : Int) := by omega
      rw [e1]
      clear e1
      refine (markInts' B1 B2 a1 y1 (c + 1) m.fields.length (by omega) _ HVA.out).mono ?_
      rintro e w2 ⟨rfl, hm2⟩
      have M2 : Hid (Mrk B1 B2 wr w2) := M1.out.trans hm2
      clear hm2 c1 d0 f0 HVA M1
      obtain ⟨va3, vc3, _, _, c3, _, hvc⟩ := HAT.out _ M2.out
      obtain ⟨a3, y3, rfl⟩ := hvc.form
      have HVC : Hid (ShM B1 B2 w2 (.slice a3 m.meths.length y3) m.meths) := hvc
      clear hvc
      generalize hcc : c + 1 + m.fields.length = cc at *
      have HCC : Hid (c + 1 + m.fields.length = cc) := hcc
      have hcc3 : cc + cntMs m.meths ≤ 4000000 := by omega
      clear hcc
      go_wp2_with fail
      refine (markMethods' B1 B2 a3 y3 cc m.meths hml hcc3 _ HVC.out).mono ?_
      rintro e w4 ⟨rfl, hm4⟩
      have M4 : Hid (Mrk B1 B2 w w4) := hon.out.trans (M2.out.trans hm4)
      have HC4 : Hid (cc + cntMs m.meths = q + cntP (ms.take (k + 1))) := by
        show _ = _
        have h1 := HST.out
        have h2 := hc.out
        have h3 := HCC.out
        omega
      clear hm4 c3 HVC M2 HAT hon HST hc HCC
      generalize cc + cntMs m.meths = c5 at *
      go_wp2
      go_roundw
      case rel => exact ⟨k + 1, c5, by omega, by go_num, rfl, HC4.out, M4.out⟩
      case measure => simp [intOf]; omega
    · have HKN : Hid (q + cntP ms = c) := by
        show _ = _
        have h := hc.out
        rw [List.take_of_length_le (by omega)] at h
        exact h.symm
      go_wp2
      go_ret
      exact ⟨retI (by rw [HKN.out]), hon.out⟩

set_option maxHeartbeats 1000000 in
theorem markProgram' (B1 B2 : Nat) (a : Option Addr) (cap : Nat) (p : Prg) (hsz : szP p ≤ 1048576) (w : World) (hs : ShK B1 B2 w (.slice a p.length cap) p) :
    Calls Tryz.prog 13 #[.agg #[.slice a p.length cap], .int .i64 1] w fun e w' => e = .returned (.int .i64 ((1 + cntP p : Nat) : Int)) ∧ Mrk B1 B2 w w' := by
  have HS : Hid (ShK B1 B2 w (.slice a p.length cap) p) := hs
  have HSM : Hid (SmallP p) := SmallP.of hsz
  have hc : 1 + cntP p ≤ 4000000 := by have := cntP_le p; omega
  clear hs
  go_enter Tryz.func13, Tryz.ntmps13
  go_wp2_with fail
  refine (markClasses' B1 B2 a cap 1 p HSM.out hc _ (HS.out.mrk (Mrk.of ((Below.refl _ _).alloc (Nat.le_refl _) _)))).mono ?_
  rintro e w1 ⟨rfl, hm1⟩
  have M1 : Hid (Mrk B1 B2 w w1) := (Mrk.of ((Below.refl _ _).alloc (Nat.le_refl _) _)).trans hm1
  clear hm1
  generalize hc5 : 1 + cntP p = c5 at *
  have HC5 : Hid (1 + cntP p = c5) := hc5
  clear hc5
  go_wp2
  go_ret
  exact ⟨retI (by rw [HC5.out]), M1.out⟩
end Pg
end Go.Proofs.YtinanjjhkddikaaGreat

/- What marking a program leaves as it was: rows of numbers elsewhere. -/
namespace Go.Proofs.YtinanjjhkddikaaGreat
namespace Pg
open Go.ChangeShapes Go.WideShapes Go.ChangeAt Go.RowKit St

theorem Mrk.irow {B1 B2 : Nat} {u v : World} (h : Mrk B1 B2 u v) {g o : Nat} {l : List Int} (hg : g < B1 ∨ B2 ≤ g) (hr : IRow u g o l) : IRow v g o l := fun j x hj => (World.cell?_of_block (w := u) (h.far g (cell_lt (hr j x hj)) hg)).trans (hr j x hj)
theorem Mrk.room {B1 B2 : Nat} {u v : World} (h : Mrk B1 B2 u v) {g n : Nat} (hg : g < B1 ∨ B2 ≤ g) (hr : Room u g n) : Room v g n := fun i hi => by
  obtain ⟨⟨x, hx⟩, hf⟩ := hr i hi
  have l : g < u.heap.size := cell_lt hx
  exact ⟨⟨x, (World.cell?_of_block (w := u) (h.far g l hg)).trans hx⟩, (World.frozen?_of_block (w := u) (h.far g l hg)).trans hf⟩

end Pg
end Go.Proofs.YtinanjjhkddikaaGreat
