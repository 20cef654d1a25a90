/- The program's desk: where a step works on a state, as plain data and in memory. -/
import Derived.Test.YtfdlljdljefkfaaGreatDoorJLo0
import Derived.Test.YtfdlljdljefkfaaGreatDoorJHi1
import Derived.Maps.AppendAt
import Derived.Test.YtfdlljdljefkfaaGreatDoorJPg4
namespace Go.Proofs.YtfdlljdljefkfaaGreatDoor
namespace Pg
open Go.ChangeShapes Go.WideShapes Go.ChangeAt Go.RowKit St

structure Dsk where
  bad : Bool
  st : List Int
  lo : List Int
def Dsk.refuse (d : Dsk) : Dsk := ⟨true, d.st, d.lo⟩
def Dsk.put (d : Dsk) (ks : List Int) : Dsk := ⟨d.bad || decide (8 < (d.st ++ ks).length), d.st ++ ks, d.lo⟩
def Dsk.top (d : Dsk) : Int := if d.st.length < 1 then -3 else topF d.st 1
def Dsk.take (d : Dsk) : Dsk := if d.st.length < 1 then d.refuse else ⟨d.bad, d.st.take (d.st.length - 1), d.lo⟩
def Dsk.when (d : Dsk) (b : Bool) : Dsk := if b then d else d.refuse
def Dsk.fit1 (p : Prg) (d : Dsk) (want : Int) : Dsk := d.take.when (fitB p d.top want)
def Dsk.fits (p : Prg) (d : Dsk) (ws : List Int) : Dsk := ws.reverse.foldl (Dsk.fit1 p) d
def Dsk.obj (d : Dsk) : Dsk := d.take.when (!(decide (d.top = -1) || decide (d.top = -3)))
def Dsk.load (d : Dsk) (a : Int) : Dsk := (d.when (!decide (d.lo.getD a.toNat 0 = -3))).put [d.lo.getD a.toNat 0]
def classV (p : Prg) (c : Int) : Int := if c < (p.length : Int) then c else -3
def fieldV (p : Prg) (c f : Int) : Int := (fldF p c f).getD (-3)
/-- All that lies on it is a kind. -/
def Dsk.ok (p : Prg) (d : Dsk) : Prop := d.st.all (kindB p.length) = true ∧ d.lo.all (kindB p.length) = true ∧ d.st.length ≤ 1000

theorem Dsk.ok_refuse {p : Prg} {d : Dsk} (h : d.ok p) : d.refuse.ok p := h
theorem Dsk.ok_when {p : Prg} {d : Dsk} (h : d.ok p) (b : Bool) : (d.when b).ok p := by unfold Dsk.when; split <;> exact h
theorem Dsk.ok_take {p : Prg} {d : Dsk} (h : d.ok p) : d.take.ok p := by
  unfold Dsk.take
  split
  · exact h
  · exact ⟨kinds_take h.1 _, h.2.1, by have := h.2.2; simp; omega⟩
theorem Dsk.ok_top {p : Prg} (hp : 0 < p.length) {d : Dsk} (h : d.ok p) : kindB p.length d.top = true := by
  unfold Dsk.top
  split
  · exact kind_of (by omega) (by omega)
  · exact all_getD h.1 hp _
theorem Dsk.ok_fit1 {p : Prg} {d : Dsk} (h : d.ok p) (x : Int) : (d.fit1 p x).ok p := Dsk.ok_when (Dsk.ok_take h) _
theorem Dsk.len_take (d : Dsk) : d.take.st.length ≤ d.st.length := by unfold Dsk.take Dsk.refuse; split <;> simp
theorem Dsk.len_when (d : Dsk) (b : Bool) : (d.when b).st = d.st := by unfold Dsk.when Dsk.refuse; split <;> rfl

/-- What stands where a refusal may. -/
def ErrV (v : Value) (b : Bool) : Prop := (v = .nilIface ∧ b = false) ∨ ((∃ s, v = .iface 90 (.agg #[.string s])) ∧ b = true)
/-- The desk at block k; nothing that was there in u has turned. -/
structure DeskR (u W0 : World) (fs : List Nat) (w : World) (k : Nat) (pv sv : Value) (g c : Nat) (ev : Value) (d : Dsk) : Prop where
  below : Below u.heap.size u w
  hk : u.heap.size ≤ k
  cells : Cells w k [pv, sv, .slice (some ⟨g, 0, none⟩) 8 c, ev]
  err : ErrV ev d.bad
  own : w.ownsRow u.heap.size 2 1 sv d.st.length (nums d.st)
  hg : u.heap.size ≤ g
  gk : g ≠ k
  sg : sv.ownBlock ≠ some g
  sk : sv.ownBlock ≠ some k
  len : d.lo.length = 8
  row : IRow w g 0 d.lo
  room : Room w g 8
  far : ∀ b ∈ fs, b < W0.heap.size ∧ w.heap[b]? = W0.heap[b]? ∧ b ≠ k ∧ b ≠ g ∧ sv.ownBlock ≠ some b
  oth : KeepsOthers W0 w
def DeskAt (u W0 : World) (fs : List Nat) (w : World) (k : Nat) (pv : Value) (d : Dsk) : Prop := ∃ sv g c ev, DeskR u W0 fs w k pv sv g c ev d
/-- The same, and where its locals lie. -/
def DeskL (u W0 : World) (fs : List Nat) (w : World) (k : Nat) (pv : Value) (g c : Nat) (d : Dsk) : Prop := ∃ sv ev, DeskR u W0 fs w k pv sv g c ev d
theorem DeskL.at {u W0 : World} {fs : List Nat} {w : World} {k : Nat} {pv : Value} {g c : Nat} {d : Dsk} (h : DeskL u W0 fs w k pv g c d) : DeskAt u W0 fs w k pv d := by
  obtain ⟨sv, ev, h⟩ := h
  exact ⟨sv, g, c, ev, h⟩
theorem DeskR.on {u W0 : World} {fs : List Nat} {w w' : World} {k : Nat} {pv sv : Value} {g c : Nat} {ev : Value} {d : Dsk} (h : DeskR u W0 fs w k pv sv g c ev d) (hb : Below w.heap.size w w') : DeskR u W0 fs w' k pv sv g c ev d :=
  ⟨below_over h.below hb, h.hk, h.cells.on hb, h.err, ownOn h.own hb, h.hg, h.gk, h.sg, h.sk, h.len, irow_blk h.row (hb.block g (room_lt h.room (by omega))), room_moved (hb.block g (room_lt h.room (by omega))) h.room,
   fun b hbf => by
     obtain ⟨h1, h2, h3⟩ := h.far b hbf
     exact ⟨h1, (hb.block b (blk_lt h1 h2)).trans h2, h3⟩, h.oth.trans (keeps_of hb)⟩
theorem DeskR.kLt {u W0 : World} {fs : List Nat} {w : World} {k : Nat} {pv sv : Value} {g c : Nat} {ev : Value} {d : Dsk} (h : DeskR u W0 fs w k pv sv g c ev d) : k < w.heap.size := cell_lt (h.cells.g0).1
theorem DeskAt.on {u W0 : World} {fs : List Nat} {w w' : World} {k : Nat} {pv : Value} {d : Dsk} (h : DeskAt u W0 fs w k pv d) (hb : Below w.heap.size w w') : DeskAt u W0 fs w' k pv d := by
  obtain ⟨sv, g, c, ev, h⟩ := h
  exact ⟨sv, g, c, ev, h.on hb⟩
/-- A new block is none of the desk's. -/
theorem DeskAt.fresh {u W0 : World} {fs : List Nat} {w : World} {k : Nat} {pv : Value} {d : Dsk} (h : DeskAt u W0 fs w k pv d) (o : Obj) : DeskAt u (w.alloc o) (w.heap.size :: fs) (w.alloc o) k pv d := by
  obtain ⟨sv, g, c, ev, h⟩ := h
  have hk := h.kLt
  have hg := room_lt h.room (by omega)
  have hs := h.own.lt
  have h2 := h.on ((Below.refl _ _).alloc (Nat.le_refl _) o)
  refine ⟨sv, g, c, ev, h2.below, h2.hk, h2.cells, h2.err, h2.own, h2.hg, h2.gk, h2.sg, h2.sk, h2.len, h2.row, h2.room, fun b hb => ?_, KeepsOthers.refl _⟩
  rcases List.mem_cons.1 hb with rfl | hb
  · refine ⟨by simp, rfl, by omega, by omega, fun e => ?_⟩
    have := (hs _ e).2
    omega
  · obtain ⟨h3, h4, h5⟩ := h.far b hb
    have := blk_lt h3 h4
    exact ⟨by simp; omega, rfl, h5⟩
/-- Back to the world that was meant before. -/
theorem DeskAt.back {u W0 W1 : World} {fs gs : List Nat} {w w' : World} {k : Nat} {pv : Value} {d d' : Dsk} (h : DeskAt u W0 fs w k pv d) (hb : Below w.heap.size w W1) (h2 : DeskAt u W1 (gs ++ fs) w' k pv d') : DeskAt u W0 fs w' k pv d' := by
  obtain ⟨sv, g, c, ev, h⟩ := h
  obtain ⟨sv2, g2, c2, ev2, h2⟩ := h2
  refine ⟨sv2, g2, c2, ev2, h2.below, h2.hk, h2.cells, h2.err, h2.own, h2.hg, h2.gk, h2.sg, h2.sk, h2.len, h2.row, h2.room, fun b hbf => ?_, (h.oth.trans (keeps_of hb)).trans h2.oth⟩
  obtain ⟨a1, a2, _⟩ := h.far b hbf
  obtain ⟨_, b2, b3⟩ := h2.far b (List.mem_append_right _ hbf)
  exact ⟨a1, (b2.trans (hb.block b (blk_lt a1 a2))).trans a2, b3⟩
/-- What lies in a block that is none of the desk's. -/
theorem DeskAt.kept {u W0 : World} {fs : List Nat} {w : World} {k : Nat} {pv : Value} {d : Dsk} (h : DeskAt u W0 fs w k pv d) {b : Nat} (hb : b ∈ fs) {vs : List Value} (hc : Cells W0 b vs) : Cells w b vs := by
  obtain ⟨sv, g, c, ev, h⟩ := h
  exact cells_blk hc (h.far b hb).2.1
theorem DeskAt.below {u W0 : World} {fs : List Nat} {w : World} {k : Nat} {pv : Value} {d : Dsk} (h : DeskAt u W0 fs w k pv d) : Below u.heap.size u w := by
  obtain ⟨sv, g, c, ev, h⟩ := h
  exact h.below
/-- Something is written into a block that is none of the desk's. -/
theorem DeskAt.off {u W0 : World} {fs : List Nat} {w w' : World} {k : Nat} {pv : Value} {d : Dsk} {b : Nat} (h : DeskAt u W0 (b :: fs) w k pv d) (hn : b ∉ fs) (hu : u.heap.size ≤ b) (hg : w.grownBy w' (some b)) (ho : KeepsOthers w w') : DeskAt u W0 fs w' k pv d := by
  obtain ⟨sv, g, c, ev, h⟩ := h
  obtain ⟨a1, a2, a3, a4, a5⟩ := h.far b (List.mem_cons_self ..)
  have bk : w'.heap[k]? = w.heap[k]? := hg.block k h.kLt (fun e => by injection e with e; exact a3 e.symm)
  have bg : w'.heap[g]? = w.heap[g]? := hg.block g (room_lt h.room (by omega)) (fun e => by injection e with e; exact a4 e.symm)
  refine ⟨sv, g, c, ev, ⟨hg.os.trans h.below.os, hg.tape.trans h.below.tape, hg.output.trans h.below.output, Nat.le_trans h.below.size hg.size, fun i hi => (hg.block i (Nat.lt_of_lt_of_le hi h.below.size) (fun e => by injection e with e; omega)).trans (h.below.block i hi)⟩, h.hk, cells_blk h.cells bk, h.err, own_off h.own hg a5, h.hg, h.gk, h.sg, h.sk, h.len, irow_blk h.row bg, room_moved bg h.room, fun x hx => ?_, h.oth.trans ho⟩
  obtain ⟨b1, b2, b3⟩ := h.far x (List.mem_cons_of_mem _ hx)
  exact ⟨b1, (hg.block x (blk_lt b1 b2) (fun e => by injection e with e; subst e; exact hn hx)).trans b2, b3⟩
theorem grown_four (w : World) (b : Nat) (v0 v1 v2 v3 : Value) : w.grownBy ((((w.setCell ⟨b, 0, none⟩ v0).setCell ⟨b, 1, none⟩ v1).setCell ⟨b, 2, none⟩ v2).setCell ⟨b, 3, none⟩ v3) (some b) :=
  (((grown_cell w ⟨b, 0, none⟩ v0).trans (grown_cell _ ⟨b, 1, none⟩ v1)).trans (grown_cell _ ⟨b, 2, none⟩ v2)).trans (grown_cell _ ⟨b, 3, none⟩ v3)
theorem keeps_four (w : World) (b : Nat) (v0 v1 v2 v3 : Value) : KeepsOthers w ((((w.setCell ⟨b, 0, none⟩ v0).setCell ⟨b, 1, none⟩ v1).setCell ⟨b, 2, none⟩ v2).setCell ⟨b, 3, none⟩ v3) :=
  (((KeepsOthers.setCell w _ _).trans (KeepsOthers.setCell _ _ _)).trans (KeepsOthers.setCell _ _ _)).trans (KeepsOthers.setCell _ _ _)
/-- From here on, told of this world. -/
theorem DeskAt.now {u W0 : World} {fs : List Nat} {w : World} {k : Nat} {pv : Value} {d : Dsk} (h : DeskAt u W0 fs w k pv d) : DeskAt u w fs w k pv d := by
  obtain ⟨sv, g, c, ev, h⟩ := h
  exact ⟨sv, g, c, ev, h.below, h.hk, h.cells, h.err, h.own, h.hg, h.gk, h.sg, h.sk, h.len, h.row, h.room, fun b hb => ⟨blk_lt (h.far b hb).1 (h.far b hb).2.1, rfl, (h.far b hb).2.2⟩, KeepsOthers.refl _⟩
/-- A walk's own objects are none of the desk's. -/
theorem DeskAt.walk {u W0 : World} {fs : List Nat} {w w' : World} {k : Nat} {pv : Value} {d : Dsk} {B : Nat} {row : Option Nat} (h : DeskAt u W0 fs w k pv d) (hB : W0.heap.size ≤ B) (hu : u.heap.size ≤ B) (hg : w.grownBy w' row) (hr : ∀ r, row = some r → B ≤ r ∧ ∃ o : Obj, w.heap[r]? = some o ∧ o.isCells = false) : DeskAt u W0 fs w' k pv d := by
  obtain ⟨sv, g, c, ev, h⟩ := h
  have cl : ∀ b x, w.cell? ⟨b, 0, none⟩ = some x → some b ≠ row := fun b x hx e => by
    obtain ⟨_, o, ho, hc⟩ := hr b e.symm
    obtain ⟨o', ho', hc'⟩ := cells_of_cell hx
    rw [ho] at ho'
    injection ho' with ho'
    subst ho'
    rw [hc] at hc'; cases hc'
  have lw : ∀ b, b < B → some b ≠ row := fun b hb e => by have := (hr b e.symm).1; omega
  have bk : w'.heap[k]? = w.heap[k]? := hg.block k h.kLt (cl k _ (h.cells.g0).1)
  obtain ⟨⟨x, hx⟩, _⟩ := h.room 0 (by omega)
  have bg : w'.heap[g]? = w.heap[g]? := hg.block g (room_lt h.room (by omega)) (cl g _ hx)
  have hs : sv.ownBlock = none ∨ sv.ownBlock ≠ row := by
    cases hsb : sv.ownBlock with
    | none => exact .inl rfl
    | some b =>
      refine .inr fun e => ?_
      obtain ⟨_, o, ho, hc⟩ := hr b e.symm
      obtain ⟨_, ⟨rfl, _⟩ | ⟨g1, cap, cur, rfl, _, hb1, _⟩⟩ := h.own
      · cases hsb
      · simp [Value.ownBlock] at hsb
        subst hsb
        rw [hb1] at ho
        injection ho with ho
        subst ho
        cases hc
  refine ⟨sv, g, c, ev, ⟨hg.os.trans h.below.os, hg.tape.trans h.below.tape, hg.output.trans h.below.output, Nat.le_trans h.below.size hg.size, fun i hi => (hg.block i (Nat.lt_of_lt_of_le hi h.below.size) (lw i (by omega))).trans (h.below.block i hi)⟩, h.hk, cells_blk h.cells bk, h.err, h.own.kept hg hs, h.hg, h.gk, h.sg, h.sk, h.len, irow_blk h.row bg, room_moved bg h.room, fun b hb => ?_, ⟨Nat.le_trans h.oth.size hg.size, fun i o hi ho => ?_⟩⟩
  · obtain ⟨a1, a2, a3⟩ := h.far b hb
    exact ⟨a1, (hg.block b (blk_lt a1 a2) (lw b (by omega))).trans a2, a3⟩
  · have h2 := h.oth.same i o hi ho
    have hil : i < W0.heap.size := (Array.getElem?_eq_some_iff.1 hi).1
    exact (hg.block i (Array.getElem?_eq_some_iff.1 h2).1 (lw i (by omega))).trans h2
theorem DeskAt.fsLt {u W0 : World} {fs : List Nat} {w : World} {k : Nat} {pv : Value} {d : Dsk} (h : DeskAt u W0 fs w k pv d) : w.heap.size ∉ fs := fun hb => by
  obtain ⟨sv, g, c, ev, h⟩ := h
  obtain ⟨a1, a2, _⟩ := h.far _ hb
  have := blk_lt a1 a2
  omega
/-- A refusal is written down. -/
theorem DeskR.refused {u W0 : World} {fs : List Nat} {w : World} {k : Nat} {pv sv : Value} {g c : Nat} {ev : Value} {d : Dsk} (h : DeskR u W0 fs w k pv sv g c ev d) (s : ByteArray) : DeskR u W0 fs (w.setCell ⟨k, 3, none⟩ (.iface 90 (.agg #[.string s]))) k pv sv g c (.iface 90 (.agg #[.string s])) d.refuse :=
  ⟨h.below.setCell (p := ⟨k, 3, none⟩) h.hk _, h.hk, h.cells.s3 _, .inr ⟨⟨s, rfl⟩, rfl⟩, own_off h.own (grown_cell w ⟨k, 3, none⟩ _) h.sk, h.hg, h.gk, h.sg, h.sk, h.len,
   irow_blk h.row (Below.heap_setCell w ⟨k, 3, none⟩ _ g h.gk), room_moved (Below.heap_setCell w ⟨k, 3, none⟩ _ g h.gk) h.room,
   fun b hbf => by
     obtain ⟨h1, h2, h3⟩ := h.far b hbf
     exact ⟨h1, (Below.heap_setCell w ⟨k, 3, none⟩ _ b h3.1).trans h2, h3⟩, h.oth.trans (KeepsOthers.setCell _ _ _)⟩
/-- Another row stands for the stack. -/
theorem DeskR.stacked {u W0 : World} {fs : List Nat} {w w1 : World} {k : Nat} {pv sv : Value} {g c : Nat} {ev : Value} {d : Dsk} (h : DeskR u W0 fs w k pv sv g c ev d) {sv' : Value} {l : List Int} (hg : w.grownBy w1 sv.ownBlock) (hown : w1.ownsRow u.heap.size 2 1 sv' l.length (nums l))
    (hw : sv'.ownBlock = sv.ownBlock ∨ sv'.ownBlock = none ∨ ∃ n, w.heap.size ≤ n ∧ sv'.ownBlock = some n) : DeskR u W0 fs (w1.setCell ⟨k, 1, none⟩ sv') k pv sv' g c ev ⟨d.bad, l, d.lo⟩ := by
  have hkw := h.kLt
  have hgw := room_lt h.room (by omega)
  have bk : w1.heap[k]? = w.heap[k]? := hg.block k hkw (fun e => h.sk e.symm)
  have bg : w1.heap[g]? = w.heap[g]? := hg.block g hgw (fun e => h.sg e.symm)
  have bg' : (w1.setCell ⟨k, 1, none⟩ sv').heap[g]? = w.heap[g]? := (Below.heap_setCell w1 ⟨k, 1, none⟩ sv' g h.gk).trans bg
  have sk' : sv'.ownBlock ≠ some k := by
    rcases hw with e | e | ⟨n, hn, e⟩
    · rw [e]; exact h.sk
    · rw [e]; simp
    · rw [e]; intro e'; injection e' with e'; omega
  have sg' : sv'.ownBlock ≠ some g := by
    rcases hw with e | e | ⟨n, hn, e⟩
    · rw [e]; exact h.sg
    · rw [e]; simp
    · rw [e]; intro e'; injection e' with e'; omega
  have hb1 : Below u.heap.size u w1 := ⟨hg.os.trans h.below.os, hg.tape.trans h.below.tape, hg.output.trans h.below.output, Nat.le_trans h.below.size hg.size, fun i hi => (hg.block i (Nat.lt_of_lt_of_le hi h.below.size) (fun e => by have := (h.own.lt i e.symm).1; omega)).trans (h.below.block i hi)⟩
  refine ⟨hb1.setCell (p := ⟨k, 1, none⟩) h.hk _, h.hk, (cells_blk h.cells bk).s1 _, h.err, own_off hown (grown_cell w1 ⟨k, 1, none⟩ sv') sk', h.hg, h.gk, sg', sk', h.len, irow_blk h.row bg', room_moved bg' h.room, fun b hbf => ?_, (h.oth.trans (KeepsOthers.of_grownBy hg (fun j o e ho => ?_))).trans (KeepsOthers.setCell _ _ _)⟩
  rotate_left
  · obtain ⟨_, ⟨rfl, _⟩ | ⟨g1, cap, cur, rfl, _, hb1, _⟩⟩ := h.own
    · cases e
    · simp [Value.ownBlock] at e
      subst e
      rw [hb1] at ho
      injection ho with ho
      subst ho
      rfl
  obtain ⟨h1, h2, h3, h4, h5⟩ := h.far b hbf
  have hbw := blk_lt h1 h2
  refine ⟨h1, (Below.heap_setCell w1 ⟨k, 1, none⟩ sv' b h3).trans ((hg.block b hbw (fun e => h5 e.symm)).trans h2), h3, h4, ?_⟩
  rcases hw with e | e | ⟨n, hn, e⟩
  · rw [e]; exact h5
  · rw [e]; simp
  · rw [e]; intro e'; injection e' with e'; omega
/-- A local is turned. -/
theorem DeskR.stored {u W0 : World} {fs : List Nat} {w : World} {k : Nat} {pv sv : Value} {g c : Nat} {ev : Value} {d : Dsk} (h : DeskR u W0 fs w k pv sv g c ev d) {a : Nat} (ha : a < 8) (x : Int) : DeskR u W0 fs (w.setCell ⟨g, a, none⟩ (.int .i64 x)) k pv sv g c ev ⟨d.bad, d.st, d.lo.set a x⟩ := by
  refine ⟨h.below.setCell (p := ⟨g, a, none⟩) h.hg _, h.hk, h.cells.far ⟨g, a, none⟩ _ h.gk, h.err, own_off h.own (grown_cell w ⟨g, a, none⟩ _) h.sg, h.hg, h.gk, h.sg, h.sk, by simpa using h.len, ?_, ?_, fun b hbf => ?_, h.oth.trans (KeepsOthers.setCell _ _ _)⟩
  · intro j y hj
    rw [List.getElem?_set] at hj
    obtain ⟨⟨v0, hv0⟩, _⟩ := h.room a ha
    split at hj
    · rename_i e
      subst e
      split at hj
      · simp at hj
        subst hj
        rw [Nat.zero_add]
        exact World.cell?_setCell_same _ _ _ hv0
      · cases hj
    · rename_i e
      have := h.row j y hj
      rw [Nat.zero_add] at this ⊢
      exact (World.cell?_setCell_other _ _ _ _ (fun e' => e (congrArg Addr.off e'))).trans this
  · intro i hi
    obtain ⟨⟨v, hv⟩, hf⟩ := h.room i hi
    refine ⟨?_, by simpa using hf⟩
    by_cases e : i = a
    · subst e; exact ⟨_, World.cell?_setCell_same _ _ _ hv⟩
    · exact ⟨v, (World.cell?_setCell_other _ _ _ _ (fun e' => e (congrArg Addr.off e').symm)).trans hv⟩
  · obtain ⟨h1, h2, h3⟩ := h.far b hbf
    exact ⟨h1, (Below.heap_setCell w ⟨g, a, none⟩ _ b h3.2.1).trans h2, h3⟩
theorem DeskR.local {u W0 : World} {fs : List Nat} {w : World} {k : Nat} {pv sv : Value} {g c : Nat} {ev : Value} {d : Dsk} (h : DeskR u W0 fs w k pv sv g c ev d) {a : Nat} (ha : a < 8) : w.cell? ⟨g, a, none⟩ = some (.int .i64 (d.lo.getD a 0)) ∧ w.frozen? ⟨g, a, none⟩ = false := by
  have hl : a < d.lo.length := by rw [h.len]; exact ha
  have := h.row a _ (List.getElem?_eq_getElem hl)
  rw [Nat.zero_add] at this
  rw [List.getD_eq_getElem?_getD, List.getElem?_eq_getElem hl]
  exact ⟨this, (h.room a ha).2⟩
end Pg
end Go.Proofs.YtfdlljdljefkfaaGreatDoor

/- Contracts of the desk's moves. -/
namespace Go.Proofs.YtfdlljdljefkfaaGreatDoor
namespace Pg
open Go.ChangeShapes Go.WideShapes Go.ChangeAt Go.RowKit St

set_option maxHeartbeats 400000 in
theorem deskRefuse (u W0 : World) (fs : List Nat) (w : World) (k : Nat) (pv sv : Value) (g c : Nat) (ev : Value) (d : Dsk) (s : ByteArray) (h : DeskR u W0 fs w k pv sv g c ev d) :
    Calls Tryz.prog 93 #[.pointer (some ⟨k, 0, none⟩), .string s] w fun e w' => (∃ v, e = .returned v) ∧ ∃ ev', DeskR u W0 fs w' k pv sv g c ev' d.refuse := by
  have HR : Hid (DeskR u W0 fs (w.setCell ⟨k, 3, none⟩ (.iface 90 (.agg #[.string s]))) k pv sv g c (.iface 90 (.agg #[.string s])) d.refuse) := h.refused s
  obtain ⟨c0, f0⟩ := h.cells.g3
  clear h
  go_enter Tryz.func93, Tryz.ntmps93
  go_wp2
  go_end0
  exact ⟨⟨_, rfl⟩, _, HR.out⟩
theorem refuse_at (u W0 : World) (fs : List Nat) (w : World) (k : Nat) (pv : Value) (d : Dsk) (s : ByteArray) (h : DeskAt u W0 fs w k pv d) :
    Calls Tryz.prog 93 #[.pointer (some ⟨k, 0, none⟩), .string s] w fun e w' => (∃ v, e = .returned v) ∧ DeskAt u W0 fs w' k pv d.refuse := by
  obtain ⟨sv, g, c, ev, h⟩ := h
  exact (deskRefuse u W0 fs w k pv sv g c ev d s h).mono fun _ _ ⟨h1, ev', h2⟩ => ⟨h1, sv, g, c, ev', h2⟩

set_option maxRecDepth 100000 in
set_option maxHeartbeats 1000000 in
theorem put_at (u W0 : World) (fs : List Nat) (w : World) (k : Nat) (pv : Value) (d : Dsk) (h : DeskAt u W0 fs w k pv d) (hl : d.st.length ≤ 1000) (z cz : Nat) (ks : List Int) (hks : ks.length ≤ 1000) (hz : IRow w z 0 ks) :
    Calls Tryz.prog 79 #[.pointer (some ⟨k, 0, none⟩), .slice (some ⟨z, 0, none⟩) ks.length cz] w fun e w' => (∃ v, e = .returned v) ∧ DeskAt u W0 fs w' k pv (d.put ks) := by
  obtain ⟨i0, hif, hz0, hz1, hz2⟩ := info_parts infoN
  obtain ⟨sv, g, c, ev, h⟩ := h
  obtain ⟨a, cap, rfl, hcap⟩ := own_form h.own
  obtain ⟨c1, f1⟩ := h.cells.g1
  have HN : Hid (∀ j x, (nums ks)[j]? = some x → w.cell? ((⟨z, 0, none⟩ : Addr).add j) = some x) := by
    show _
    intro j x hx
    simp only [nums, List.getElem?_map] at hx
    cases hj : ks[j]? with
    | none => rw [hj] at hx; simp at hx
    | some y =>
      rw [hj] at hx
      simp at hx
      subst hx
      have := hz j y hj
      simpa [Go.WideShapes.add_plain] using this
  have HO : Hid (w.ownsRow u.heap.size 2 1 (.slice a d.st.length cap) d.st.length (nums d.st)) := h.own
  have HB : Hid (u.heap.size ≤ w.heap.size) := h.below.size
  have HD : Hid (DeskR u W0 fs w k pv (.slice a d.st.length cap) g c ev d) := h
  have HK : Hid (k < w.heap.size) := h.kLt
  have HKS : Hid ((Value.slice a d.st.length cap).ownBlock ≠ some k) := h.sk
  clear h hz
  go_enter Tryz.func79, Tryz.ntmps79
  go_wp2_with (at_builtin; refine wpList_append_own_at _ rfl _ _ 27 rfl u.heap.size 2 i0 (.int .i64 0) 1 8 Tryz.underlying27 hif hz0 hz1 hz2 rfl (by decide) _ _ _ rfl HO.out ⟨z, 0, none⟩ ks.length cz (nums ks) rfl (by simp [nums]) HN.out (nums_one _) (by unfold maxLen; omega) (by omega) HB.out ?_)
  intro v' w1 hown hgrow hnil hwhere
  have hl2 : d.st.length + ks.length = (d.st ++ ks).length := by simp
  have hown' : w1.ownsRow u.heap.size 2 1 v' (d.st ++ ks).length (nums (d.st ++ ks)) := by
    have e : nums (d.st ++ ks) = nums d.st ++ nums ks := by simp [nums]
    rw [e, ← hl2]; exact hown
  obtain ⟨a', cap', rfl, _⟩ := own_form hown'
  have HD2 : Hid (DeskR u W0 fs (w1.setCell ⟨k, 1, none⟩ (.slice a' (d.st ++ ks).length cap')) k pv (.slice a' (d.st ++ ks).length cap') g c ev ⟨d.bad, d.st ++ ks, d.lo⟩) :=
    HD.out.stacked hgrow hown' (by rcases hwhere with e | e; exact .inl e; exact .inr (.inr ⟨_, Nat.le_refl _, e⟩))
  have bk : w1.heap[k]? = w.heap[k]? := hgrow.block k HK.out (fun e => HKS.out e.symm)
  have c1' : w1.cell? ⟨k, 1, none⟩ = some (.slice a d.st.length cap) := (World.cell?_of_block (a := ⟨k, 1, none⟩) bk).trans c1
  have f1' : w1.frozen? ⟨k, 1, none⟩ = false := (World.frozen?_of_block (a := ⟨k, 1, none⟩) bk).trans f1
  clear hown hown' hgrow hnil hwhere bk HD HO HN c1 f1 HKS
  generalize hn : (d.st ++ ks).length = n at *
  by_cases hbig : 8 < n
  · have hbi : decide ((8 : Int) < (n : Int)) = true := by simp; omega
    have HE : Hid (d.put ks = Dsk.refuse ⟨d.bad, d.st ++ ks, d.lo⟩) := by
      show _ = _
      simp only [Dsk.put, Dsk.refuse]
      rw [hn]
      simp [hbig]
    clear hl2 hn
    go_wp2_with fail
    refine (refuse_at u W0 fs _ k pv ⟨d.bad, d.st ++ ks, d.lo⟩ _ ⟨_, _, _, _, HD2.out⟩).mono ?_
    rintro e w2 ⟨⟨v, rfl⟩, hd⟩
    rw [← HE.out] at hd
    have HD3 : Hid (DeskAt u W0 fs w2 k pv (d.put ks)) := hd
    clear hd
    go_wp2
    go_end0
    exact ⟨⟨_, rfl⟩, HD3.out⟩
  · have hbi : decide ((8 : Int) < (n : Int)) = false := by simp; omega
    have HE : Hid (d.put ks = ⟨d.bad, d.st ++ ks, d.lo⟩) := by
      show _ = _
      simp only [Dsk.put]
      rw [hn]
      simp [hbig]
    clear hl2 hn
    go_wp2
    go_end0
    refine ⟨⟨_, rfl⟩, ?_⟩
    rw [HE.out]
    exact ⟨_, _, _, _, HD2.out⟩

set_option maxRecDepth 100000 in
set_option maxHeartbeats 1000000 in
theorem take_L (u W0 : World) (fs : List Nat) (w : World) (k : Nat) (pv : Value) (g c : Nat) (d : Dsk) (h : DeskL u W0 fs w k pv g c d) (hl : d.st.length ≤ 1000) :
    Calls Tryz.prog 81 #[.pointer (some ⟨k, 0, none⟩)] w fun e w' => e = .returned (.int .i64 d.top) ∧ DeskL u W0 fs w' k pv g c d.take := by
  obtain ⟨sv, ev, h⟩ := h
  obtain ⟨a, cap, rfl, hcap⟩ := own_form h.own
  obtain ⟨c1, f1⟩ := h.cells.g1
  by_cases h0 : d.st.length < 1
  · have HE : Hid (d.top = -3 ∧ d.take = d.refuse) := by show _ ∧ _; simp [Dsk.top, Dsk.take, h0]
    have e0 : d.st.length = 0 := by omega
    have HD : Hid (DeskR u W0 fs w k pv (.slice a d.st.length cap) g c ev d) := h
    rw [e0] at c1
    clear h
    go_enter Tryz.func81, Tryz.ntmps81
    go_wp2_with fail
    refine (deskRefuse u W0 fs _ k pv _ g c _ d _ HD.out).mono ?_
    rintro e w2 ⟨⟨v, rfl⟩, ev', hd⟩
    have HD3 : Hid (DeskL u W0 fs w2 k pv g c d.refuse) := ⟨_, _, hd⟩
    clear hd
    go_wp2
    go_ret
    rw [HE.out.1, HE.out.2]
    exact ⟨rfl, HD3.out⟩
  · obtain ⟨n, hn⟩ : ∃ n, d.st.length = n + 1 := ⟨d.st.length - 1, by omega⟩
    have hlt : n < d.st.length := by omega
    obtain ⟨g1, cap1, hv, cx⟩ := own_read h.own (List.getElem?_eq_getElem hlt)
    injection hv with e1 _ e3
    subst e1 e3
    have HE : Hid (d.top = d.st[n] ∧ d.take = ⟨d.bad, d.st.take n, d.lo⟩) := by
      show _ ∧ _
      refine ⟨?_, ?_⟩
      · unfold Dsk.top topF
        rw [if_neg h0, List.getD_eq_getElem?_getD, hn, Nat.add_sub_cancel, List.getElem?_eq_getElem hlt]; rfl
      · unfold Dsk.take
        rw [if_neg h0, hn, Nat.add_sub_cancel]
    have hown' : w.ownsRow u.heap.size 2 1 (.slice (some ⟨g1, 0, none⟩) n cap) (d.st.take n).length (nums (d.st.take n)) := by
      have := own_head h.own (m := n) (by omega)
      have el : (d.st.take n).length = n := by simp; omega
      have e2 : nums (d.st.take n) = (nums d.st).take (n * 1) := by rw [Nat.mul_one]; simp [nums, List.map_take]
      rw [el, e2]; exact this
    have HD2 : Hid (DeskR u W0 fs (w.setCell ⟨k, 1, none⟩ (.slice (some ⟨g1, 0, none⟩) n cap)) k pv (.slice (some ⟨g1, 0, none⟩) n cap) g c ev ⟨d.bad, d.st.take n, d.lo⟩) :=
      h.stacked (w1 := w) ⟨rfl, rfl, rfl, Nat.le_refl _, fun _ _ _ => rfl⟩ hown' (.inl rfl)
    clear h hown'
    generalize d.st[n] = x at *
    rw [hn] at c1 hcap
    have hwr : wrap64 (n : Int) = (n : Int) := by unfold wrap64; omega
    have hb0 : decide ((n : Int) < 0) = false := by simp
    have hnl : (n : Int) < ((n + 1 : Nat) : Int) := by omega
    have hncap : (n : Int) ≤ (cap : Int) := by omega
    clear hn h0 hlt hl
    go_enter Tryz.func81, Tryz.ntmps81
    go_wp2
    go_ret
    rw [HE.out.1, HE.out.2]
    exact ⟨rfl, _, _, HD2.out⟩
theorem take_at (u W0 : World) (fs : List Nat) (w : World) (k : Nat) (pv : Value) (d : Dsk) (h : DeskAt u W0 fs w k pv d) (hl : d.st.length ≤ 1000) :
    Calls Tryz.prog 81 #[.pointer (some ⟨k, 0, none⟩)] w fun e w' => e = .returned (.int .i64 d.top) ∧ DeskAt u W0 fs w' k pv d.take := by
  obtain ⟨sv, g, c, ev, h⟩ := h
  exact (take_L u W0 fs w k pv g c d ⟨sv, ev, h⟩ hl).mono fun _ _ ⟨h1, sv', ev', h2⟩ => ⟨h1, sv', g, c, ev', h2⟩
end Pg
end Go.Proofs.YtfdlljdljefkfaaGreatDoor

/- Contracts of the desk's questions. -/
namespace Go.Proofs.YtfdlljdljefkfaaGreatDoor
namespace Pg
open Go.ChangeShapes Go.WideShapes Go.ChangeAt Go.RowKit St

set_option maxRecDepth 100000 in
set_option maxHeartbeats 1000000 in
theorem obj_at (u W0 : World) (fs : List Nat) (w : World) (k : Nat) (pv : Value) (d : Dsk) (h : DeskAt u W0 fs w k pv d) (hl : d.st.length ≤ 1000) :
    Calls Tryz.prog 86 #[.pointer (some ⟨k, 0, none⟩)] w fun e w' => (∃ v, e = .returned v) ∧ DeskAt u W0 fs w' k pv d.obj := by
  have HD : Hid (DeskAt u W0 fs w k pv d) := h
  clear h
  have HB : Hid (∀ b, (decide (d.top = -1) || decide (d.top = -3)) = b → d.obj = d.take.when (!b)) := by
    show ∀ b, _
    intro b hb; unfold Dsk.obj; rw [hb]
  go_enter Tryz.func86, Tryz.ntmps86
  go_wp2_with fail
  refine (take_at u W0 fs w k pv d HD.out hl).mono ?_
  rintro e w1 ⟨rfl, hd⟩
  have HD1 : Hid (DeskAt u W0 fs w1 k pv d.take) := hd
  clear hd HD
  by_cases q : d.top = -1
  · have HE : Hid (d.obj = d.take.refuse) := HB.out true (by simp [q])
    rw [q]
    clear HB q
    go_wp2_with fail
    refine (refuse_at u W0 fs w1 k pv d.take _ HD1.out).mono ?_
    rintro e w2 ⟨⟨v, rfl⟩, hd⟩
    rw [← HE.out] at hd
    have HD2 : Hid (DeskAt u W0 fs w2 k pv d.obj) := hd
    clear hd
    go_wp2
    go_end0
    exact ⟨⟨_, rfl⟩, HD2.out⟩
  · have q' : (d.top == -1) = false := by simpa using q
    by_cases r : d.top = -3
    · have HE : Hid (d.obj = d.take.refuse) := HB.out true (by simp [r])
      rw [r]
      clear HB r q q'
      go_wp2_with fail
      refine (refuse_at u W0 fs w1 k pv d.take _ HD1.out).mono ?_
      rintro e w2 ⟨⟨v, rfl⟩, hd⟩
      rw [← HE.out] at hd
      have HD2 : Hid (DeskAt u W0 fs w2 k pv d.obj) := hd
      clear hd
      go_wp2
      go_end0
      exact ⟨⟨_, rfl⟩, HD2.out⟩
    · have r' : (d.top == -3) = false := by simpa using r
      have HE : Hid (d.obj = d.take) := HB.out false (by simp [q, r])
      clear HB q r
      generalize d.top = x at *
      go_wp2
      go_end0
      rw [HE.out]
      exact ⟨⟨_, rfl⟩, HD1.out⟩

set_option maxRecDepth 100000 in
set_option maxHeartbeats 1000000 in
theorem load_at (u W0 : World) (fs : List Nat) (w : World) (k : Nat) (pv : Value) (d : Dsk) (h : DeskAt u W0 fs w k pv d) (hl : d.st.length ≤ 1000) (a : Nat) (ha : a < 8) :
    Calls Tryz.prog 80 #[.pointer (some ⟨k, 0, none⟩), .int .i64 a] w fun e w' => (∃ v, e = .returned v) ∧ DeskAt u W0 fs w' k pv (d.load a) := by
  obtain ⟨sv, g, c, ev, h⟩ := h
  obtain ⟨c2, f2⟩ := h.cells.g2
  obtain ⟨cx, _⟩ := h.local ha
  have HD : Hid (DeskR u W0 fs w k pv sv g c ev d) := h
  clear h
  have HB : Hid (∀ b, decide (d.lo.getD a 0 = -3) = b → d.load a = (d.when (!b)).put [d.lo.getD a 0]) := by
    show ∀ b, _
    intro b hb; unfold Dsk.load; rw [Int.toNat_natCast, hb]
  have hai : (a : Int) < 8 := by omega
  generalize d.lo.getD a 0 = x at *
  by_cases q : x = -3
  · have HE : Hid (d.load a = d.refuse.put [x]) := HB.out true (by simp [q])
    subst q
    clear HB
    go_enter Tryz.func80, Tryz.ntmps80
    go_wp2_with fail
    refine (refuse_at u W0 fs w k pv d _ ⟨_, _, _, _, HD.out⟩).mono ?_
    rintro e w1 ⟨⟨v, rfl⟩, hd⟩
    have HD1 : Hid (DeskAt u W0 fs (w1.alloc (.cells #[.int .i64 (-3)] 2)) k pv d.refuse) := hd.on ((Below.refl _ _).alloc (Nat.le_refl _) _)
    have HZ : Hid (IRow (w1.alloc (.cells #[.int .i64 (-3)] 2)) w1.heap.size 0 [-3]) := irow_new w1 [-3]
    clear hd
    go_wp2_with fail
    refine (put_at u W0 fs _ k pv d.refuse HD1.out hl _ _ [-3] (by decide) HZ.out).mono ?_
    rintro e w2 ⟨⟨v, rfl⟩, hd⟩
    rw [← HE.out] at hd
    have HD2 : Hid (DeskAt u W0 fs w2 k pv (d.load a)) := hd
    clear hd
    go_wp2
    go_end0
    exact ⟨⟨_, rfl⟩, HD2.out⟩
  · have HE : Hid (d.load a = d.put [x]) := HB.out false (by simp [q])
    have q' : (x == -3) = false := by simpa using q
    have HD1 : Hid (DeskAt u W0 fs (w.alloc (.cells #[.int .i64 x] 2)) k pv d) := DeskAt.on ⟨_, _, _, _, HD.out⟩ ((Below.refl _ _).alloc (Nat.le_refl _) _)
    have HZ : Hid (IRow (w.alloc (.cells #[.int .i64 x] 2)) w.heap.size 0 [x]) := irow_new w [x]
    clear HB q
    go_enter Tryz.func80, Tryz.ntmps80
    go_wp2_with fail
    refine (put_at u W0 fs _ k pv d HD1.out hl _ _ [x] (by simp) HZ.out).mono ?_
    rintro e w2 ⟨⟨v, rfl⟩, hd⟩
    rw [← HE.out] at hd
    have HD2 : Hid (DeskAt u W0 fs w2 k pv (d.load a)) := hd
    clear hd
    go_wp2
    go_end0
    exact ⟨⟨_, rfl⟩, HD2.out⟩

set_option maxRecDepth 100000 in
set_option maxHeartbeats 1000000 in
theorem class_at (u W0 : World) (fs : List Nat) (w : World) (k : Nat) (pa : Option Addr) (n pc : Nat) (d : Dsk) (h : DeskAt u W0 fs w k (.slice pa n pc) d) (t : Int) (h0 : 0 ≤ t) :
    Calls Tryz.prog 83 #[.pointer (some ⟨k, 0, none⟩), .int .i64 t] w fun e w' => e = .returned (.int .i64 (if t < (n : Int) then t else -3)) ∧ DeskAt u W0 fs w' k (.slice pa n pc) (d.when (decide (t < (n : Int)))) := by
  obtain ⟨sv, g, c, ev, h⟩ := h
  obtain ⟨c0, f0⟩ := h.cells.g0
  have HD : Hid (DeskR u W0 fs w k (.slice pa n pc) sv g c ev d) := h
  clear h
  by_cases q : t < (n : Int)
  · rw [if_pos q]
    have HE : Hid (d.when (decide (t < (n : Int))) = d) := by show _ = _; simp [Dsk.when, q]
    rw [HE.out]
    have HQ : Hid ((decide (0 ≤ t) && decide (t < (n : Int))) = true) := by show _ = _; simp [h0, q]
    clear HE
    go_enter Tryz.func83, Tryz.ntmps83
    go_wp2_with fail
    refine (hasClass pa n pc t w).mono ?_
    rw [HQ.out]
    rintro e w1 ⟨rfl, hb⟩
    have HD1 : Hid (DeskAt u W0 fs w1 k (.slice pa n pc) d) := DeskAt.on ⟨_, _, _, _, HD.out⟩ hb
    clear hb HD HQ
    go_wp2
    go_ret
    exact ⟨rfl, HD1.out⟩
  · rw [if_neg q]
    have HE : Hid (d.when (decide (t < (n : Int))) = d.refuse) := by show _ = _; simp [Dsk.when, q]
    rw [HE.out]
    have HQ : Hid ((decide (0 ≤ t) && decide (t < (n : Int))) = false) := by show _ = _; simp [q]
    clear HE
    go_enter Tryz.func83, Tryz.ntmps83
    go_wp2_with fail
    refine (hasClass pa n pc t w).mono ?_
    rw [HQ.out]
    rintro e w1 ⟨rfl, hb⟩
    have HD1 : Hid (DeskAt u W0 fs w1 k (.slice pa n pc) d) := DeskAt.on ⟨_, _, _, _, HD.out⟩ hb
    clear hb HD HQ
    go_wp2_with fail
    refine (refuse_at u W0 fs w1 k _ d _ HD1.out).mono ?_
    rintro e w2 ⟨⟨v, rfl⟩, hd⟩
    have HD2 : Hid (DeskAt u W0 fs w2 k (.slice pa n pc) d.refuse) := hd
    clear hd
    go_wp2
    go_ret
    exact ⟨rfl, HD2.out⟩
end Pg
end Go.Proofs.YtfdlljdljefkfaaGreatDoor
