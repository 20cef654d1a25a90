/- A machine of one's own, in its block: a part of it put anew. -/
import Derived.Test.YtffkkhaiedhaiaaJMo2
import Derived.Test.YtffkkhaiedhaiaaJMz0
import Derived.Test.YtffkkhaiedhaiaaJPg5
import Derived.Test.YtffkkhaiedhaiaaJNx1
namespace Go.Proofs.Ytffkkhaiedhaiaa
namespace Pg
open Go.ChangeShapes Go.WideShapes Go.ChangeAt Go.RowKit St

variable {B M : Nat} {u w : World} {vh vf vs : Value} {m : Mc} {ch cf : List (List Value)} {Th Tf : Nat → Nat → Nat → Prop}
/-- Other frames: in blocks of the old ones, or new ones. -/
theorem MOwn.withF (h : MOwn B u vh vf vs m ch cf Th Tf) {vf' : Value} {fr : List Fr} {cf' : List (List Value)} {Tf' : Nat → Nat → Nat → Prop} (hB : B ≤ u.heap.size) (hz : u.heap.size ≤ w.heap.size) (hf : OwnRc recF B w vf' fr cf' Tf') (hb : ∀ k, Blk vh Th k ∨ vs.ownBlock = some k → w.heap[k]? = u.heap[k]?) (hn : ∀ k, Blk vf' Tf' k → Blk vf Tf k ∨ u.heap.size ≤ k) :
    MOwn B w vh vf' vs { m with frames := fr } ch cf' Th Tf' := by
  refine ⟨h.h.moved hz (fun g hg => hb g (.inl (.inl hg))) (fun i j k hk => hb k (.inl (.inr ⟨i, j, hk⟩))), hf, own_moved h.s fun g hg => hb g (.inr hg), fun k hk hk' => ?_, h.hs, fun k hk e => ?_, fun k hk => ?_⟩
  · rcases hn k hk' with hk' | hk'
    · exact h.hf k hk hk'
    · have := h.lt k (.inl hk); omega
  · rcases hn k hk with hk | hk
    · exact h.fs k hk e
    · have := h.lt k (.inr (.inr e)); omega
  · rcases hk with hk | hk | hk
    · exact h.low k (.inl hk)
    · rcases hn k hk with hk | hk
      · exact h.low k (.inr (.inl hk))
      · omega
    · exact h.low k (.inr (.inr hk))
/-- Another heap. -/
theorem MOwn.withH (h : MOwn B u vh vf vs m ch cf Th Tf) {vh' : Value} {hp : List Ob} {ch' : List (List Value)} {Th' : Nat → Nat → Nat → Prop} (hB : B ≤ u.heap.size) (hz : u.heap.size ≤ w.heap.size) (hh : OwnRc recO B w vh' hp ch' Th') (hb : ∀ k, Blk vf Tf k ∨ vs.ownBlock = some k → w.heap[k]? = u.heap[k]?) (hn : ∀ k, Blk vh' Th' k → Blk vh Th k ∨ u.heap.size ≤ k) :
    MOwn B w vh' vf vs { m with heap := hp } ch' cf Th' Tf := by
  refine ⟨hh, h.f.moved hz (fun g hg => hb g (.inl (.inl hg))) (fun i j k hk => hb k (.inl (.inr ⟨i, j, hk⟩))), own_moved h.s fun g hg => hb g (.inr hg), fun k hk hk' => ?_, fun k hk e => ?_, h.fs, fun k hk => ?_⟩
  · rcases hn k hk with hk | hk
    · exact h.hf k hk hk'
    · have := h.lt k (.inr (.inl hk')); omega
  · rcases hn k hk with hk | hk
    · exact h.hs k hk e
    · have := h.lt k (.inr (.inr e)); omega
  · rcases hk with hk | hk | hk
    · rcases hn k hk with hk | hk
      · exact h.low k (.inl hk)
      · omega
    · exact h.low k (.inr (.inl hk))
    · exact h.low k (.inr (.inr hk))
/-- More said. -/
theorem MOwn.withS (h : MOwn B u vh vf vs m ch cf Th Tf) {vs' : Value} {sd : List Int} (hB : B ≤ u.heap.size) (hz : u.heap.size ≤ w.heap.size) (hs : w.ownsRow B 2 1 vs' sd.length (nums sd)) (hb : ∀ k, Blk vh Th k ∨ Blk vf Tf k → w.heap[k]? = u.heap[k]?) (hn : ∀ k, vs'.ownBlock = some k → vs.ownBlock = some k ∨ u.heap.size ≤ k) :
    MOwn B w vh vf vs' { m with said := sd } ch cf Th Tf := by
  refine ⟨h.h.moved hz (fun g hg => hb g (.inl (.inl hg))) (fun i j k hk => hb k (.inl (.inr ⟨i, j, hk⟩))), h.f.moved hz (fun g hg => hb g (.inr (.inl hg))) (fun i j k hk => hb k (.inr (.inr ⟨i, j, hk⟩))), hs, h.hf, fun k hk e => ?_, fun k hk e => ?_, fun k hk => ?_⟩
  · rcases hn k e with e | e
    · exact h.hs k hk e
    · have := h.lt k (.inl hk); omega
  · rcases hn k e with e | e
    · exact h.fs k hk e
    · have := h.lt k (.inr (.inl hk)); omega
  · rcases hk with hk | hk | hk
    · exact h.low k (.inl hk)
    · exact h.low k (.inr (.inl hk))
    · rcases hn k hk with hk | hk
      · exact h.low k (.inr (.inr hk))
      · omega
/-- How it ended and with what lies in the machine's own block alone. -/
theorem MOwn.ends (h : MOwn B w vh vf vs m ch cf Th Tf) (e c : Int) : MOwn B w vh vf vs { m with fin := e, code := c } ch cf Th Tf := ⟨h.h, h.f, h.s, h.hf, h.hs, h.fs, h.low⟩
/-- The machine in its block M. -/
def MSt (B M : Nat) (w : World) (m : Mc) : Prop := ∃ vh vf vs ch cf Th Tf, Cells w M [vh, vf, vs, .int .i64 m.fin, .int .i64 m.code] ∧ B ≤ M ∧ MOwn B w vh vf vs m ch cf Th Tf ∧ ∀ k, Blk vh Th k ∨ Blk vf Tf k ∨ vs.ownBlock = some k → k ≠ M
theorem MSt.on {m : Mc} (h : MSt B M u m) (hb : Below u.heap.size u w) : MSt B M w m := by
  obtain ⟨vh, vf, vs, ch, cf, Th, Tf, h1, h2, h3, h4⟩ := h
  exact ⟨vh, vf, vs, ch, cf, Th, Tf, h1.on hb, h2, h3.on hb, h4⟩
end Pg
end Go.Proofs.Ytffkkhaiedhaiaa

/- The laws' own marks in machines that a call has made. -/
namespace Go.Proofs.Ytffkkhaiedhaiaa
namespace Pg
open Go.ChangeShapes Go.WideShapes Go.ChangeAt Go.RowKit St

def vmarks (m n : Nat) : List Vl := (List.range n).map fun (j : Nat) => (((m : Int) + 2 * (j : Int), (m : Int) + 2 * (j : Int) + 1) : Vl)
theorem vmarks_len (m n : Nat) : (vmarks m n).length = n := by simp [vmarks]
theorem vmarks_at {m n k : Nat} (h : k < n) : (vmarks m n)[k]? = some ((m : Int) + 2 * (k : Int), (m : Int) + 2 * (k : Int) + 1) := by simp [vmarks, h]
theorem only_tch {g : Nat} {S : Nat → Prop} {u w : World} (h : Only g u w) (hs : S g) : Tch S u w := by
  have hb := h.below (Nat.zero_le g)
  exact ⟨hb.os, hb.tape, hb.output, hb.size, fun k _ hk => h.block k (fun e => hk (e ▸ hs))⟩
theorem retN {p q : Int} (h : p = q) : Ending.returned (.int .i64 p) = .returned (.int .i64 q) := by rw [h]

/-- Objects, marked from m on. -/
def cntO1 (x : Ob) : Nat := 1 + 2 * x.flds.length
def markO1 (m : Nat) (x : Ob) : Ob := ⟨(m : Int), vmarks (m + 1) x.flds.length⟩
def offO (m : Nat) (l : List Ob) (i : Nat) : Nat := m + sumN ((l.take i).map cntO1)
def midO (m : Nat) (l : List Ob) (k : Nat) : List Ob := l.mapIdx fun i x => if i < k then markO1 (offO m l i) x else x
def marksO (m : Nat) (l : List Ob) : List Ob := midO m l l.length
theorem midO_len (m : Nat) (l : List Ob) (k : Nat) : (midO m l k).length = l.length := by simp [midO]
theorem midO_at (m : Nat) (l : List Ob) (k i : Nat) : (midO m l k)[i]? = l[i]?.map fun x => if i < k then markO1 (offO m l i) x else x := by simp [midO]
theorem midO_zero (m : Nat) (l : List Ob) : midO m l 0 = l := by
  apply List.ext_getElem?
  intro i
  rw [midO_at]
  cases l[i]? <;> simp
theorem offO_next (m : Nat) {l : List Ob} {k : Nat} (hk : k < l.length) : offO m l (k + 1) = offO m l k + cntO1 l[k] := by
  unfold offO
  rw [sumN_take_succ _ _ _ hk]
  omega
theorem offO_le (m : Nat) (l : List Ob) (k : Nat) : offO m l k ≤ m + sumN (l.map cntO1) := by
  unfold offO
  have := sumN_take_le cntO1 l k
  omega
theorem offO_end (m : Nat) {l : List Ob} {k : Nat} (hk : l.length ≤ k) : offO m l k = m + sumN (l.map cntO1) := by
  unfold offO
  rw [List.take_of_length_le hk]
theorem OE.far {T : Nat → Nat → Prop} {w : World} {b o i : Nat} {x : Ob} (h : OE T w b o x) (hT : ∀ j k, T j k → k ≠ b) (hi : i < o ∨ o + 1 < i) (v : Value) : OE T (w.setCell ⟨b, i, none⟩ v) b o x := by
  obtain ⟨v1, c0, c1, z0⟩ := h
  have ht : Tch (fun k => k = b) w (w.setCell ⟨b, i, none⟩ v) := Tch.set (S := fun k => k = b) w (p := ⟨b, i, none⟩) rfl v
  exact ⟨v1, (World.cell?_setCell_other _ _ _ _ (ne_off (by omega))).trans c0, (World.cell?_setCell_other _ _ _ _ (ne_off (by omega))).trans c1, z0.tch ht (hT 0)⟩
theorem OE.tch {T : Nat → Nat → Prop} {R : Nat → Prop} {u w : World} {b o : Nat} {x : Ob} (h : OE T u b o x) (ht : Tch R u w) (hb : ¬ R b) (hd : ∀ j k, T j k → ¬ R k) (hl : b < u.heap.size) : OE T w b o x := h.moved ht.size (ht.far b hl hb) fun j k hk hkl => ht.far k hkl (hd j k hk)

/-- Frames, marked from m on. -/
def cntF1 (x : Fr) : Nat := 3 + 2 * x.stk.length + 2 * x.loc.length
def markF1 (m : Nat) (x : Fr) : Fr := ⟨(m : Int), (m : Int) + 1, (m : Int) + 1 + 1, vmarks (m + 3) x.stk.length, vmarks (m + 3 + 2 * x.stk.length) x.loc.length⟩
def offF (m : Nat) (l : List Fr) (i : Nat) : Nat := m + sumN ((l.take i).map cntF1)
def midF (m : Nat) (l : List Fr) (k : Nat) : List Fr := l.mapIdx fun i x => if i < k then markF1 (offF m l i) x else x
def marksF (m : Nat) (l : List Fr) : List Fr := midF m l l.length
theorem midF_len (m : Nat) (l : List Fr) (k : Nat) : (midF m l k).length = l.length := by simp [midF]
theorem midF_at (m : Nat) (l : List Fr) (k i : Nat) : (midF m l k)[i]? = l[i]?.map fun x => if i < k then markF1 (offF m l i) x else x := by simp [midF]
theorem midF_zero (m : Nat) (l : List Fr) : midF m l 0 = l := by
  apply List.ext_getElem?
  intro i
  rw [midF_at]
  cases l[i]? <;> simp
theorem offF_next (m : Nat) {l : List Fr} {k : Nat} (hk : k < l.length) : offF m l (k + 1) = offF m l k + cntF1 l[k] := by
  unfold offF
  rw [sumN_take_succ _ _ _ hk]
  omega
theorem offF_le (m : Nat) (l : List Fr) (k : Nat) : offF m l k ≤ m + sumN (l.map cntF1) := by
  unfold offF
  have := sumN_take_le cntF1 l k
  omega
theorem offF_end (m : Nat) {l : List Fr} {k : Nat} (hk : l.length ≤ k) : offF m l k = m + sumN (l.map cntF1) := by
  unfold offF
  rw [List.take_of_length_le hk]
theorem FE.far {T : Nat → Nat → Prop} {w : World} {b o i : Nat} {x : Fr} (h : FE T w b o x) (hT : ∀ j k, T j k → k ≠ b) (hi : i < o ∨ o + 4 < i) (v : Value) : FE T (w.setCell ⟨b, i, none⟩ v) b o x := by
  obtain ⟨v1, v2, c0, c1, c2, c3, c4, z0, z1⟩ := h
  have ht : Tch (fun k => k = b) w (w.setCell ⟨b, i, none⟩ v) := Tch.set (S := fun k => k = b) w (p := ⟨b, i, none⟩) rfl v
  exact ⟨v1, v2, (World.cell?_setCell_other _ _ _ _ (ne_off (by omega))).trans c0, (World.cell?_setCell_other _ _ _ _ (ne_off (by omega))).trans c1, (World.cell?_setCell_other _ _ _ _ (ne_off (by omega))).trans c2, (World.cell?_setCell_other _ _ _ _ (ne_off (by omega))).trans c3, (World.cell?_setCell_other _ _ _ _ (ne_off (by omega))).trans c4, z0.tch ht (hT 0), z1.tch ht (hT 1)⟩
theorem FE.tch {T : Nat → Nat → Prop} {R : Nat → Prop} {u w : World} {b o : Nat} {x : Fr} (h : FE T u b o x) (ht : Tch R u w) (hb : ¬ R b) (hd : ∀ j k, T j k → ¬ R k) (hl : b < u.heap.size) : FE T w b o x := h.moved ht.size (ht.far b hl hb) fun j k hk hkl => ht.far k hkl (hd j k hk)
end Pg
end Go.Proofs.Ytffkkhaiedhaiaa

/- Contracts of the program's own small functions on programs. -/
namespace Go.Proofs.Ytffkkhaiedhaiaa
namespace Pg
open Go.ChangeShapes Go.WideShapes Go.ChangeAt Go.RowKit St

theorem diff_no {l r : List Int} {k : Nat} (h1 : k < l.length) (h2 : k < r.length) (h : l[k] ≠ r[k]) : decide (l = r) = false := by
  simp only [decide_eq_false_iff_not]
  intro e
  subst e
  exact h rfl
theorem same_take {l r : List Int} {k : Nat} (h1 : k < l.length) (h2 : k < r.length) (h : l.take k = r.take k) (he : l[k] = r[k]) : l.take (k + 1) = r.take (k + 1) := by
  rw [List.take_succ_eq_append_getElem h1, List.take_succ_eq_append_getElem h2, h, he]

/-- What looking for a class's own method answers. -/
def OwnPost (B : Nat) (c : Cls) (name : Int) (w0 w : World) (e : Ending) (w' : World) : Prop :=
  ((∃ m va vc, ownF c name = some m ∧ m ∈ c.meths ∧ e = .returned (.tuple #[.agg #[.int .i64 m.name, va, .int .i64 m.gives, vc], .bool true]) ∧ MV front B w0 va vc m) ∨
   (ownF c name = none ∧ e = .returned (.tuple #[.agg #[.int .i64 0, .slice none 0 0, .int .i64 0, .slice none 0 0], .bool false]))) ∧ Below w.heap.size w w'

end Pg
end Go.Proofs.Ytffkkhaiedhaiaa
