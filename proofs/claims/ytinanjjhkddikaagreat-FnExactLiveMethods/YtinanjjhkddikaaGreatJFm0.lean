/- Doubles, as plain functions of a program. -/
import Derived.Test.YtinanjjhkddikaaGreatJHi0
import Derived.Test.YtinanjjhkddikaaGreatJPs0
import Derived.Test.YtinanjjhkddikaaGreatJHi6
import Derived.Test.YtinanjjhkddikaaGreatJSg1
import Derived.Laws.StructEq
import Derived.Deep.Cut
import Derived.Deep.LoopGhost
import Derived.Deep.RegionWith
import Derived.BigQuiet
import Derived.Lib.QuietBelow
import Derived.Test.YtinanjjhkddikaaGreatJSf1
namespace Go.Proofs.YtinanjjhkddikaaGreat
namespace Pg
open Go.ChangeShapes Go.WideShapes Go.ChangeAt Go.RowKit St

/-- Is a method of this class what the nearest one above of its name is? -/
def dblB (p : Prg) (c : Cls) (own : Meth) : Bool := match p[(selF p c.super own.name).toNat]? with
  | none => false
  | some d => decide (0 ≤ selF p c.super own.name) && (match ownF d own.name with | none => false | some x => decide (own.code = x.code))
/-- The same, of the method of this name. -/
def dblN (p : Prg) (c : Cls) (name : Int) : Bool := match ownF c name with | none => false | some m => dblB p c m
/-- What Double answers. -/
def dblA (p : Prg) (t name : Int) : Bool := okP p && inB p t && (match p[t.toNat]? with | none => false | some c => dblN p c name)
/-- The numbers of a class's doubles. -/
def dblC (p : Prg) (i : Nat) (c : Cls) : List Int := (c.meths.filter (dblB p c)).map fun m => (i : Int) * 20 + m.name
/-- What Doubles answers. -/
def dblL (p : Prg) : List Int := if okP p then ((List.range p.length).map fun i => match p[i]? with | none => [] | some c => dblC p i c).flatten else []
/-- What Single answers of a class, of a program. -/
def sngC (p : Prg) (c : Cls) : Cls := ⟨c.super, c.fields, c.meths.filter fun m => !dblB p c m⟩
def sngP (p : Prg) : Prg := if okP p then p.map (sngC p) else []

theorem selF_or (p : Prg) (c n : Int) : selF p c n = -1 ∨ ∃ s d x, s < p.length ∧ selF p c n = ((s : Nat) : Int) ∧ p[s]? = some d ∧ ownF d n = some x := by
  unfold selF
  cases h : (upL p c).find? (hasM p n) with
  | none => exact .inl rfl
  | some y =>
    right
    have hy := upL_mem (List.mem_of_find?_eq_some h)
    have hh := List.find?_some h
    obtain ⟨s, rfl⟩ := Int.eq_ofNat_of_zero_le hy.1
    have hs : s < p.length := by omega
    unfold hasM at hh
    rw [Int.toNat_natCast, List.getElem?_eq_getElem hs] at hh
    cases hx : ownF p[s] n with
    | none => simp only [] at hh; rw [hx] at hh; simp at hh
    | some x => exact ⟨s, p[s], x, hs, rfl, List.getElem?_eq_getElem hs, hx⟩
theorem dblB_no {p : Prg} {c : Cls} {own : Meth} (h : selF p c.super own.name = -1) : dblB p c own = false := by
  unfold dblB
  rw [h]
  cases p[(-1 : Int).toNat]? <;> simp
theorem dblB_at {p : Prg} {c : Cls} {own : Meth} {s : Nat} {d : Cls} {x : Meth} (h : selF p c.super own.name = (s : Int)) (hd : p[s]? = some d) (hx : ownF d own.name = some x) : dblB p c own = decide (own.code = x.code) := by
  unfold dblB
  rw [h, Int.toNat_natCast, hd]
  simp [hx]
theorem dblA_no {p : Prg} {t name : Int} (h : (okP p && inB p t) = false) : dblA p t name = false := by unfold dblA; rw [h]; rfl
theorem dblA_none {p : Prg} {u : Nat} {name : Int} {c : Cls} (hc : p[u]? = some c) (h : ownF c name = none) : dblA p (u : Int) name = false := by
  unfold dblA
  rw [Int.toNat_natCast, hc]
  simp [dblN, h]
theorem dblA_some {p : Prg} {u : Nat} {name : Int} {c : Cls} {m : Meth} (hok : (okP p && inB p (u : Int)) = true) (hc : p[u]? = some c) (h : ownF c name = some m) : dblA p (u : Int) name = dblB p c m := by
  unfold dblA
  rw [hok, Int.toNat_natCast, hc]
  simp [dblN, h]
theorem ownF_name {c : Cls} {name : Int} {m : Meth} (h : ownF c name = some m) : m.name = name := by
  have := List.find?_some h
  simpa using this
end Pg
end Go.Proofs.YtinanjjhkddikaaGreat

/- Contracts of both sides' Double. -/
namespace Go.Proofs.YtinanjjhkddikaaGreat
namespace Pg
open Go.ChangeShapes Go.WideShapes Go.ChangeAt Go.RowKit St

end Pg
end Go.Proofs.YtinanjjhkddikaaGreat

/- Contracts of the program's isDouble and Double. -/
namespace Go.Proofs.YtinanjjhkddikaaGreat
namespace Pg
open Go.ChangeShapes Go.WideShapes Go.ChangeAt Go.RowKit St

end Pg
end Go.Proofs.YtinanjjhkddikaaGreat

/- Rows of methods and of classes, laid flat. -/
namespace Go.Proofs.YtinanjjhkddikaaGreat
namespace Pg
open Go.ChangeShapes Go.WideShapes Go.ChangeAt Go.RowKit St

/-- The cells of a row of methods. -/
def flatM : List (Meth × Value × Value) → List Value
  | [] => []
  | x :: l => .int .i64 x.1.name :: x.2.1 :: .int .i64 x.1.gives :: x.2.2 :: flatM l
theorem flatM_len (l : List (Meth × Value × Value)) : (flatM l).length = l.length * 4 := by
  induction l with
  | nil => rfl
  | cons x l ih => simp only [flatM, List.length_cons, ih]; omega
theorem flatM_snoc (l : List (Meth × Value × Value)) (x : Meth × Value × Value) : flatM (l ++ [x]) = flatM l ++ [.int .i64 x.1.name, x.2.1, .int .i64 x.1.gives, x.2.2] := by
  induction l with
  | nil => rfl
  | cons y l ih => simp only [List.cons_append, flatM, ih]
theorem flatM_at : ∀ (l : List (Meth × Value × Value)) (j : Nat) (x : Meth × Value × Value), l[j]? = some x → (flatM l)[j * 4]? = some (.int .i64 x.1.name) ∧ (flatM l)[j * 4 + 1]? = some x.2.1 ∧ (flatM l)[j * 4 + 2]? = some (.int .i64 x.1.gives) ∧ (flatM l)[j * 4 + 3]? = some x.2.2
  | [], _, _, h => by simp at h
  | y :: l, 0, x, h => by simp at h; subst h; simp [flatM]
  | y :: l, j + 1, x, h => by
    have := flatM_at l j x (by simpa using h)
    rw [show (j + 1) * 4 = j * 4 + 1 + 1 + 1 + 1 from by omega, show j * 4 + 1 + 1 + 1 + 1 + 1 = j * 4 + 1 + 1 + 1 + 1 + 1 from rfl]
    simp only [flatM, List.getElem?_cons_succ]
    exact this
/-- The cells of a row of classes. -/
def flatK : List (Cls × Value × Value) → List Value
  | [] => []
  | x :: l => .int .i64 x.1.super :: x.2.1 :: x.2.2 :: flatK l
theorem flatK_len (l : List (Cls × Value × Value)) : (flatK l).length = l.length * 3 := by
  induction l with
  | nil => rfl
  | cons x l ih => simp only [flatK, List.length_cons, ih]; omega
theorem flatK_snoc (l : List (Cls × Value × Value)) (x : Cls × Value × Value) : flatK (l ++ [x]) = flatK l ++ [.int .i64 x.1.super, x.2.1, x.2.2] := by
  induction l with
  | nil => rfl
  | cons y l ih => simp only [List.cons_append, flatK, ih]
theorem flatK_at : ∀ (l : List (Cls × Value × Value)) (j : Nat) (x : Cls × Value × Value), l[j]? = some x → (flatK l)[j * 3]? = some (.int .i64 x.1.super) ∧ (flatK l)[j * 3 + 1]? = some x.2.1 ∧ (flatK l)[j * 3 + 2]? = some x.2.2
  | [], _, _, h => by simp at h
  | y :: l, 0, x, h => by simp at h; subst h; simp [flatK]
  | y :: l, j + 1, x, h => by
    have := flatK_at l j x (by simpa using h)
    rw [show (j + 1) * 3 = j * 3 + 1 + 1 + 1 from by omega]
    simp only [flatK, List.getElem?_cons_succ]
    exact this
/-- Slices take one cell. -/
theorem one_slice {v : Value} (h : ∃ a n c, v = .slice a n c) : v.oneCell' = true := by
  obtain ⟨a, n, c, rfl⟩ := h; rfl

/-- A row of methods whose parts stand. -/
theorem sm_of {S S' : Nat} {w : World} {v : Value} {ms : List Meth} {l : List (Meth × Value × Value)} (e : l.map (·.1) = ms) (hS : S ≤ S') (hown : w.ownsRow S' 55 4 v ms.length (flatM l)) (hd : ∀ x ∈ l, MV front S w x.2.1 x.2.2 x.1) : SM front S w v ms := by
  obtain ⟨h0, ⟨hv, hn⟩ | ⟨g, cap, cur, hv, hB, hblk, hle, hmx, hsz, htk⟩⟩ := hown
  · refine ⟨none, 0, by rw [hv, hn], fun _ _ => rfl, fun hp => by omega⟩
  · have hgw : g < w.heap.size := (Array.getElem?_eq_some_iff.1 hblk).1
    refine ⟨some ⟨g, 0, none⟩, cap, hv, fun _ h => by simp at h, fun hp => ⟨g, 0, rfl, (by omega), ⟨hgw, fun _ j hj => by simp [World.frozen?, hblk]⟩, fun j m hj => ?_⟩⟩
    obtain ⟨x, hx⟩ : ∃ x, l[j]? = some x := by
      rw [← e, List.getElem?_map] at hj
      cases hq : l[j]? with
      | none => rw [hq] at hj; simp at hj
      | some x => exact ⟨x, rfl⟩
    have hxm : x.1 = m := by rw [← e, List.getElem?_map, hx] at hj; simpa using hj
    have k2 := hd x (List.mem_of_getElem? hx)
    obtain ⟨a0, a1, a2, a3⟩ := flatM_at l j x hx
    have hcell : ∀ i u, (flatM l)[i]? = some u → w.cell? ⟨g, 0 + i, none⟩ = some u := fun i u hu => by
      have := World.ownsRow.cells (w := w) ⟨h0, .inr ⟨g, cap, cur, hv, hB, hblk, hle, hmx, hsz, htk⟩⟩ (g := g) (by rw [hv]; rfl) i u hu
      rwa [Go.WideShapes.add_plain] at this
    subst hxm
    refine ⟨x.2.1, x.2.2, ?_, ?_, ?_, ?_, k2⟩
    · have := hcell _ _ a0; rwa [Nat.zero_add] at this ⊢
    · have := hcell _ _ a1; rw [Nat.zero_add] at this ⊢; exact this
    · have := hcell _ _ a2; rw [Nat.zero_add] at this ⊢; exact this
    · have := hcell _ _ a3; rw [Nat.zero_add] at this ⊢; exact this
end Pg
end Go.Proofs.YtinanjjhkddikaaGreat
