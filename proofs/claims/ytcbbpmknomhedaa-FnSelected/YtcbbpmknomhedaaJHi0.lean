/- Contracts of the laws' own copying of programs: rows of methods, classes, programs. -/
import Derived.Test.YtcbbpmknomhedaaJPg3
import Derived.Test.YtcbbpmknomhedaaJGr0
namespace Go.Proofs.Ytcbbpmknomhedaa
namespace Pg
open Go.ChangeShapes Go.WideShapes Go.ChangeAt Go.RowKit St

theorem ne_off {g a b : Nat} (h : a ≠ b) : (⟨g, a, none⟩ : Addr) ≠ ⟨g, b, none⟩ := fun e => h (congrArg Addr.off e)
theorem MAt.far {K : Way} {B g o i : Nat} {w : World} {m : Meth} (h : MAt K B w g o m) (hg : g < B) (hi : i < o ∨ o + 3 < i) (v : Value) : MAt K B (w.setCell ⟨g, i, none⟩ v) g o m := by
  obtain ⟨va, vc, h0, h1, h2, h3, h4⟩ := h
  exact ⟨va, vc, (World.cell?_setCell_other _ _ _ _ (ne_off (by omega))).trans h0, (World.cell?_setCell_other _ _ _ _ (ne_off (by omega))).trans h1, (World.cell?_setCell_other _ _ _ _ (ne_off (by omega))).trans h2, (World.cell?_setCell_other _ _ _ _ (ne_off (by omega))).trans h3, h4.on (Keep.set w (p := ⟨g, i, none⟩) hg v)⟩
theorem CAt.far {K : Way} {B g o i : Nat} {w : World} {m : Cls} (h : CAt K B w g o m) (hg : g < B) (hi : i < o ∨ o + 2 < i) (v : Value) : CAt K B (w.setCell ⟨g, i, none⟩ v) g o m := by
  obtain ⟨va, vc, h0, h1, h2, h4⟩ := h
  exact ⟨va, vc, (World.cell?_setCell_other _ _ _ _ (ne_off (by omega))).trans h0, (World.cell?_setCell_other _ _ _ _ (ne_off (by omega))).trans h1, (World.cell?_setCell_other _ _ _ _ (ne_off (by omega))).trans h2, h4.on (Keep.set w (p := ⟨g, i, none⟩) hg v)⟩
/-- All is short. -/
def SmallM (m : Meth) : Prop := m.args.length ≤ 1048576 ∧ m.code.length ≤ 1048576
def SmallC (c : Cls) : Prop := c.fields.length ≤ 1048576 ∧ c.meths.length ≤ 1048576 ∧ ∀ m ∈ c.meths, SmallM m
def SmallP (p : Prg) : Prop := p.length ≤ 1048576 ∧ ∀ c ∈ p, SmallC c
theorem SmallP.of {p : Prg} (h : szP p ≤ 1048576) : SmallP p := by
  refine ⟨by unfold szP at h; omega, fun c hc => ?_⟩
  have h1 := szC_le hc
  have e : szC c = c.fields.length + szMs c.meths := rfl
  have e2 : szMs c.meths = c.meths.length + sumN (c.meths.map szM) := rfl
  refine ⟨by omega, by omega, fun m hm => ?_⟩
  have h2 := szM_le hm
  have e3 : szM m = m.args.length + m.code.length := rfl
  exact ⟨by omega, by omega⟩

end Pg
end Go.Proofs.Ytcbbpmknomhedaa

/- Contracts of the laws' own comparing of programs, where both are the same. -/
namespace Go.Proofs.Ytcbbpmknomhedaa
namespace Pg
open Go.ChangeShapes Go.WideShapes Go.ChangeAt Go.RowKit St

end Pg
end Go.Proofs.Ytcbbpmknomhedaa

/- Who is above whom, as plain functions of a program. -/
namespace Go.Proofs.Ytcbbpmknomhedaa
namespace Pg
open Go.ChangeShapes Go.WideShapes Go.ChangeAt Go.RowKit St

/-- A class, its Super, and so on. -/
def upF (p : Prg) : Nat → Int → List Int
  | 0, _ => []
  | f + 1, c => if c < 0 then [] else match p[c.toNat]? with | none => [] | some k => c :: upF p f k.super
def upL (p : Prg) (c : Int) : List Int := upF p 6 c
theorem upF_neg (p : Prg) (f : Nat) {c : Int} (h : c < 0) : upF p f c = [] := by
  cases f with
  | zero => rfl
  | succ f => simp [upF, h]
theorem upL_neg (p : Prg) {c : Int} (h : c < 0) : upL p c = [] := upF_neg p 6 h
theorem upF_fuel {p : Prg} {n : Nat} (hs : SupOk p n) : ∀ (f g : Nat) (up : Int), up < (n : Int) → up < (f : Int) → up < (g : Int) → upF p f up = upF p g up := by
  intro f
  induction f with
  | zero => intro g up _ h1 _; rw [upF_neg _ _ (by omega), upF_neg _ _ (by omega)]
  | succ f ih =>
    intro g up hn h1 h2
    by_cases h0 : up < 0
    · rw [upF_neg _ _ h0, upF_neg _ _ h0]
    · cases g with
      | zero => omega
      | succ g =>
        simp only [upF, h0, if_false]
        cases hc : p[up.toNat]? with
        | none => rfl
        | some c =>
          have := hs up.toNat c (by omega) hc
          simp only []
          rw [ih g c.super (by omega) (by omega) (by omega)]
theorem upL_step {p : Prg} {n : Nat} (hs : SupOk p n) {u : Nat} (hu : u < n) (h6 : u < 6) {c : Cls} (hc : p[u]? = some c) : upL p (u : Int) = (u : Int) :: upL p c.super := by
  have h0 : ¬ (u : Int) < 0 := by omega
  have := hs u c hu hc
  have e : upF p 5 c.super = upF p 6 c.super := upF_fuel hs 5 6 c.super (by omega) (by omega) (by omega)
  show (if (u : Int) < 0 then [] else match p[(u : Int).toNat]? with | none => [] | some k => (u : Int) :: upF p 5 k.super) = _
  rw [if_neg h0, Int.toNat_natCast, hc]
  simp only []
  rw [e]
  rfl
theorem upF_len (p : Prg) : ∀ (f : Nat) (c : Int), (upF p f c).length ≤ f := by
  intro f
  induction f with
  | zero => intro c; simp [upF]
  | succ f ih =>
    intro c
    simp only [upF]
    split
    · simp
    · split
      · simp
      · simp only [List.length_cons]; have := ih ‹Cls›.super; omega
theorem upL_len (p : Prg) (c : Int) : (upL p c).length ≤ 6 := upF_len p 6 c
theorem upF_mem {p : Prg} : ∀ (f : Nat) (c x : Int), x ∈ upF p f c → 0 ≤ x ∧ x < (p.length : Int) := by
  intro f
  induction f with
  | zero => intro c x h; simp [upF] at h
  | succ f ih =>
    intro c x h
    simp only [upF] at h
    split at h
    · simp at h
    · split at h
      · simp at h
      · rename_i hc k hk
        rcases List.mem_cons.1 h with rfl | h
        · have := (List.getElem?_eq_some_iff.1 hk).1; omega
        · exact ih _ _ h
theorem upL_mem {p : Prg} {c x : Int} (h : x ∈ upL p c) : 0 ≤ x ∧ x < (p.length : Int) := upF_mem 6 c x h
theorem upF_le {p : Prg} (hs : SupOk p p.length) : ∀ (f : Nat) (c x : Int), x ∈ upF p f c → x ≤ c := by
  intro f
  induction f with
  | zero => intro c x h; simp [upF] at h
  | succ f ih =>
    intro c x h
    simp only [upF] at h
    split at h
    · simp at h
    · split at h
      · simp at h
      · rename_i hc k hk
        have h1 := (List.getElem?_eq_some_iff.1 hk).1
        have h2 := hs _ k h1 hk
        rcases List.mem_cons.1 h with rfl | h
        · exact Int.le_refl _
        · have := ih _ _ h; omega
theorem upL_le {p : Prg} (hs : SupOk p p.length) {c x : Int} (h : x ∈ upL p c) : x ≤ c := upF_le hs 6 c x h
theorem upL_self {p : Prg} (hs : SupOk p p.length) (h6 : p.length ≤ 6) {u : Nat} (hu : u < p.length) : (u : Int) ∈ upL p (u : Int) := by
  rw [upL_step hs hu (by omega) (List.getElem?_eq_getElem hu)]; exact List.mem_cons_self

/-- Is b above a (or a itself)? -/
def undB (p : Prg) (a b : Int) : Bool := decide (b ∈ upL p a)
/-- Has the class of this number a method of its own with this name? -/
def hasM (p : Prg) (name : Int) (x : Int) : Bool := match p[x.toNat]? with | none => false | some c => (ownF c name).isSome
def selF (p : Prg) (c name : Int) : Int := ((upL p c).find? (hasM p name)).getD (-1)
def allC (p : Prg) : List Int := (List.range p.length).map fun k : Nat => (k : Int)
/-- All that are under a class, rising. -/
def downL (p : Prg) (c : Int) : List Int := (allC p).filter fun i => undB p i c
def targL (p : Prg) (c name : Int) : List Int := (((downL p c).map fun i => selF p i name).filter fun s => decide (0 ≤ s)).foldl putL []

theorem find_step {α : Type} (f : α → Bool) (x : α) (l : List α) : (x :: l).find? f = if f x then some x else l.find? f := by
  rw [List.find?_cons]; cases f x <;> rfl
end Pg
end Go.Proofs.Ytcbbpmknomhedaa
