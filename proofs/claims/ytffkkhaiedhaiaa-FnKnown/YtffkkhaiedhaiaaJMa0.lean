/- When a program is right, as a plain function. -/
import Derived.Test.YtffkkhaiedhaiaaJGr0
namespace Go.Proofs.Ytffkkhaiedhaiaa
namespace Pg
open Go.ChangeShapes Go.WideShapes Go.ChangeAt Go.RowKit St

def tyB (n t : Int) : Bool := decide (t = -1) || (decide (0 ≤ t) && decide (t < n))
def okMB (n : Int) (m : Meth) : Bool := decide (0 ≤ m.name) && decide (m.name ≤ 19) && decide (m.args.length ≤ 3) && m.args.all (tyB n) && tyB n m.gives && Lay.codeOk m.code
def ownF (c : Cls) (name : Int) : Option Meth := c.meths.find? fun m => decide (m.name = name)
def agree1 (c : Cls) (m : Meth) : Bool := match ownF c m.name with | none => true | some x => decide (x.args = m.args) && decide (x.gives = m.gives)
def agreeF (p : Prg) (m : Meth) : Nat → Int → Bool
  | 0, _ => true
  | f + 1, up => if up < 0 then true else match p[up.toNat]? with | none => true | some c => agree1 c m && agreeF p m f c.super
def okK (p : Prg) (c : Cls) (k : Nat) : Bool := match c.meths[k]? with
  | none => true
  | some m => okMB p.length m && (match k with | 0 => true | j + 1 => match c.meths[j]? with | none => true | some q => decide (q.name < m.name)) && agreeF p m 6 c.super
def okCB (p : Prg) (i : Nat) (c : Cls) : Bool := decide (-1 ≤ c.super) && decide (c.super < (i : Int)) && decide (c.fields.length ≤ 4) && c.fields.all (tyB p.length) && decide (c.meths.length ≤ 4) && (List.range c.meths.length).all (okK p c)
def okAt (p : Prg) (i : Nat) : Bool := match p[i]? with | none => true | some c => okCB p i c
def mainOk (p : Prg) : Bool := match p[0]? with | none => false | some c => match ownF c 0 with | none => false | some m => decide (m.args.length = 0) && decide (m.gives = -1)
def okP (p : Prg) : Bool := decide (1 ≤ p.length) && decide (p.length ≤ 6) && (List.range p.length).all (okAt p) && mainOk p

theorem okP_len {p : Prg} (h : okP p = true) : 1 ≤ p.length ∧ p.length ≤ 6 := by
  unfold okP at h
  simp only [Bool.and_eq_true, decide_eq_true_eq] at h
  exact ⟨h.1.1.1, h.1.1.2⟩
theorem okP_at {p : Prg} (h : okP p = true) {i : Nat} (hi : i < p.length) : okAt p i = true := by
  unfold okP at h
  simp only [Bool.and_eq_true] at h
  exact List.all_eq_true.1 h.1.2 i (List.mem_range.2 hi)
theorem okP_few {p : Prg} (h : p.length < 1) : okP p = false := by simp [okP]; omega
theorem okP_many {p : Prg} (h : 6 < p.length) : okP p = false := by
  cases hh : okP p
  · rfl
  · have := okP_len hh; omega
theorem okP_no {p : Prg} {i : Nat} (hi : i < p.length) (h : okAt p i = false) : okP p = false := by
  cases hh : okP p
  · rfl
  · rw [okP_at hh hi] at h; simp at h
theorem okP_main {p : Prg} (h1 : 1 ≤ p.length) (h2 : p.length ≤ 6) (h : ∀ i, i < p.length → okAt p i = true) : okP p = mainOk p := by
  have : (List.range p.length).all (okAt p) = true := List.all_eq_true.2 fun i hi => h i (List.mem_range.1 hi)
  simp [okP, this, h1, h2]
theorem okAt_of {p : Prg} {i : Nat} {c : Cls} (h : p[i]? = some c) : okAt p i = okCB p i c := by simp [okAt, h]
theorem okC_super {p : Prg} {i : Nat} {c : Cls} (h : okCB p i c = true) : -1 ≤ c.super ∧ c.super < (i : Int) := by
  unfold okCB at h
  simp only [Bool.and_eq_true, decide_eq_true_eq] at h
  exact ⟨h.1.1.1.1.1, h.1.1.1.1.2⟩
theorem okC_few {p : Prg} {i : Nat} {c : Cls} (h : okCB p i c = true) : c.fields.length ≤ 4 ∧ c.meths.length ≤ 4 := by
  unfold okCB at h
  simp only [Bool.and_eq_true, decide_eq_true_eq] at h
  exact ⟨h.1.1.1.2, h.1.2⟩
theorem okC_meth {p : Prg} {i : Nat} {c : Cls} (h : okCB p i c = true) {k : Nat} (hk : k < c.meths.length) : okK p c k = true := by
  unfold okCB at h
  simp only [Bool.and_eq_true] at h
  exact List.all_eq_true.1 h.2 k (List.mem_range.2 hk)
theorem okC_no {p : Prg} {i : Nat} {c : Cls} {k : Nat} (hk : k < c.meths.length) (h : okK p c k = false) : okCB p i c = false := by
  cases hh : okCB p i c
  · rfl
  · rw [okC_meth hh hk] at h; simp at h
/-- All classes before this one have a lesser Super. -/
def SupOk (p : Prg) (n : Nat) : Prop := ∀ j c, j < n → p[j]? = some c → -1 ≤ c.super ∧ c.super < (j : Int)
theorem SupOk.of {p : Prg} {n : Nat} (h : ∀ i, i < n → okAt p i = true) : SupOk p n := fun j c hj hc => okC_super (by rw [← okAt_of hc]; exact h j hj)
theorem agreeF_neg (p : Prg) (m : Meth) (f : Nat) {up : Int} (h : up < 0) : agreeF p m f up = true := by
  cases f with
  | zero => rfl
  | succ f => simp [agreeF, h]
theorem agreeF_fuel {p : Prg} {n : Nat} (hs : SupOk p n) (m : Meth) : ∀ (f g : Nat) (up : Int), up < (n : Int) → up < (f : Int) → up < (g : Int) → agreeF p m f up = agreeF p m g up := by
  intro f
  induction f with
  | zero => intro g up _ h1 _; rw [agreeF_neg _ _ _ (by omega), agreeF_neg _ _ _ (by omega)]
  | succ f ih =>
    intro g up hn h1 h2
    by_cases h0 : up < 0
    · rw [agreeF_neg _ _ _ h0, agreeF_neg _ _ _ h0]
    · cases g with
      | zero => omega
      | succ g =>
        simp only [agreeF, h0, if_false]
        cases hc : p[up.toNat]? with
        | none => rfl
        | some c =>
          have := hs up.toNat c (by omega) hc
          simp only []
          rw [ih g c.super (by omega) (by omega) (by omega)]
/-- One class further up. -/
theorem agreeF_step {p : Prg} {n : Nat} (hs : SupOk p n) (m : Meth) {u : Nat} (hu : u < n) (h6 : u < 6) {c : Cls} (hc : p[u]? = some c) : agreeF p m 6 (u : Int) = (agree1 c m && agreeF p m 6 c.super) := by
  have h0 : ¬ (u : Int) < 0 := by omega
  have := hs u c hu hc
  have e : agreeF p m 5 c.super = agreeF p m 6 c.super := agreeF_fuel hs m 5 6 c.super (by omega) (by omega) (by omega)
  show (if (u : Int) < 0 then true else match p[(u : Int).toNat]? with | none => true | some c => agree1 c m && agreeF p m 5 c.super) = _
  rw [if_neg h0, Int.toNat_natCast, hc]
  simp only []
  rw [e]
theorem find_none {c : Cls} {name : Int} (h : ∀ j, j < c.meths.length → ∀ m, c.meths[j]? = some m → m.name ≠ name) : ownF c name = none := by
  unfold ownF
  rw [List.find?_eq_none]
  intro m hm
  obtain ⟨j, hj, rfl⟩ := List.getElem_of_mem hm
  simpa using h j hj _ (List.getElem?_eq_getElem hj)
theorem find_at {c : Cls} {name : Int} {k : Nat} {m : Meth} (h : ∀ j, j < k → ∀ m, c.meths[j]? = some m → m.name ≠ name) (hk : c.meths[k]? = some m) (hn : m.name = name) : ownF c name = some m := by
  unfold ownF
  rw [List.find?_eq_some_iff_getElem]
  obtain ⟨hlt, hm⟩ := List.getElem?_eq_some_iff.1 hk
  refine ⟨by simpa using hn, k, hlt, hm, fun j hj => ?_⟩
  simpa using h j hj _ (List.getElem?_eq_getElem (by omega))
end Pg
end Go.Proofs.Ytffkkhaiedhaiaa

/- Who is above whom, as plain functions of a program. -/
namespace Go.Proofs.Ytffkkhaiedhaiaa
namespace Pg
open Go.ChangeShapes Go.WideShapes Go.ChangeAt Go.RowKit St

/-- A class, its Super, and so on. -/
def upF (p : Prg) : Nat → Int → List Int
  | 0, _ => []
  | f + 1, c => if c < 0 then [] else match p[c.toNat]? with | none => [] | some k => c :: upF p f k.super
def upL (p : Prg) (c : Int) : List Int := upF p 6 c
theorem upF_neg (p : Prg) (f : Nat) {c : Int} (h : c < 0) : upF p f c = [] := by
  cases f with
  | zero => rfl
  | succ f => simp [upF, h]
theorem upL_neg (p : Prg) {c : Int} (h : c < 0) : upL p c = [] := upF_neg p 6 h
theorem upF_fuel {p : Prg} {n : Nat} (hs : SupOk p n) : ∀ (f g : Nat) (up : Int), up < (n : Int) → up < (f : Int) → up < (g : Int) → upF p f up = upF p g up := by
  intro f
  induction f with
  | zero => intro g up _ h1 _; rw [upF_neg _ _ (by omega), upF_neg _ _ (by omega)]
  | succ f ih =>
    intro g up hn h1 h2
    by_cases h0 : up < 0
    · rw [upF_neg _ _ h0, upF_neg _ _ h0]
    · cases g with
      | zero => omega
      | succ g =>
        simp only [upF, h0, if_false]
        cases hc : p[up.toNat]? with
        | none => rfl
        | some c =>
          have := hs up.toNat c (by omega) hc
          simp only []
          rw [ih g c.super (by omega) (by omega) (by omega)]
theorem upL_step {p : Prg} {n : Nat} (hs : SupOk p n) {u : Nat} (hu : u < n) (h6 : u < 6) {c : Cls} (hc : p[u]? = some c) : upL p (u : Int) = (u : Int) :: upL p c.super := by
  have h0 : ¬ (u : Int) < 0 := by omega
  have := hs u c hu hc
  have e : upF p 5 c.super = upF p 6 c.super := upF_fuel hs 5 6 c.super (by omega) (by omega) (by omega)
  show (if (u : Int) < 0 then [] else match p[(u : Int).toNat]? with | none => [] | some k => (u : Int) :: upF p 5 k.super) = _
  rw [if_neg h0, Int.toNat_natCast, hc]
  simp only []
  rw [e]
  rfl
theorem upF_len (p : Prg) : ∀ (f : Nat) (c : Int), (upF p f c).length ≤ f := by
  intro f
  induction f with
  | zero => intro c; simp [upF]
  | succ f ih =>
    intro c
    simp only [upF]
    split
    · simp
    · split
      · simp
      · simp only [List.length_cons]; have := ih ‹Cls›.super; omega
theorem upL_len (p : Prg) (c : Int) : (upL p c).length ≤ 6 := upF_len p 6 c
theorem upF_mem {p : Prg} : ∀ (f : Nat) (c x : Int), x ∈ upF p f c → 0 ≤ x ∧ x < (p.length : Int) := by
  intro f
  induction f with
  | zero => intro c x h; simp [upF] at h
  | succ f ih =>
    intro c x h
    simp only [upF] at h
    split at h
    · simp at h
    · split at h
      · simp at h
      · rename_i hc k hk
        rcases List.mem_cons.1 h with rfl | h
        · have := (List.getElem?_eq_some_iff.1 hk).1; omega
        · exact ih _ _ h
theorem upL_mem {p : Prg} {c x : Int} (h : x ∈ upL p c) : 0 ≤ x ∧ x < (p.length : Int) := upF_mem 6 c x h
/-- Is b above a (or a itself)? -/
def undB (p : Prg) (a b : Int) : Bool := decide (b ∈ upL p a)
/-- Has the class of this number a method of its own with this name? -/
def hasM (p : Prg) (name : Int) (x : Int) : Bool := match p[x.toNat]? with | none => false | some c => (ownF c name).isSome
def selF (p : Prg) (c name : Int) : Int := ((upL p c).find? (hasM p name)).getD (-1)
theorem find_step {α : Type} (f : α → Bool) (x : α) (l : List α) : (x :: l).find? f = if f x then some x else l.find? f := by
  rw [List.find?_cons]; cases f x <;> rfl
end Pg
end Go.Proofs.Ytffkkhaiedhaiaa

/- Machines as plain data: what a right one is, how one begins; the fields of a class. -/
namespace Go.Proofs.Ytffkkhaiedhaiaa
namespace Pg
open Go.ChangeShapes Go.WideShapes Go.ChangeAt Go.RowKit St Wd

abbrev Vl := Int × Int
structure Ob where
  cls : Int
  flds : List Vl
structure Fr where
  cls : Int
  name : Int
  pos : Int
  stk : List Vl
  loc : List Vl
structure Mc where
  heap : List Ob
  frames : List Fr
  said : List Int
  fin : Int
  code : Int
instance : Inhabited Ob := ⟨⟨0, []⟩⟩
instance : Inhabited Fr := ⟨⟨0, 0, 0, [], []⟩⟩

/-- The fields of a class, from the highest above it on. -/
def fieldsR (p : Prg) : Nat → Int → List Int
  | 0, _ => []
  | f + 1, up => if up < 0 then [] else match p[up.toNat]? with | none => [] | some c => fieldsR p f c.super ++ c.fields
theorem fieldsR_neg (p : Prg) (f : Nat) {up : Int} (h : up < 0) : fieldsR p f up = [] := by
  cases f with
  | zero => rfl
  | succ f => simp [fieldsR, h]
theorem fieldsR_fuel {p : Prg} {n : Nat} (hs : SupOk p n) : ∀ (f g : Nat) (up : Int), up < (n : Int) → up < (f : Int) → up < (g : Int) → fieldsR p f up = fieldsR p g up := by
  intro f
  induction f with
  | zero => intro g up _ h1 _; rw [fieldsR_neg _ _ (by omega), fieldsR_neg _ _ (by omega)]
  | succ f ih =>
    intro g up hn h1 h2
    by_cases h0 : up < 0
    · rw [fieldsR_neg _ _ h0, fieldsR_neg _ _ h0]
    · cases g with
      | zero => omega
      | succ g =>
        simp only [fieldsR, h0, if_false]
        cases hc : p[up.toNat]? with
        | none => rfl
        | some c =>
          have := hs up.toNat c (by omega) hc
          simp only []
          rw [ih g c.super (by omega) (by omega) (by omega)]
theorem fieldsR_step {p : Prg} {n : Nat} (hs : SupOk p n) {u : Nat} (hu : u < n) (h6 : u < 6) {c : Cls} (hc : p[u]? = some c) : fieldsR p 6 (u : Int) = fieldsR p 6 c.super ++ c.fields := by
  have h0 : ¬ (u : Int) < 0 := by omega
  have := hs u c hu hc
  have e : fieldsR p 5 c.super = fieldsR p 6 c.super := fieldsR_fuel hs 5 6 c.super (by omega) (by omega) (by omega)
  show (if (u : Int) < 0 then [] else match p[(u : Int).toNat]? with | none => [] | some c => fieldsR p 5 c.super ++ c.fields) = _
  rw [if_neg h0, Int.toNat_natCast, hc]
  simp only []
  rw [e]
theorem fieldsR_len {p : Prg} {n : Nat} (hs : SupOk p n) (h6 : n ≤ 6) (hn : n ≤ p.length) (h4 : ∀ j c, j < n → p[j]? = some c → c.fields.length ≤ 4) : ∀ (k : Nat) (up : Int), up < (k : Int) → up < (n : Int) → (fieldsR p 6 up).length ≤ 4 * k := by
  intro k
  induction k with
  | zero => intro up h _; rw [fieldsR_neg _ _ (by omega)]; simp
  | succ k ih =>
    intro up hk hu
    by_cases h0 : up < 0
    · rw [fieldsR_neg _ _ h0]; simp
    · obtain ⟨u, rfl⟩ := Int.eq_ofNat_of_zero_le (show 0 ≤ up by omega)
      have hc := List.getElem?_eq_getElem (show u < p.length by omega)
      have h1 := hs u _ (by omega) hc
      have h2 := h4 u _ (by omega) hc
      rw [fieldsR_step hs (by omega) (by omega) hc, List.length_append]
      have := ih p[u].super (by omega) (by omega)
      omega
theorem okP_sup {p : Prg} (h : okP p = true) : SupOk p p.length := SupOk.of fun _ hi => okP_at h hi
theorem okP_four {p : Prg} (h : okP p = true) : ∀ j c, j < p.length → p[j]? = some c → c.fields.length ≤ 4 := fun _ _ hj hc => (okC_few (by rw [← okAt_of hc]; exact okP_at h hj)).1

def frmV (l : List Vl) : List Vl := l ++ List.replicate (8 - l.length) (1, 0)
theorem frmV_len {l : List Vl} (h : l.length ≤ 8) : (frmV l).length = 8 := by simp [frmV]; omega
def valF (t : Int) : Vl := if t = -1 then (1, 0) else (3, 0)
def startM (p : Prg) : Mc := ⟨[⟨0, (fieldsR p 6 0).map valF⟩], [⟨0, 0, 0, [], frmV [(2, 0)]⟩], [], 0, 0⟩
def valB (x : Vl) : Bool := if x.1 = 1 then okB x.2 else if x.1 = 2 then decide (0 ≤ x.2) else decide (x.1 = 3) && decide (x.2 = 0)
def obB (x : Ob) : Bool := decide (x.flds.length ≤ 24) && x.flds.all valB
def frB (x : Fr) : Bool := decide (x.stk.length ≤ 8) && decide (x.loc.length = 8) && x.stk.all valB && x.loc.all valB
def machB (m : Mc) : Bool := decide (0 ≤ m.fin) && decide (m.fin ≤ 6) && !(decide (m.fin = 0) && decide (m.frames.length = 0)) && decide (m.heap.length ≤ 50) && decide (m.frames.length ≤ 30) && decide (m.said.length ≤ 20000) && m.heap.all obB && m.frames.all frB && m.said.all okB
def zeroM : Mc := ⟨[], [], [], 0, 0⟩
def startF (p : Prg) : Mc × Bool := if okP p then (startM p, true) else (zeroM, false)
end Pg
end Go.Proofs.Ytffkkhaiedhaiaa
