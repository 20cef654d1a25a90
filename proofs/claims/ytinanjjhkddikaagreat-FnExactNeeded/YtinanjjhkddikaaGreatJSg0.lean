/- The machine, plainly: one step as the specification does it. -/
import Derived.Test.YtinanjjhkddikaaGreatJSu0
import Derived.Test.YtinanjjhkddikaaGreatJSf9
namespace Go.Proofs.YtinanjjhkddikaaGreat
namespace Pg
open Go.ChangeShapes Go.WideShapes Go.ChangeAt Go.RowKit St Wd

def takesS (op : Int) : Nat := if op = 3 ∨ op = 8 ∨ op = 9 ∨ op = 12 ∨ op = 15 ∨ op = 18 ∨ op = 19 ∨ op = 20 then 1 else if op = 4 ∨ op = 5 ∨ op = 6 ∨ op = 7 ∨ op = 10 ∨ op = 16 then 2 else 0
def putsS (op : Int) : Nat := if op = 1 ∨ op = 2 ∨ op = 4 ∨ op = 5 ∨ op = 6 ∨ op = 7 ∨ op = 13 ∨ op = 14 ∨ op = 15 ∨ op = 18 then 1 else if op = 8 ∨ op = 10 then 2 else 0
/-- Is it an object of a class or one under it? -/
def objS (p : Prg) (h : List Ob) (v : Vl) (c : Int) : Bool :=
  decide (v.1 = 2) && (match h[v.2.toNat]? with | none => false | some o => decide (0 ≤ o.cls) && decide (o.cls < (p.length : Int)) && undB p o.cls c)
def isS (p : Prg) (h : List Ob) (v : Vl) (t : Int) : Bool := if t = -1 then decide (v.1 = 1) else decide (v.1 = 3) || objS p h v t
/-- A class's own field, where there is one. -/
def fldS (p : Prg) (A B : Int) : Option Int := match p[A.toNat]? with | none => none | some c => c.fields[B.toNat]?
def placeS (p : Prg) (A B : Int) : Nat := match p[A.toNat]? with | none => 0 | some c => (fieldsR p 6 c.super).length + B.toNat
/-- The method that a frame runs. -/
def ownS (p : Prg) (f : Fr) : Option Meth := if f.cls < 0 then none else match p[f.cls.toNat]? with | none => none | some c => ownF c f.name
def methS (p : Prg) (c n : Int) : Option Meth := if c < 0 then none else match p[c.toNat]? with | none => none | some k => ownF k n
def topV (s : List Vl) : Vl := s.getLast?.getD (0, 0)
def nextV (s : List Vl) : Vl := s.dropLast.getLast?.getD (0, 0)
def withTop (m : Mc) (f : Fr) : Mc := { m with frames := m.frames.dropLast ++ [f] }
/-- On, with these put in the place of what was taken. -/
def onS (m : Mc) (f : Fr) (take : Nat) (put : List Vl) (pos : Int) : Mc × Int := (withTop m { f with stk := f.stk.take (f.stk.length - take) ++ put, pos := pos }, 0)
def callS (p : Prg) (m : Mc) (f : Fr) (A B : Int) : Mc × Int :=
  match methS p (selF p A B) B with
  | none => (m, 6)
  | some own =>
    if (p.length : Int) ≤ A then (m, 6) else
    if f.stk.length < own.args.length + 1 ∨ 8 < f.stk.length - own.args.length then (m, 6) else
    let keep := f.stk.length - own.args.length - 1
    if !((List.range own.args.length).all fun k => isS p m.heap ((f.stk[keep + 1 + k]?).getD (0, 0)) ((own.args[k]?).getD 0)) then (m, 6) else
    let who := (f.stk[keep]?).getD (0, 0)
    if who.1 = 3 then (m, 3) else
    if !(objS p m.heap who A) then (m, 6) else
    if m.frames.length = 30 then (m, 5) else
    let dest := selF p ((m.heap[who.2.toNat]?).getD default).cls B
    ({ m with frames := (m.frames.dropLast ++ [{ f with stk := f.stk.take keep }]) ++ [⟨dest, B, 0, [], frmV (f.stk.drop keep)⟩] }, 0)
def giveS (m : Mc) (v : Vl) : Mc × Int :=
  match m.frames.dropLast.getLast? with
  | none => ({ m with frames := [], code := v.2 }, 1)
  | some b => if b.stk.length = 8 then (m, 6) else ({ m with frames := m.frames.dropLast.dropLast ++ [{ b with stk := b.stk ++ [v], pos := b.pos + 1 }] }, 0)
def stepI (p : Prg) (m : Mc) (f : Fr) (own : Meth) (i : Tx.Ins) : Mc × Int :=
  let op := i.1; let A := i.2.1; let B := i.2.2
  let n := f.stk.length
  if n < takesS op ∨ 8 < n - takesS op + putsS op then (m, 6) else
  let top := topV f.stk
  let next := nextV f.stk
  if op = 1 then onS m f 0 [(1, A)] (f.pos + 1)
  else if op = 2 then onS m f 0 [(f.loc[A.toNat]?).getD (0, 0)] (f.pos + 1)
  else if op = 3 then onS m { f with loc := f.loc.set A.toNat top } 1 [] (f.pos + 1)
  else if op = 4 ∨ op = 5 ∨ op = 6 ∨ op = 7 then
    (if top.1 ≠ 1 ∨ next.1 ≠ 1 then (m, 6) else if op = 7 ∧ top.2 = 0 then (m, 2) else onS m f 2 [(1, sumS op next.2 top.2)] (f.pos + 1))
  else if op = 8 then onS m f 1 [top, top] (f.pos + 1)
  else if op = 9 then onS m f 1 [] (f.pos + 1)
  else if op = 10 then onS m f 2 [top, next] (f.pos + 1)
  else if op = 11 then onS m f 0 [] A
  else if op = 12 then (if top.1 ≠ 1 then (m, 6) else onS m f 1 [] (if top.2 = 0 then A else f.pos + 1))
  else if op = 13 then onS m f 0 [(3, 0)] (f.pos + 1)
  else if op = 14 then
    (if (p.length : Int) ≤ A then (m, 6) else if m.heap.length = 50 then (m, 4) else
      onS { m with heap := m.heap ++ [⟨A, (fieldsR p 6 A).map valF⟩] } f 0 [(2, (m.heap.length : Int))] (f.pos + 1))
  else if op = 15 then
    (if (fldS p A B).isNone then (m, 6) else if top.1 = 3 then (m, 3) else
      if !(objS p m.heap top A) then (m, 6) else
      match ((m.heap[top.2.toNat]?).getD default).flds[placeS p A B]? with
      | none => (m, 6)
      | some v => onS m f 1 [v] (f.pos + 1))
  else if op = 16 then
    (match fldS p A B with
    | none => (m, 6)
    | some t => if !(isS p m.heap top t) then (m, 6) else if next.1 = 3 then (m, 3) else
      if !(objS p m.heap next A) ∨ ((m.heap[next.2.toNat]?).getD default).flds.length ≤ placeS p A B then (m, 6) else
      let o := (m.heap[next.2.toNat]?).getD default
      onS { m with heap := m.heap.set next.2.toNat { o with flds := o.flds.set (placeS p A B) top } } f 2 [] (f.pos + 1))
  else if op = 17 then callS p m f A B
  else if op = 18 then (if top.1 = 1 then (m, 6) else onS m f 1 [(1, if top.1 = 3 then 1 else 0)] (f.pos + 1))
  else if op = 19 then
    (if top.1 ≠ 1 ∨ m.said.length = 20000 then (m, 6) else onS { m with said := m.said ++ [top.2] } f 1 [] (f.pos + 1))
  else (if !(isS p m.heap top own.gives) then (m, 6) else giveS m top)
/-- One step of a right machine that runs: what becomes of it, and how it ended. -/
def stepS (p : Prg) (m : Mc) : Mc × Int :=
  match m.frames.getLast? with
  | none => (m, 6)
  | some f => match ownS p f with
    | none => (m, 6)
    | some own => if f.pos < 0 ∨ (own.code.length : Int) ≤ f.pos then (m, 6) else stepI p m f own ((own.code[f.pos.toNat]?).getD (0, 0, 0))
def steppedS (p : Prg) (m : Mc) : Mc := if okP p && machB m then (if m.fin = 0 then { (stepS p m).1 with fin := (stepS p m).2 } else m) else zeroM
/-- A run: n steps at most, and how many were done. -/
def ranS (p : Prg) : Nat → Mc → Mc × Nat
  | 0, m => (m, 0)
  | n + 1, m => if m.fin = 0 then (let r := ranS p n { (stepS p m).1 with fin := (stepS p m).2 }; (r.1, r.2 + 1)) else (m, 0)
end Pg
end Go.Proofs.YtinanjjhkddikaaGreat

/- A right machine stays right through a step, plainly. -/
namespace Go.Proofs.YtinanjjhkddikaaGreat
namespace Pg
open Go.ChangeShapes Go.WideShapes Go.ChangeAt Go.RowKit St Wd

def VsOk (l : List Vl) : Prop := ∀ v ∈ l, valB v = true
structure FrOk (f : Fr) : Prop where
  s8 : f.stk.length ≤ 8
  l8 : f.loc.length = 8
  sv : VsOk f.stk
  lv : VsOk f.loc
structure Core (m : Mc) : Prop where
  h50 : m.heap.length ≤ 50
  f30 : m.frames.length ≤ 30
  s20 : m.said.length ≤ 20000
  ob : ∀ o ∈ m.heap, o.flds.length ≤ 24 ∧ VsOk o.flds
  fr : ∀ f ∈ m.frames, FrOk f
  sd : ∀ x ∈ m.said, okB x = true
theorem frB_iff (f : Fr) : frB f = true ↔ FrOk f := by
  unfold frB
  simp only [Bool.and_eq_true, decide_eq_true_eq, List.all_eq_true]
  exact ⟨fun h => ⟨h.1.1.1, h.1.1.2, h.1.2, h.2⟩, fun h => ⟨⟨⟨h.s8, h.l8⟩, h.sv⟩, h.lv⟩⟩
theorem mach_core (m : Mc) : machB m = true ↔ Core m ∧ 0 ≤ m.fin ∧ m.fin ≤ 6 ∧ (m.fin = 0 → m.frames ≠ []) := by
  unfold machB obB
  simp only [Bool.and_eq_true, decide_eq_true_eq, List.all_eq_true, Bool.not_eq_true', Bool.and_eq_false_iff, decide_eq_false_iff_not, frB_iff]
  constructor
  · rintro ⟨⟨⟨⟨⟨⟨⟨⟨a, b⟩, c⟩, d⟩, e⟩, f⟩, g⟩, h⟩, i⟩
    exact ⟨⟨d, e, f, g, h, i⟩, a, b, fun h0 hn => c.elim (fun c => c h0) fun c => c (by rw [hn]; rfl)⟩
  · rintro ⟨⟨d, e, f, g, h, i⟩, a, b, c⟩
    refine ⟨⟨⟨⟨⟨⟨⟨⟨a, b⟩, ?_⟩, d⟩, e⟩, f⟩, g⟩, h⟩, i⟩
    by_cases h0 : m.fin = 0
    · exact .inr fun hn => c h0 (List.length_eq_zero_iff.1 hn)
    · exact .inl h0
/-- What a step leaves. -/
structure StepOk (r : Mc × Int) : Prop where
  core : Core r.1
  e0 : 0 ≤ r.2
  e6 : r.2 ≤ 6
  on : r.2 = 0 → r.1.frames ≠ []
theorem StepOk.fin {r : Mc × Int} (h : StepOk r) : machB { r.1 with fin := r.2 } = true :=
  (mach_core _).2 ⟨⟨h.core.h50, h.core.f30, h.core.s20, h.core.ob, h.core.fr, h.core.sd⟩, h.e0, h.e6, h.on⟩
theorem stop_ok {m : Mc} (hm : Core m) {e : Int} (h1 : 1 ≤ e) (h6 : e ≤ 6) : StepOk (m, e) := ⟨hm, by dsimp only; omega, h6, fun h => by dsimp only at h; omega⟩
theorem val_word {a : Int} (h1 : -2147483648 ≤ a) (h2 : a ≤ 2147483647) : valB (1, a) = true := by simp [valB, okB, h1, h2]
theorem val_wrap (a : Int) : valB (1, wrap32 a) = true := val_word (by unfold wrap32; omega) (by unfold wrap32; omega)
theorem val_null : valB (3, 0) = true := by decide
theorem val_ref (n : Nat) : valB (2, (n : Int)) = true := by simp [valB]
theorem word_of {v : Vl} (h : valB v = true) (h1 : v.1 = 1) : okB v.2 = true := by
  unfold valB at h
  rwa [if_pos h1] at h
theorem vs_take {l : List Vl} (h : VsOk l) (n : Nat) : VsOk (l.take n) := fun v hv => h v (List.mem_of_mem_take hv)
theorem vs_drop {l : List Vl} (h : VsOk l) (n : Nat) : VsOk (l.drop n) := fun v hv => h v (List.mem_of_mem_drop hv)
theorem vs_app {l k : List Vl} (h : VsOk l) (h' : VsOk k) : VsOk (l ++ k) := fun v hv => (List.mem_append.1 hv).elim (h v) (h' v)
theorem vs_nil : VsOk [] := fun _ h => by simp at h
theorem vs_one {v : Vl} (h : valB v = true) : VsOk [v] := fun x hx => by simp at hx; rw [hx]; exact h
theorem vs_two {v u : Vl} (h : valB v = true) (h' : valB u = true) : VsOk [v, u] := fun x hx => by
  simp at hx
  rcases hx with rfl | rfl
  · exact h
  · exact h'
theorem vs_at {l : List Vl} (h : VsOk l) {k : Nat} (hk : k < l.length) : valB ((l[k]?).getD (0, 0)) = true := by
  rw [List.getElem?_eq_getElem hk]
  exact h _ (List.getElem_mem hk)
theorem vs_set {l : List Vl} (h : VsOk l) {v : Vl} (hv : valB v = true) (k : Nat) : VsOk (l.set k v) := fun x hx => by
  rcases List.mem_or_eq_of_mem_set hx with hx | hx
  · exact h x hx
  · rw [hx]; exact hv
theorem vs_frm {l : List Vl} (h : VsOk l) : VsOk (frmV l) := vs_app h fun v hv => by
  rw [List.mem_replicate] at hv
  rw [hv.2]; decide
theorem topV_at (l : List Vl) : topV l = (l[l.length - 1]?).getD (0, 0) := by unfold topV; rw [List.getLast?_eq_getElem?]
theorem nextV_at {l : List Vl} (h : 2 ≤ l.length) : nextV l = (l[l.length - 2]?).getD (0, 0) := by
  unfold nextV
  rw [List.getLast?_eq_getElem?, List.length_dropLast, List.getElem?_dropLast, if_pos (by omega), show l.length - 1 - 1 = l.length - 2 by omega]
theorem top_ok {l : List Vl} (h : VsOk l) (h1 : 1 ≤ l.length) : valB (topV l) = true := by rw [topV_at]; exact vs_at h (by omega)
theorem next_ok {l : List Vl} (h : VsOk l) (h1 : 2 ≤ l.length) : valB (nextV l) = true := by rw [nextV_at h1]; exact vs_at h (by omega)
theorem on_ok {m : Mc} (hm : Core m) (h1 : 1 ≤ m.frames.length) {f : Fr} (hf : FrOk f) {take : Nat} {put : List Vl} (pos : Int) (hp : VsOk put) (hl : f.stk.length - take + put.length ≤ 8) : StepOk (onS m f take put pos) := by
  refine ⟨⟨hm.h50, ?_, hm.s20, hm.ob, fun g hg => ?_, hm.sd⟩, Int.le_refl 0, show (0 : Int) ≤ 6 by decide, fun _ hn => ?_⟩
  · have := hm.f30
    simp only [onS, withTop, List.length_append, List.length_dropLast, List.length_singleton]
    omega
  · simp only [onS, withTop, List.mem_append, List.mem_singleton] at hg
    rcases hg with hg | hg
    · exact hm.fr g ((List.dropLast_sublist _).subset hg)
    · subst hg
      refine ⟨?_, hf.l8, vs_app (vs_take hf.sv _) hp, hf.lv⟩
      simp only [List.length_append, List.length_take]
      omega
  · simp [onS, withTop] at hn
theorem give_ok {m : Mc} (hm : Core m) {v : Vl} (hv : valB v = true) : StepOk (giveS m v) := by
  unfold giveS
  split
  · refine ⟨⟨hm.h50, by simp, hm.s20, hm.ob, fun g hg => by simp at hg, hm.sd⟩, by simp, by simp, fun h => by simp at h⟩
  · rename_i b hb
    have hbm : b ∈ m.frames.dropLast := List.mem_of_getLast? hb
    have hfb := hm.fr b ((List.dropLast_sublist _).subset hbm)
    have hne : m.frames.dropLast.length ≠ 0 := fun h => by rw [List.length_eq_zero_iff.1 h] at hbm; simp at hbm
    rw [List.length_dropLast] at hne
    split
    · exact stop_ok hm (by decide) (by decide)
    · rename_i h8
      have := hfb.s8
      have h30 := hm.f30
      refine ⟨⟨hm.h50, ?_, hm.s20, hm.ob, fun g hg => ?_, hm.sd⟩, Int.le_refl 0, show (0 : Int) ≤ 6 by decide, fun _ hn => by simp at hn⟩
      · simp only [List.length_append, List.length_dropLast, List.length_singleton]
        omega
      · simp only [List.mem_append, List.mem_singleton] at hg
        rcases hg with hg | hg
        · exact hm.fr g ((List.dropLast_sublist _).subset ((List.dropLast_sublist _).subset hg))
        · subst hg
          refine ⟨?_, hfb.l8, vs_app hfb.sv (vs_one hv), hfb.lv⟩
          simp only [List.length_append, List.length_singleton]
          omega
theorem call_ok (p : Prg) {m : Mc} (hm : Core m) (h1 : 1 ≤ m.frames.length) {f : Fr} (hf : FrOk f) (A B : Int) : StepOk (callS p m f A B) := by
  have hstop : ∀ e : Int, 1 ≤ e → e ≤ 6 → StepOk (m, e) := fun e => stop_ok hm
  unfold callS
  split
  · exact hstop 6 (by decide) (by decide)
  · rename_i own ho
    dsimp only
    split
    · exact hstop 6 (by decide) (by decide)
    split
    · exact hstop 6 (by decide) (by decide)
    rename_i hlen
    split
    · exact hstop 6 (by decide) (by decide)
    split
    · exact hstop 3 (by decide) (by decide)
    split
    · exact hstop 6 (by decide) (by decide)
    split
    · exact hstop 5 (by decide) (by decide)
    rename_i h30
    have hs8 := hf.s8
    have hf30 := hm.f30
    refine ⟨⟨hm.h50, ?_, hm.s20, hm.ob, fun g hg => ?_, hm.sd⟩, Int.le_refl 0, show (0 : Int) ≤ 6 by decide, fun _ hn => by simp at hn⟩
    · simp only [List.length_append, List.length_dropLast, List.length_singleton]
      omega
    · simp only [List.mem_append, List.mem_singleton] at hg
      rcases hg with (hg | hg) | hg
      · exact hm.fr g ((List.dropLast_sublist _).subset hg)
      · subst hg
        refine ⟨?_, hf.l8, vs_take hf.sv _, hf.lv⟩
        simp only [List.length_take]
        omega
      · subst hg
        refine ⟨by simp, frmV_len ?_, vs_nil, vs_frm (vs_drop hf.sv _)⟩
        simp only [List.length_drop]
        omega
theorem fields_24 {p : Prg} (hok : okP p = true) {A : Int} (hA : A < (p.length : Int)) : (fieldsR p 6 A).length ≤ 24 :=
  fieldsR_len (okP_sup hok) (okP_len hok).2 (Nat.le_refl _) (okP_four hok) 6 A (by have := (okP_len hok).2; omega) hA
theorem vs_flds (l : List Int) : VsOk (l.map valF) := fun v hv => by
  obtain ⟨t, _, rfl⟩ := List.mem_map.1 hv
  unfold valF
  split <;> decide
theorem step_ok {p : Prg} (hok : okP p = true) {m : Mc} (hm : Core m) (h1 : 1 ≤ m.frames.length) {f : Fr} (hf : FrOk f) (own : Meth) (i : Tx.Ins) (hi : Tx.okI i.1 i.2.1 i.2.2 = true) : StepOk (stepI p m f own i) := by
  obtain ⟨op, A, B⟩ := i
  dsimp only at hi
  have hop := Tx.ok_op hi
  have hA := Tx.ok_a hi
  have hlo : op ≠ 1 → 0 ≤ A ∧ A < Tx.limA op := fun h => by
    unfold Tx.okI at hi
    rw [if_neg h] at hi
    simp only [Bool.and_eq_true, decide_eq_true_eq] at hi
    exact ⟨hi.1.1.1, hi.1.1.2⟩
  have hs8 := hf.s8
  have hstop : ∀ e : Int, 1 ≤ e → e ≤ 6 → StepOk (m, e) := fun e => stop_ok hm
  have ho : ∀ (n : Nat) (v : Vl) (k : Nat), ((m.heap[n]?).getD default).flds[k]? = some v → valB v = true := fun n v k h => by
    cases hn : m.heap[n]? with
    | none => rw [hn] at h; simp [default] at h
    | some o => rw [hn] at h; exact (hm.ob o (List.mem_of_getElem? hn)).2 v (List.mem_of_getElem? h)
  unfold stepI
  dsimp only
  by_cases hst : f.stk.length < takesS op ∨ 8 < f.stk.length - takesS op + putsS op
  · rw [if_pos hst]; exact hstop 6 (by decide) (by decide)
  rw [if_neg hst]
  have hst : takesS op ≤ f.stk.length ∧ f.stk.length - takesS op + putsS op ≤ 8 := by omega
  by_cases e1 : op = 1
  · rw [if_pos e1]
    subst e1
    have hst : 0 ≤ f.stk.length ∧ f.stk.length - 0 + 1 ≤ 8 := hst
    exact on_ok hm h1 hf _ (vs_one (val_word hA.1 hA.2)) (by simp only [List.length_cons, List.length_nil]; omega)
  rw [if_neg e1]
  by_cases e2 : op = 2
  · rw [if_pos e2]
    subst e2
    have hst : 0 ≤ f.stk.length ∧ f.stk.length - 0 + 1 ≤ 8 := hst
    have h8 : A.toNat < 8 := by
      have := hlo (by decide)
      unfold Tx.limA at this
      simp at this
      omega
    exact on_ok hm h1 hf _ (vs_one (vs_at hf.lv (by rw [hf.l8]; exact h8))) (by simp only [List.length_cons, List.length_nil]; omega)
  rw [if_neg e2]
  by_cases e3 : op = 3
  · rw [if_pos e3]
    subst e3
    have hst : 1 ≤ f.stk.length ∧ f.stk.length - 1 + 0 ≤ 8 := hst
    exact on_ok hm h1 (f := { f with loc := f.loc.set A.toNat (topV f.stk) }) ⟨hf.s8, by simp [hf.l8], hf.sv, vs_set hf.lv (top_ok hf.sv (by omega)) _⟩ _ vs_nil (by simp only [List.length_nil]; omega)
  rw [if_neg e3]
  by_cases e4 : op = 4 ∨ op = 5 ∨ op = 6 ∨ op = 7
  · rw [if_pos e4]
    have hst : 2 ≤ f.stk.length := by
      rcases e4 with rfl | rfl | rfl | rfl <;> exact hst.1
    split
    · exact hstop 6 (by decide) (by decide)
    split
    · exact hstop 2 (by decide) (by decide)
    refine on_ok hm h1 hf _ (vs_one ?_) (by simp only [List.length_cons, List.length_nil]; omega)
    unfold sumS
    split
    · exact val_wrap _
    split
    · exact val_wrap _
    split
    · exact val_wrap _
    · exact val_wrap _
  rw [if_neg e4]
  by_cases e8 : op = 8
  · rw [if_pos e8]
    subst e8
    have hst : 1 ≤ f.stk.length ∧ f.stk.length - 1 + 2 ≤ 8 := hst
    exact on_ok hm h1 hf _ (vs_two (top_ok hf.sv (by omega)) (top_ok hf.sv (by omega))) (by simp only [List.length_cons, List.length_nil]; omega)
  rw [if_neg e8]
  by_cases e9 : op = 9
  · rw [if_pos e9]
    subst e9
    have hst : 1 ≤ f.stk.length ∧ f.stk.length - 1 + 0 ≤ 8 := hst
    exact on_ok hm h1 hf _ vs_nil (by simp only [List.length_nil]; omega)
  rw [if_neg e9]
  by_cases e10 : op = 10
  · rw [if_pos e10]
    subst e10
    have hst : 2 ≤ f.stk.length ∧ f.stk.length - 2 + 2 ≤ 8 := hst
    exact on_ok hm h1 hf _ (vs_two (top_ok hf.sv (by omega)) (next_ok hf.sv (by omega))) (by simp only [List.length_cons, List.length_nil]; omega)
  rw [if_neg e10]
  by_cases e11 : op = 11
  · rw [if_pos e11]
    subst e11
    have hst : 0 ≤ f.stk.length ∧ f.stk.length - 0 + 0 ≤ 8 := hst
    exact on_ok hm h1 hf _ vs_nil (by simp only [List.length_nil]; omega)
  rw [if_neg e11]
  by_cases e12 : op = 12
  · rw [if_pos e12]
    subst e12
    have hst : 1 ≤ f.stk.length ∧ f.stk.length - 1 + 0 ≤ 8 := hst
    split
    · exact hstop 6 (by decide) (by decide)
    exact on_ok hm h1 hf _ vs_nil (by simp only [List.length_nil]; omega)
  rw [if_neg e12]
  by_cases e13 : op = 13
  · rw [if_pos e13]
    subst e13
    have hst : 0 ≤ f.stk.length ∧ f.stk.length - 0 + 1 ≤ 8 := hst
    exact on_ok hm h1 hf _ (vs_one val_null) (by simp only [List.length_cons, List.length_nil]; omega)
  rw [if_neg e13]
  by_cases e14 : op = 14
  · rw [if_pos e14]
    subst e14
    have hst : 0 ≤ f.stk.length ∧ f.stk.length - 0 + 1 ≤ 8 := hst
    split
    · exact hstop 6 (by decide) (by decide)
    rename_i hAp
    split
    · exact hstop 4 (by decide) (by decide)
    rename_i h50
    have h50' := hm.h50
    refine on_ok (m := { m with heap := m.heap ++ [⟨A, (fieldsR p 6 A).map valF⟩] }) ⟨?_, hm.f30, hm.s20, fun o hmem => ?_, hm.fr, hm.sd⟩ h1 hf _ (vs_one (val_ref _)) (by simp only [List.length_cons, List.length_nil]; omega)
    · simp only [List.length_append, List.length_singleton]
      omega
    · rcases List.mem_append.1 hmem with hmem | hmem
      · exact hm.ob o hmem
      · simp only [List.mem_singleton] at hmem
        subst hmem
        exact ⟨by simp only [List.length_map]; exact fields_24 hok (by omega), vs_flds _⟩
  rw [if_neg e14]
  by_cases e15 : op = 15
  · rw [if_pos e15]
    subst e15
    have hst : 1 ≤ f.stk.length ∧ f.stk.length - 1 + 1 ≤ 8 := hst
    split
    · exact hstop 6 (by decide) (by decide)
    split
    · exact hstop 3 (by decide) (by decide)
    split
    · exact hstop 6 (by decide) (by decide)
    split
    · exact hstop 6 (by decide) (by decide)
    rename_i v hv
    exact on_ok hm h1 hf _ (vs_one (ho _ v _ hv)) (by simp only [List.length_cons, List.length_nil]; omega)
  rw [if_neg e15]
  by_cases e16 : op = 16
  · rw [if_pos e16]
    subst e16
    have hst : 2 ≤ f.stk.length ∧ f.stk.length - 2 + 0 ≤ 8 := hst
    split
    · exact hstop 6 (by decide) (by decide)
    split
    · exact hstop 6 (by decide) (by decide)
    split
    · exact hstop 3 (by decide) (by decide)
    split
    · exact hstop 6 (by decide) (by decide)
    refine on_ok (m := ⟨m.heap.set _ _, m.frames, m.said, m.fin, m.code⟩) ⟨?_, hm.f30, hm.s20, fun o hmem => ?_, hm.fr, hm.sd⟩ h1 hf _ vs_nil (by simp only [List.length_nil]; omega)
    · simp only [List.length_set]
      exact hm.h50
    · rcases List.mem_or_eq_of_mem_set hmem with hmem | rfl
      · exact hm.ob o hmem
      · cases hn : m.heap[(nextV f.stk).2.toNat]? with
        | none => exact ⟨by simp [default], by simp [default]; exact vs_nil⟩
        | some o =>
          have := hm.ob o (List.mem_of_getElem? hn)
          refine ⟨by simp only [Option.getD_some, List.length_set]; exact this.1, ?_⟩
          simp only [Option.getD_some]
          exact vs_set this.2 (top_ok hf.sv (by omega)) _
  rw [if_neg e16]
  by_cases e17 : op = 17
  · rw [if_pos e17]
    subst e17
    have hst : 0 ≤ f.stk.length ∧ f.stk.length - 0 + 0 ≤ 8 := hst
    exact call_ok p hm h1 hf A B
  rw [if_neg e17]
  by_cases e18 : op = 18
  · rw [if_pos e18]
    subst e18
    have hst : 1 ≤ f.stk.length ∧ f.stk.length - 1 + 1 ≤ 8 := hst
    split
    · exact hstop 6 (by decide) (by decide)
    refine on_ok hm h1 hf _ (vs_one ?_) (by simp only [List.length_cons, List.length_nil]; omega)
    split <;> decide
  rw [if_neg e18]
  by_cases e19 : op = 19
  · rw [if_pos e19]
    subst e19
    have hst : 1 ≤ f.stk.length ∧ f.stk.length - 1 + 0 ≤ 8 := hst
    split
    · exact hstop 6 (by decide) (by decide)
    rename_i hc
    have hs := hm.s20
    refine on_ok (m := { m with said := m.said ++ [(topV f.stk).2] }) ⟨hm.h50, hm.f30, ?_, hm.ob, hm.fr, fun x hx => ?_⟩ h1 hf _ vs_nil (by simp only [List.length_nil]; omega)
    · simp only [List.length_append, List.length_singleton]
      omega
    · rcases List.mem_append.1 hx with hx | hx
      · exact hm.sd x hx
      · simp only [List.mem_singleton] at hx
        subst hx
        exact word_of (top_ok hf.sv (by omega)) (by omega)
  rw [if_neg e19]
  have e20 : op = 20 := by omega
  subst e20
  have hst : 1 ≤ f.stk.length := hst.1
  split
  · exact hstop 6 (by decide) (by decide)
  exact give_ok hm (top_ok hf.sv hst)
theorem meth_code {p : Prg} (hok : okP p = true) {c n : Int} {own : Meth} (h : methS p c n = some own) : Lay.codeOk own.code = true := by
  unfold methS at h
  split at h
  · simp at h
  split at h
  · simp at h
  rename_i k hk
  have hlt := (List.getElem?_eq_some_iff.1 hk).1
  have hc := okP_at hok hlt
  rw [okAt_of hk] at hc
  obtain ⟨j, hj, e⟩ := List.getElem_of_mem (List.mem_of_find?_eq_some h)
  have := okC_meth hc hj
  unfold okK at this
  rw [List.getElem?_eq_getElem hj, e] at this
  simp only [Bool.and_eq_true] at this
  have := this.1.1
  unfold okMB at this
  simp only [Bool.and_eq_true] at this
  exact this.2
theorem stepS_ok {p : Prg} (hok : okP p = true) {m : Mc} (hm : Core m) : StepOk (stepS p m) := by
  have hstop : ∀ e : Int, 1 ≤ e → e ≤ 6 → StepOk (m, e) := fun e => stop_ok hm
  unfold stepS
  split
  · exact hstop 6 (by decide) (by decide)
  rename_i f hl
  have hfm := List.mem_of_getLast? hl
  split
  · exact hstop 6 (by decide) (by decide)
  rename_i own how
  split
  · exact hstop 6 (by decide) (by decide)
  rename_i hpos
  have hco := meth_code (c := f.cls) (n := f.name) hok how
  have hlt : f.pos.toNat < own.code.length := by omega
  have hx := List.getElem?_eq_getElem hlt
  rw [hx]
  exact step_ok hok hm (List.length_pos_of_mem hfm) (hm.fr f hfm) own _ (Lay.ok_at hco hx)
/-- A right machine that has done a step is right. -/
theorem mach_step {p : Prg} (hok : okP p = true) {m : Mc} (hm : machB m = true) : machB { (stepS p m).1 with fin := (stepS p m).2 } = true := (stepS_ok hok ((mach_core m).1 hm).1).fin
end Pg
end Go.Proofs.YtinanjjhkddikaaGreat

/- The specification's sweeps over what is reached, plainly: rows that are sound and closed are the answers. -/
namespace Go.Proofs.YtinanjjhkddikaaGreat
namespace Pg
open Go.ChangeShapes Go.WideShapes Go.ChangeAt Go.RowKit St Wd

theorem own_code {p : Prg} (hok : okP p = true) {c : Nat} {n : Int} {cl : Cls} {own : Meth} (hc : p[c]? = some cl) (ho : ownF cl n = some own) : Lay.codeOk own.code = true := by
  refine meth_code hok (c := (c : Int)) (n := n) ?_
  unfold methS
  rw [if_neg (by omega), Int.toNat_natCast, hc]
  exact ho
theorem runs_ok {p : Prg} (hok : okP p = true) {c : Nat} {n : Int} {i : Tx.Ins} (h : Runs p c n i) : Tx.okI i.1 i.2.1 i.2.2 = true := by
  obtain ⟨cl, own, k, hc, ho, hk, _, rfl⟩ := h
  exact Lay.ok_at (own_code hok hc ho) (ins_is hk)
theorem call_name {i : Tx.Ins} (h : Tx.okI i.1 i.2.1 i.2.2 = true) (h17 : i.1 = 17) : 0 ≤ i.2.2 ∧ i.2.2 < 20 := by
  unfold Tx.okI at h
  rw [if_neg (by omega)] at h
  unfold Tx.limB at h
  simp only [Bool.and_eq_true, decide_eq_true_eq] at h
  obtain ⟨_, h1⟩ := h
  rw [h17] at h1
  simp at h1
  omega
theorem rd_name {p : Prg} (hok : okP p = true) {c : Nat} {n : Int} (h : Rd p true c n) : 0 ≤ n ∧ n < 20 := by
  cases h with
  | main => decide
  | call _ hi ho _ _ _ => exact call_name (runs_ok hok hi) ho
  | meet _ hi ho _ _ _ _ _ => exact call_name (runs_ok hok hi) ho
/-- What a step asks of the rows. -/
def Stp (p : Prg) (M L : List Int) (i : Tx.Ins) : Prop :=
  (i.1 = 14 → i.2.1 < (p.length : Int) → i.2.1 ∈ M) ∧ (i.1 = 17 → i.2.1 < (p.length : Int) → (0 ≤ selF p i.2.1 i.2.2 → selF p i.2.1 i.2.2 * 20 + i.2.2 ∈ L) ∧ ∀ d ∈ M, undB p d i.2.1 = true → 0 ≤ selF p d i.2.2 → selF p d i.2.2 * 20 + i.2.2 ∈ L)
theorem reach_lists {p : Prg} (hok : okP p = true) {M L : List Int} (hM : Rise M) (hL : Rise L) (m0 : (0 : Int) ∈ M) (l0 : (0 : Int) ∈ L) (sM : ∀ x ∈ M, ∃ c : Nat, x = (c : Int) ∧ Rd p false c 0) (sL : ∀ x ∈ L, ∃ (c : Nat) (n : Int), x = (c : Int) * 20 + n ∧ Rd p true c n)
    (hcl : ∀ (c : Nat) n i, (c : Int) * 20 + n ∈ L → Rd p true c n → Runs p c n i → Stp p M L i) : M = risL (madB p) 6 ∧ L = risL (livB p) 120 := by
  have h6 := (okP_len hok).2
  have dec : ∀ (c : Nat) (n : Int), 0 ≤ n → n < 20 → (c : Int) * 20 + n ∈ L → Rd p true c n := fun c n h1 h2 hx => by
    obtain ⟨c', n', he, hr⟩ := sL _ hx
    have hn := rd_name hok hr
    obtain rfl : c' = c := by omega
    obtain rfl : n' = n := by omega
    exact hr
  have hC : ClR p (fun c => (c : Int) ∈ M) (fun c n => 0 ≤ n ∧ n < 20 ∧ (c : Int) * 20 + n ∈ L) := by
    refine ⟨m0, ⟨by omega, by omega, by simpa using l0⟩, ?_, ?_, ?_⟩
    · rintro c n i A ⟨h1, h2, h3⟩ hi ho ha hl
      have := (hcl c n i h3 (dec c n h1 h2 h3) hi).1 ho (by omega)
      rwa [ha] at this
    · rintro c n i A s ⟨h1, h2, h3⟩ hi ho ha hl hs
      have hn := call_name (runs_ok hok hi) ho
      have := ((hcl c n i h3 (dec c n h1 h2 h3) hi).2 ho (by omega)).1
      rw [ha, hs] at this
      exact ⟨hn.1, hn.2, this (by omega)⟩
    · rintro c n i A d s ⟨h1, h2, h3⟩ hi ho ha hl hd hu hs
      have hn := call_name (runs_ok hok hi) ho
      have := ((hcl c n i h3 (dec c n h1 h2 h3) hi).2 ho (by omega)).2 d hd
      rw [ha, hs] at this
      exact ⟨hn.1, hn.2, this hu (by omega)⟩
  constructor
  · refine rise_ext hM (risL_rise _ _) fun x => ?_
    rw [risL_mem]
    constructor
    · intro hx
      obtain ⟨c, rfl, hr⟩ := sM x hx
      have := (rd_there hok hr).1 rfl
      exact ⟨c, by omega, madB_iff.2 hr, rfl⟩
    · rintro ⟨c, _, hb, rfl⟩
      exact (rd_least hC (madB_iff.1 hb)).1 rfl
  · refine rise_ext hL (risL_rise _ _) fun x => ?_
    rw [risL_mem]
    constructor
    · intro hx
      obtain ⟨c, n, rfl, hr⟩ := sL x hx
      have hn := rd_name hok hr
      obtain ⟨cl, own, hc, _⟩ := (rd_there hok hr).2 rfl
      have hcl' := (List.getElem?_eq_some_iff.1 hc).1
      obtain ⟨k, rfl⟩ := Int.eq_ofNat_of_zero_le hn.1
      refine ⟨c * 20 + k, by omega, ?_, by omega⟩
      rw [livB_iff, show (c * 20 + k) / 20 = c by omega, show (c * 20 + k) % 20 = k by omega]
      exact hr
    · rintro ⟨q, _, hb, rfl⟩
      have := ((rd_least hC (livB_iff.1 hb)).2 rfl).2.2
      have e : ((q / 20 : Nat) : Int) * 20 + ((q % 20 : Nat) : Int) = (q : Int) := by omega
      rwa [e] at this
/-- What a class asks of the row of those that are needed. -/
def Cls1 (p : Prg) (D : List Int) (cl : Cls) : Prop := (0 ≤ cl.super → cl.super < (p.length : Int) → cl.super ∈ D) ∧ ∀ t ∈ cl.fields, 0 ≤ t → t < (p.length : Int) → t ∈ D
theorem need_lists {p : Prg} (hok : okP p = true) {D : List Int} (hD : Rise D) (sD : ∀ x ∈ D, ∃ c : Nat, x = (c : Int) ∧ Nd p c) (h0 : ∀ c : Nat, Rd p false c 0 → (c : Int) ∈ D) (h1 : ∀ (c : Nat) n, Rd p true c n → (c : Int) ∈ D)
    (h2 : ∀ (c : Nat) n cl own, Rd p true c n → p[c]? = some cl → ownF cl n = some own → (0 ≤ own.gives → own.gives < (p.length : Int) → own.gives ∈ D) ∧ ∀ t ∈ own.args, 0 ≤ t → t < (p.length : Int) → t ∈ D)
    (h3 : ∀ (c : Nat) n i, Rd p true c n → Runs p c n i → (i.1 = 15 ∨ i.1 = 16 ∨ i.1 = 17) → 0 ≤ i.2.1 → i.2.1 < (p.length : Int) → i.2.1 ∈ D)
    (h4 : ∀ (c : Nat) cl, (c : Int) ∈ D → p[c]? = some cl → Cls1 p D cl) : D = risL (ndB p) 6 := by
  have h6 := (okP_len hok).2
  have hC : ClN p (fun c => (c : Int) ∈ D) := by
    refine ⟨h0, h1, ?_, ?_, ?_, ?_, ?_⟩
    · intro c n cl own t hr hc ho ht hl
      have := (h2 c n cl own hr hc ho).1
      rw [ht] at this
      exact this (by omega) (by omega)
    · intro c n cl own t hr hc ho ht hl
      exact (h2 c n cl own hr hc ho).2 _ ht (by omega) (by omega)
    · intro c n i A hr hi ho ha hl
      have := h3 c n i hr hi ho
      rw [ha] at this
      exact this (by omega) (by omega)
    · intro c s cl hd hc hs hl
      have := (h4 c cl hd hc).1
      rw [hs] at this
      exact this (by omega) (by omega)
    · intro c t cl hd hc ht hl
      exact (h4 c cl hd hc).2 _ ht (by omega) (by omega)
  refine rise_ext hD (risL_rise _ _) fun x => ?_
  rw [risL_mem]
  constructor
  · intro hx
    obtain ⟨c, rfl, hn⟩ := sD x hx
    have := nd_there hok hn
    exact ⟨c, by omega, ndB_iff.2 hn, rfl⟩
  · rintro ⟨c, _, hb, rfl⟩
    exact nd_least hC (ndB_iff.1 hb)
/-- Rows that rise, the one within the other and as long, are alike. -/
theorem rise_le : ∀ {b a : List Int}, Rise a → Rise b → (∀ x ∈ a, x ∈ b) → a.length ≤ b.length
  | [], a, _, _, hs => by
    cases a with
    | nil => exact Nat.le_refl _
    | cons x a => exact absurd (hs x (by simp)) (by simp)
  | y :: b, a, ha, hb, hs => by
    cases a with
    | nil => simp
    | cons x a =>
      have hb' := (List.pairwise_cons.1 hb)
      have ha' := (List.pairwise_cons.1 ha)
      have hx : y ≤ x := by
        rcases List.mem_cons.1 (hs x (by simp)) with e | e
        · omega
        · have := hb'.1 x e; omega
      have := rise_le ha'.2 hb'.2 fun z hz => by
        have h1 := ha'.1 z hz
        rcases List.mem_cons.1 (hs z (by simp [hz])) with e | e
        · omega
        · exact e
      simpa using this
theorem rise_same : ∀ {b a : List Int}, Rise a → Rise b → (∀ x ∈ a, x ∈ b) → b.length ≤ a.length → a = b
  | [], a, _, _, hs, _ => by
    cases a with
    | nil => rfl
    | cons x a => exact absurd (hs x (by simp)) (by simp)
  | y :: b, a, ha, hb, hs, hl => by
    cases a with
    | nil => simp at hl
    | cons x a =>
      have hb' := (List.pairwise_cons.1 hb)
      have ha' := (List.pairwise_cons.1 ha)
      rcases List.mem_cons.1 (hs x (by simp)) with e | e
      · subst e
        have := rise_same ha'.2 hb'.2 (fun z hz => by
          have h1 := ha'.1 z hz
          rcases List.mem_cons.1 (hs z (by simp [hz])) with e | e
          · omega
          · exact e) (by simpa using hl)
        rw [this]
      · have hx := hb'.1 x e
        have := rise_le ha hb'.2 fun z hz => by
          have h1 : x ≤ z := by
            rcases List.mem_cons.1 hz with e | e
            · omega
            · have := ha'.1 z e; omega
          rcases List.mem_cons.1 (hs z hz) with e | e
          · omega
          · exact e
        simp at hl this
        omega
end Pg
end Go.Proofs.YtinanjjhkddikaaGreat

/- The search goes on: what it needs. -/
namespace Go.Proofs.YtinanjjhkddikaaGreat
namespace Pg
open Go.ChangeShapes Go.WideShapes Go.ChangeAt Go.RowKit St Wd
theorem hidS {p : Prop} (h : p) : Hid p := h
theorem sndF_few {p : Prg} (hok : okP p = true) {f : Fd} (h : SndF p f) : FewF f := by
  obtain ⟨c, hc, hcl⟩ := h.at'
  have h6 := (okP_len hok).2
  have hn : 0 ≤ f.2.2 ∧ f.2.2 < 20 := by
    rcases h.what with e | e | e | e
    · rw [(h.made e).1]; decide
    · exact rd_name hok (h.live e)
    · obtain ⟨_, _, i, _, hi, h17, _, h2⟩ := h.call e
      have := call_name (runs_ok hok hi) h17
      rw [h2] at this
      exact this
    · rw [(h.need e).1]; decide
  refine ⟨?_, ?_, by omega, by omega, hn.1, hn.2⟩
  · rcases h.what with e | e | e | e <;> omega
  · rcases h.what with e | e | e | e <;> omega
theorem Adds.imp {B0 sb mb : Nat} {pv : Value} {w w' : World} {v v' : Value} {F T F' T' : List Fd} {P Q : Fd → Prop} (h : Adds B0 sb mb pv w v F T P w' v' F' T') (hPQ : ∀ g, P g → Q g) : Adds B0 sb mb pv w v F T Q w' v' F' T' :=
  ⟨h.st, h.ext, h.fr, fun g hg => (h.new g hg).imp_right (hPQ g)⟩
theorem Adds.trans {B0 sb mb : Nat} {pv : Value} {w w' x : World} {v v' v'' : Value} {F T F' T' F'' T'' : List Fd} {P : Fd → Prop} (h : Adds B0 sb mb pv w v F T P w' v' F' T') (k : Adds B0 sb mb pv w' v' F' T' P x v'' F'' T'') : Adds B0 sb mb pv w v F T P x v'' F'' T'' :=
  ⟨k.st, h.ext.trans k.ext, h.fr.trans k.fr, fun g hg => (k.new g hg).elim (h.new g) .inr⟩
theorem Adds.on {B0 sb mb : Nat} {pv : Value} {w w' x : World} {v v' : Value} {F T F' T' : List Fd} {P : Fd → Prop} (h : Adds B0 sb mb pv w v F T P w' v' F' T') (hb : Below w'.heap.size w' x) : Adds B0 sb mb pv w v F T P x v' F' T' :=
  ⟨h.st.on hb, h.ext, h.fr.trans (Frs.of v' hb), h.new⟩
theorem Adds.start {B0 sb mb : Nat} {pv : Value} {w x : World} {v : Value} {F T : List Fd} {P : Fd → Prop} (h : Srch B0 sb mb pv w v F T) (hb : Below w.heap.size w x) : Adds B0 sb mb pv w v F T P x v F T :=
  ⟨h.on hb, ExtF.refl _ _, Frs.of v hb, fun _ hg => .inl hg⟩
theorem Adds.below {B0 sb mb : Nat} {pv : Value} {w w' : World} {v v' : Value} {F T F' T' : List Fd} {P : Fd → Prop} (hS : Srch B0 sb mb pv w v F T) (h : Adds B0 sb mb pv w v F T P w' v' F' T') : Below B0 w w' := h.fr.below hS
theorem FarS.cell {sb mb : Nat} {u w : World} {v v' : Value} {k i : Nat} {x : Value} (h : FarS sb mb u v k) (f : Frs sb mb u v w v') (hc : u.cell? ⟨k, i, none⟩ = some x) : w.cell? ⟨k, i, none⟩ = some x := (World.cell?_of_block (w := u) (h.next f).2).trans hc
/-- One find is added, of a right program. -/
theorem add_s (p : Prg) (hok : okP p = true) (B0 sb mb cap : Nat) (a : Option Addr) (v : Value) (F T : List Fd) (f : Fd) (hf : 0 ≤ f.2.1 → f.2.1 < (p.length : Int) → SndF p f) (w : World) (hB0 : B0 ≤ w.heap.size) (hS : Srch B0 sb mb (.slice a p.length cap) w v F T) :
    Calls Tryz.prog 53 #[.pointer (some ⟨sb, 0, none⟩), fdV f] w fun e w' => e = .returned (.tuple #[]) ∧ ∃ v' F' T', Adds B0 sb mb (.slice a p.length cap) w v F T (SndF p) w' v' F' T' ∧ (0 ≤ f.2.1 → f.2.1 < (p.length : Int) → f ∈ F') := by
  refine (add_at B0 sb mb p.length cap a v F T f (fun h0 h1 => sndF_few hok (hf h0 h1)) w hB0 hS).mono ?_
  rintro e w' ⟨rfl, v', F', T', h, hm⟩
  exact ⟨rfl, v', F', T', h.imp (fun g hg => by obtain ⟨rfl, h0, h1⟩ := hg; exact hf h0 h1), hm⟩
set_option maxRecDepth 100000 in
set_option maxHeartbeats 4000000 in
theorem need_at (p : Prg) (hok : okP p = true) (B0 sb mb cap : Nat) (a : Option Addr) (v : Value) (F T : List Fd) (ls : List Int) (b : Option Addr) (c : Nat) (hl : ls.length ≤ 1048576) (w : World) (hB0 : B0 ≤ w.heap.size) (hS : Srch B0 sb mb (.slice a p.length cap) w v F T)
    (hrow : 0 < ls.length → ∃ g o, b = some ⟨g, o, none⟩ ∧ IRow w g o ls ∧ FarS sb mb w v g) (hP : ∀ t ∈ ls, 0 ≤ t → t < (p.length : Int) → SndF p (3, t, 0)) :
    Calls Tryz.prog 78 #[.pointer (some ⟨sb, 0, none⟩), .slice b ls.length c] w fun e w' => e = .returned (.tuple #[]) ∧ ∃ v' F' T', Adds B0 sb mb (.slice a p.length cap) w v F T (SndF p) w' v' F' T' ∧ ∀ t ∈ ls, 0 ≤ t → t < (p.length : Int) → ((3, t, 0) : Fd) ∈ F' := by
  have HRW : Hid (0 < ls.length → ∃ g o, b = some ⟨g, o, none⟩ ∧ IRow w g o ls ∧ FarS sb mb w v g) := hrow
  have HP : Hid (∀ t ∈ ls, 0 ≤ t → t < (p.length : Int) → SndF p (3, t, 0)) := hP
  have HST : Hid (Adds B0 sb mb (.slice a p.length cap) w v F T (SndF p) w v F T) := Adds.start hS (Below.refl _ _)
  clear hrow hP
  go_enter Tryz.func78, Tryz.ntmps78
  go_wp2
  go_loopw [8] (fun x wr => ∃ (k : Nat) (v' : Value) (F' T' : List Fd), k ≤ ls.length ∧ x = .int .i64 (k : Int) ∧ Hid (Adds B0 sb mb (.slice a p.length cap) w v F T (SndF p) wr v' F' T') ∧ Hid (∀ t ∈ ls.take k, 0 ≤ t → t < (p.length : Int) → ((3, t, 0) : Fd) ∈ F')) (fun x _ => ls.length - (intOf x).toNat)
  case atStart => exact ⟨0, v, F, T, Nat.zero_le _, rfl, HST.out, fun t ht => by simp at ht⟩
  case round =>
    clear HST
    obtain ⟨k, v', F', T', hk, rfl, hA, hQ⟩ := hrel
    by_cases hlt : k < ls.length
    · have hki : (k : Int) < (ls.length : Int) := by omega
      obtain ⟨g, o, rfl, hi, hfar⟩ := HRW.out (by omega)
      have c0 := hfar.cell hA.out.fr (hi k _ (List.getElem?_eq_getElem hlt))
      have HT1 : Hid (∀ t ∈ ls.take (k + 1), t ∈ ls.take k ∨ t = ls[k]) := fun t ht => by
        rw [List.take_succ_eq_append_getElem hlt] at ht
        rcases List.mem_append.1 ht with h | h
        · exact .inl h
        · exact .inr (List.mem_singleton.1 h)
      have HPK := HP.out ls[k] (List.getElem_mem hlt)
      generalize ls[k] = t at *
      have hB1 : B0 ≤ wr.heap.size := by have := (hA.out.below hS).size; omega
      have hcall := add_s p hok B0 sb mb cap a v' F' T' (3, t, 0) HPK wr hB1 hA.out.st
      clear hi hfar
      go_wp2_with fail
      refine hcall.mono ?_
      rintro e w2 ⟨rfl, v2, F2, T2, hA2, hm2⟩
      have HA2 : Hid (Adds B0 sb mb (.slice a p.length cap) w v F T (SndF p) w2 v2 F2 T2) := hA.out.trans hA2
      have HQ2 : Hid (∀ t ∈ ls.take (k + 1), 0 ≤ t → t < (p.length : Int) → ((3, t, 0) : Fd) ∈ F2) := fun s hs h0 h1 => by
        rcases HT1.out s hs with h | h
        · exact hA2.ext.up _ (hQ.out s h h0 h1)
        · subst h; exact hm2 h0 h1
      clear hA2 hm2 hcall hA hQ HT1 HPK c0
      go_wp2
      go_roundw
      case rel => exact ⟨k + 1, v2, F2, T2, by omega, by go_num, HA2.out, HQ2.out⟩
      case measure => simp [intOf]; omega
    · have HQ2 : Hid (∀ t ∈ ls, 0 ≤ t → t < (p.length : Int) → ((3, t, 0) : Fd) ∈ F') := fun t ht => hQ.out t (by rwa [List.take_of_length_le (by omega)])
      have hki : ¬ (k : Int) < (ls.length : Int) := by omega
      clear hQ
      go_wp2
      go_end0
      first | exact ⟨rfl, v', F', T', hA.out, HQ2.out⟩ | exact ⟨rfl, v', F', ⟨T', hA.out⟩, HQ2.out⟩
end Pg
end Go.Proofs.YtinanjjhkddikaaGreat
