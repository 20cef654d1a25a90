/- The machine, plainly: one step as the specification does it. -/
import Derived.Test.YtffkkhaiedhaiaaJMa0
import Derived.Test.YtffkkhaiedhaiaaJSu0
import Derived.Test.YtffkkhaiedhaiaaJNx3
import Derived.Deep.LoopGhost
import Derived.Deep.RegionHeld3
namespace Go.Proofs.Ytffkkhaiedhaiaa
namespace Pg
open Go.ChangeShapes Go.WideShapes Go.ChangeAt Go.RowKit St Wd

def takesS (op : Int) : Nat := if op = 3 ∨ op = 8 ∨ op = 9 ∨ op = 12 ∨ op = 15 ∨ op = 18 ∨ op = 19 ∨ op = 20 then 1 else if op = 4 ∨ op = 5 ∨ op = 6 ∨ op = 7 ∨ op = 10 ∨ op = 16 then 2 else 0
def putsS (op : Int) : Nat := if op = 1 ∨ op = 2 ∨ op = 4 ∨ op = 5 ∨ op = 6 ∨ op = 7 ∨ op = 13 ∨ op = 14 ∨ op = 15 ∨ op = 18 then 1 else if op = 8 ∨ op = 10 then 2 else 0
/-- Is it an object of a class or one under it? -/
def objS (p : Prg) (h : List Ob) (v : Vl) (c : Int) : Bool :=
  decide (v.1 = 2) && (match h[v.2.toNat]? with | none => false | some o => decide (0 ≤ o.cls) && decide (o.cls < (p.length : Int)) && undB p o.cls c)
def isS (p : Prg) (h : List Ob) (v : Vl) (t : Int) : Bool := if t = -1 then decide (v.1 = 1) else decide (v.1 = 3) || objS p h v t
/-- A class's own field, where there is one. -/
def fldS (p : Prg) (A B : Int) : Option Int := match p[A.toNat]? with | none => none | some c => c.fields[B.toNat]?
def placeS (p : Prg) (A B : Int) : Nat := match p[A.toNat]? with | none => 0 | some c => (fieldsR p 6 c.super).length + B.toNat
/-- The method that a frame runs. -/
def ownS (p : Prg) (f : Fr) : Option Meth := if f.cls < 0 then none else match p[f.cls.toNat]? with | none => none | some c => ownF c f.name
def methS (p : Prg) (c n : Int) : Option Meth := if c < 0 then none else match p[c.toNat]? with | none => none | some k => ownF k n
def topV (s : List Vl) : Vl := s.getLast?.getD (0, 0)
def nextV (s : List Vl) : Vl := s.dropLast.getLast?.getD (0, 0)
def withTop (m : Mc) (f : Fr) : Mc := { m with frames := m.frames.dropLast ++ [f] }
/-- On, with these put in the place of what was taken. -/
def onS (m : Mc) (f : Fr) (take : Nat) (put : List Vl) (pos : Int) : Mc × Int := (withTop m { f with stk := f.stk.take (f.stk.length - take) ++ put, pos := pos }, 0)
def callS (p : Prg) (m : Mc) (f : Fr) (A B : Int) : Mc × Int :=
  match methS p (selF p A B) B with
  | none => (m, 6)
  | some own =>
    if (p.length : Int) ≤ A then (m, 6) else
    if f.stk.length < own.args.length + 1 ∨ 8 < f.stk.length - own.args.length then (m, 6) else
    let keep := f.stk.length - own.args.length - 1
    if !((List.range own.args.length).all fun k => isS p m.heap ((f.stk[keep + 1 + k]?).getD (0, 0)) ((own.args[k]?).getD 0)) then (m, 6) else
    let who := (f.stk[keep]?).getD (0, 0)
    if who.1 = 3 then (m, 3) else
    if !(objS p m.heap who A) then (m, 6) else
    if m.frames.length = 30 then (m, 5) else
    let to := selF p ((m.heap[who.2.toNat]?).getD default).cls B
    ({ m with frames := (m.frames.dropLast ++ [{ f with stk := f.stk.take keep }]) ++ [⟨to, B, 0, [], frmV (f.stk.drop keep)⟩] }, 0)
def giveS (m : Mc) (v : Vl) : Mc × Int :=
  match m.frames.dropLast.getLast? with
  | none => ({ m with frames := [], code := v.2 }, 1)
  | some b => if b.stk.length = 8 then (m, 6) else ({ m with frames := m.frames.dropLast.dropLast ++ [{ b with stk := b.stk ++ [v], pos := b.pos + 1 }] }, 0)
def stepI (p : Prg) (m : Mc) (f : Fr) (own : Meth) (i : Tx.Ins) : Mc × Int :=
  let op := i.1; let A := i.2.1; let B := i.2.2
  let n := f.stk.length
  if n < takesS op ∨ 8 < n - takesS op + putsS op then (m, 6) else
  let top := topV f.stk
  let next := nextV f.stk
  if op = 1 then onS m f 0 [(1, A)] (f.pos + 1)
  else if op = 2 then onS m f 0 [(f.loc[A.toNat]?).getD (0, 0)] (f.pos + 1)
  else if op = 3 then onS m { f with loc := f.loc.set A.toNat top } 1 [] (f.pos + 1)
  else if op = 4 ∨ op = 5 ∨ op = 6 ∨ op = 7 then
    (if top.1 ≠ 1 ∨ next.1 ≠ 1 then (m, 6) else if op = 7 ∧ top.2 = 0 then (m, 2) else onS m f 2 [(1, sumS op next.2 top.2)] (f.pos + 1))
  else if op = 8 then onS m f 1 [top, top] (f.pos + 1)
  else if op = 9 then onS m f 1 [] (f.pos + 1)
  else if op = 10 then onS m f 2 [top, next] (f.pos + 1)
  else if op = 11 then onS m f 0 [] A
  else if op = 12 then (if top.1 ≠ 1 then (m, 6) else onS m f 1 [] (if top.2 = 0 then A else f.pos + 1))
  else if op = 13 then onS m f 0 [(3, 0)] (f.pos + 1)
  else if op = 14 then
    (if (p.length : Int) ≤ A then (m, 6) else if m.heap.length = 50 then (m, 4) else
      onS { m with heap := m.heap ++ [⟨A, (fieldsR p 6 A).map valF⟩] } f 0 [(2, (m.heap.length : Int))] (f.pos + 1))
  else if op = 15 then
    (if (fldS p A B).isNone then (m, 6) else if top.1 = 3 then (m, 3) else
      if !(objS p m.heap top A) then (m, 6) else
      match ((m.heap[top.2.toNat]?).getD default).flds[placeS p A B]? with
      | none => (m, 6)
      | some v => onS m f 1 [v] (f.pos + 1))
  else if op = 16 then
    (match fldS p A B with
    | none => (m, 6)
    | some t => if !(isS p m.heap top t) then (m, 6) else if next.1 = 3 then (m, 3) else
      if !(objS p m.heap next A) ∨ ((m.heap[next.2.toNat]?).getD default).flds.length ≤ placeS p A B then (m, 6) else
      let o := (m.heap[next.2.toNat]?).getD default
      onS { m with heap := m.heap.set next.2.toNat { o with flds := o.flds.set (placeS p A B) top } } f 2 [] (f.pos + 1))
  else if op = 17 then callS p m f A B
  else if op = 18 then (if top.1 = 1 then (m, 6) else onS m f 1 [(1, if top.1 = 3 then 1 else 0)] (f.pos + 1))
  else if op = 19 then
    (if top.1 ≠ 1 ∨ m.said.length = 20000 then (m, 6) else onS { m with said := m.said ++ [top.2] } f 1 [] (f.pos + 1))
  else (if !(isS p m.heap top own.gives) then (m, 6) else giveS m top)
/-- One step of a right machine that runs: what becomes of it, and how it ended. -/
def stepS (p : Prg) (m : Mc) : Mc × Int :=
  match m.frames.getLast? with
  | none => (m, 6)
  | some f => match ownS p f with
    | none => (m, 6)
    | some own => if f.pos < 0 ∨ (own.code.length : Int) ≤ f.pos then (m, 6) else stepI p m f own ((own.code[f.pos.toNat]?).getD (0, 0, 0))
def steppedS (p : Prg) (m : Mc) : Mc := if okP p && machB m then (if m.fin = 0 then { (stepS p m).1 with fin := (stepS p m).2 } else m) else zeroM
/-- A run: n steps at most, and how many were done. -/
def ranS (p : Prg) : Nat → Mc → Mc × Nat
  | 0, m => (m, 0)
  | n + 1, m => if m.fin = 0 then (let r := ranS p n { (stepS p m).1 with fin := (stepS p m).2 }; (r.1, r.2 + 1)) else (m, 0)
end Pg
end Go.Proofs.Ytffkkhaiedhaiaa

/- Contracts: what is reached, on both sides. -/
namespace Go.Proofs.Ytffkkhaiedhaiaa
namespace Pg
open Go.ChangeShapes Go.WideShapes Go.ChangeAt Go.RowKit St

inductive Rch (code : List Tx.Ins) : Nat → Prop
  | zero : Rch code 0
  | step {a j : Nat} : Rch code a → nxB code a j = true → Rch code j
open Classical in
noncomputable def rchB (code : List Tx.Ins) (j : Nat) : Bool := decide (Rch code j)
theorem rchB_iff {code : List Tx.Ins} {j : Nat} : rchB code j = true ↔ Rch code j := by simp [rchB]
theorem nxB_lt {code : List Tx.Ins} {a j : Nat} (h : nxB code a j = true) : j < code.length := by
  unfold nxB at h
  simp only [Bool.and_eq_true, decide_eq_true_eq] at h
  exact h.2
theorem Rch.lt {code : List Tx.Ins} (h0 : 0 < code.length) {j : Nat} (h : Rch code j) : j < code.length := by
  cases h with
  | zero => exact h0
  | step _ h => exact nxB_lt h
theorem Rch.least {code : List Tx.Ins} {S : Nat → Prop} (h0 : S 0) (hs : ∀ a, S a → ∀ j, nxB code a j = true → S j) {j : Nat} (h : Rch code j) : S j := by
  induction h with
  | zero => exact h0
  | step _ h ih => exact hs _ ih _ h

def cntS (n : Nat) (P : Nat → Bool) : Nat := (List.range n).countP P
theorem cnt_le (n : Nat) (P : Nat → Bool) : cntS n P ≤ n := by
  have := List.countP_le_length (p := P) (l := List.range n)
  simpa [cntS] using this
theorem cnt_succ (n : Nat) (P : Nat → Bool) : cntS (n + 1) P = cntS n P + (if P n then 1 else 0) := by
  unfold cntS
  rw [List.range_succ, List.countP_append]
  cases h : P n <;> simp [h]
theorem cnt_mono {P Q : Nat → Bool} : ∀ {n : Nat}, (∀ j, j < n → P j = true → Q j = true) → cntS n P ≤ cntS n Q
  | 0, _ => by simp [cntS]
  | n + 1, h => by
    have ih := cnt_mono (n := n) fun j hj => h j (by omega)
    rw [cnt_succ, cnt_succ]
    cases hp : P n
    · simp; omega
    · rw [h n (by omega) hp]; simp; omega
theorem cnt_lt {P Q : Nat → Bool} : ∀ {n : Nat}, (∀ j, j < n → P j = true → Q j = true) → alike n Q P = false → cntS n P < cntS n Q
  | 0, _, h => by simp [alike] at h
  | n + 1, h, hne => by
    rw [cnt_succ, cnt_succ]
    cases ha : alike n Q P
    · have ih := cnt_lt (n := n) (fun j hj => h j (by omega)) ha
      cases hp : P n
      · simp; omega
      · rw [h n (by omega) hp]; simp; omega
    · have hm := cnt_mono (n := n) fun j hj => h j (by omega)
      have hdiff : Q n ≠ P n := by
        intro e
        have : alike (n + 1) Q P = true := alike_iff.2 fun j hj => by
          rcases Nat.lt_or_ge j n with h1 | h1
          · exact alike_iff.1 ha j h1
          · rw [show j = n by omega]; exact e
        rw [this] at hne; simp at hne
      cases hp : P n
      · cases hq : Q n
        · rw [hp, hq] at hdiff; simp at hdiff
        · simp; omega
      · rw [h n (by omega) hp, hp] at hdiff; simp at hdiff
/-- Where the program stands in a round: P what was there when it began, Q by now. -/
structure Swp9 (code : List Tx.Ins) (P Q : Nat → Bool) (k : Nat) : Prop where
  up : ∀ j, P j = true → Q j = true
  sub : ∀ j, Q j = true → Rch code j
  zero : P 0 = true
  done : ∀ a, a < k → P a = true → ∀ j, nxB code a j = true → Q j = true
theorem Swp9.yes {code : List Tx.Ins} {P Q : Nat → Bool} {k : Nat} (h : Swp9 code P Q k) (hk : Q k = true) : Swp9 code P (fun j => Q j || nxB code k j) (k + 1) :=
  ⟨fun j hj => by rw [h.up j hj, Bool.true_or], fun j hj => by
    rw [Bool.or_eq_true] at hj
    rcases hj with hj | hj
    · exact h.sub j hj
    · exact .step (h.sub k hk) hj, h.zero, fun a ha hp j hj => by
    rcases Nat.lt_or_ge a k with h1 | h1
    · rw [h.done a h1 hp j hj, Bool.true_or]
    · rw [show a = k by omega] at hj
      rw [hj, Bool.or_true]⟩
theorem Swp9.no {code : List Tx.Ins} {P Q : Nat → Bool} {k : Nat} (h : Swp9 code P Q k) (hk : Q k = false) : Swp9 code P Q (k + 1) :=
  ⟨h.up, h.sub, h.zero, fun a ha hp j hj => by
    rcases Nat.lt_or_ge a k with h1 | h1
    · exact h.done a h1 hp j hj
    · rw [show a = k by omega] at hp
      rw [h.up k hp] at hk; simp at hk⟩
theorem Swp9.ends {code : List Tx.Ins} (hok : Lay.codeOk code = true) {P Q : Nat → Bool} (h : Swp9 code P Q code.length) (ha : alike 40 Q P = true) : chi 40 Q = chi 40 (rchB code) := by
  have hl := Lay.ok_len hok
  refine chi_congr fun j hj => ?_
  rw [Bool.eq_iff_iff, rchB_iff]
  refine ⟨h.sub j, fun hr => ?_⟩
  have key : Q j = true ∧ j < code.length := by
    refine Rch.least (S := fun j => Q j = true ∧ j < code.length) ⟨h.up 0 h.zero, hl.1⟩ ?_ hr
    rintro a ⟨h1, h2⟩ j hj
    refine ⟨h.done a h2 ?_ j hj, nxB_lt hj⟩
    rw [← alike_iff.1 ha a (by omega)]; exact h1
  exact key.1

theorem stepLoad {w : World} {ops : Array Oper} {o : Oper} {a : Act} {K : Act → World → Prop} {Q : Exit → Act → World → Prop} {E : Prop} (hgd : o.guard = none) (ty : TypeId) (x : Operand) (ho : o.op = .load ty x)
    (b of : Nat) (hx : a.eval x = .pointer (some ⟨b, of, none⟩)) (cs : List Value) (d : TypeDesc) (hc : w.rangeAt b of cs)
    (hu : Try.prog.underlying ty = some d) (hd : d.isRow = true) (hi : (Try.prog.info? ty).map (·.size) = some cs.length)
    (h : K (a.put o.dst (.agg cs.toArray)) w) : if Region.wanted o (yielded ops a.tmps) = true then Oper.wp Try.prog o a w K Q else E := by
  have hw : Region.wanted o (yielded ops a.tmps) = true := by simp [Region.wanted, hgd]
  rw [if_pos hw]
  exact wp_load_mid ty x ho b of hx cs d hc hu hd hi h
theorem stepStore {w : World} {ops : Array Oper} {o : Oper} {a : Act} {K : Act → World → Prop} {Q : Exit → Act → World → Prop} {E : Prop} (hgd : o.guard = none) (ty : TypeId) (x y : Operand) (ho : o.op = .store ty x y)
    (b of : Nat) (cells : Array Value) (hx : a.eval x = .pointer (some ⟨b, of, none⟩)) (hy : a.eval y = .agg cells)
    (ht : w.there b of cells.size) (hi : (Try.prog.info? ty).map (·.size) = some cells.size) (h1 : cells.all (·.oneCell') = true)
    (h : K (a.put o.dst undef) (w.setCells b of cells.toList)) : if Region.wanted o (yielded ops a.tmps) = true then Oper.wp Try.prog o a w K Q else E := by
  have hw : Region.wanted o (yielded ops a.tmps) = true := by simp [Region.wanted, hgd]
  rw [if_pos hw]
  exact wp_store_mid ty x y ho b of cells hx hy ht hi h1 h

set_option maxRecDepth 100000 in
set_option maxHeartbeats 4000000 in
theorem reachedIn_at (g yc : Nat) (code : List Tx.Ins) (hok : Lay.codeOk code = true) (w : World) (hrow : Row w g 0 code) :
    Calls Try.prog 42 #[.slice (some ⟨g, 0, none⟩) code.length yc] w fun e w' => e = .returned (.agg (chi 40 (rchB code)).toArray) ∧ Below w.heap.size w w' := by
  have hl40 := (Lay.ok_len hok).2
  have lg : g < w.heap.size := cell_lt (hrow 0 _ (ins_is (Lay.ok_len hok).1)).1
  have HR : Hid (Row w g 0 code) := hrow
  have HOK : Hid (Lay.codeOk code = true) := hok
  obtain ⟨W, hW⟩ : ∃ W, W = (w.alloc (.cells (chi 40 fun _ => false).toArray 67)).alloc (.cells (chi 40 fun _ => false).toArray 67) := ⟨_, rfl⟩
  have hwW : Below w.heap.size w W := by rw [hW]; exact ((Below.refl _ _).alloc (Nat.le_refl _) _).alloc (by simp) _
  have C0 : Hid (Cells W w.heap.size (chi 40 fun _ => false)) := by show Cells _ _ _; rw [hW]; exact (Cells.new w _ rfl _ _).alloc _
  have C1 : Hid (Cells W (w.heap.size + 1) (chi 40 fun _ => false)) := by show Cells _ _ _; rw [hW]; exact Cells.new (w.alloc _) _ (by simp) _ _
  have C1L : Hid (Cells ((w.alloc (.cells (chi 40 fun _ => false).toArray 67)).alloc (.cells (chi 40 fun _ => false).toArray 67)) (w.heap.size + 1) (chi 40 fun _ => false)) := Cells.new (w.alloc _) _ (by simp) _ _
  have HW : Hid (W = (w.alloc (.cells (chi 40 fun _ => false).toArray 67)).alloc (.cells (chi 40 fun _ => false).toArray 67)) := hW
  clear hW hrow hok
  have HCO : Hid (∀ v ∈ (chi 40 fun j => decide (j = 0)), v.oneCell' = true) := chi_one _ _
  go_enter Try.func42, Try.ntmps42
  go_wp2_with (first
    | (with_reducible refine wpList_alloc_chi rfl 67 rfl 40 zeroS ?_)
    | (with_reducible refine wpList_build_chi rfl 67 rfl 40 (by decide) Try.underlying67 zeroS ?_)
    | (with_reducible refine wpList_store_mid rfl 67 (.tmp 3) (.tmp 6) rfl (w.heap.size + 1) 0 (chi 40 fun j => decide (j = 0)).toArray (by simp [Act.eval, Act.put]) (by simp [Act.eval, Act.put]) (C1L.out.there (by simp [chi_len])) (by rw [infoS]; simp [chi_len]) (all_oneCell_toArray HCO.out) ?_))
  rw [← HW.out]
  clear HW C1L
  have D0 : Hid (Cells (W.setCells (w.heap.size + 1) 0 (chi 40 fun j => decide (j = 0))) w.heap.size (chi 40 fun _ => false)) := C0.out.putFar _ (by omega)
  have D1 : Hid (Cells (W.setCells (w.heap.size + 1) 0 (chi 40 fun j => decide (j = 0))) (w.heap.size + 1) (chi 40 fun j => decide (j = 0))) := C1.out.put (by rw [chi_len, chi_len])
  have hbD : Below w.heap.size w (W.setCells (w.heap.size + 1) 0 (chi 40 fun j => decide (j = 0))) := below_setCells (by omega) _ _ hwW
  clear C0 C1 hwW HCO
  generalize W.setCells (w.heap.size + 1) 0 (chi 40 fun j => decide (j = 0)) = X at *
  go_loopg [] 40 (fun n wr => ∃ P : Nat → Bool, Hid (40 ≤ cntS 40 P + n) ∧ Hid (P 0 = true ∧ ∀ j, P j = true → Rch code j) ∧ Hid (Cells wr w.heap.size (chi 40 fun _ => false)) ∧ Hid (Cells wr (w.heap.size + 1) (chi 40 P)) ∧ Below w.heap.size w wr)
  case atStart => exact ⟨fun j => decide (j = 0), Nat.le_add_left _ _, ⟨rfl, fun j hj => by rw [of_decide_eq_true hj]; exact .zero⟩, D0.out, D1.out, hbD⟩
  case round =>
    clear D0 D1 hbD
    obtain ⟨P, hn, hP, hc0, hc1, hb⟩ := hrel
    have hz : w.heap.size + 1 < wr.heap.size := hc1.out.lt' (by decide)
    obtain ⟨bb, hbb⟩ : ∃ bb, bb = wr.heap.size := ⟨_, rfl⟩
    have CB : Hid (Cells (wr.alloc (.cells (chi 40 fun _ => false).toArray 67)) wr.heap.size (chi 40 fun _ => false)) := Cells.new wr _ rfl _ _
    have B0 : Hid (Cells ((wr.alloc (.cells (chi 40 fun _ => false).toArray 67)).setCells wr.heap.size 0 (chi 40 P)) w.heap.size (chi 40 fun _ => false)) := (hc0.out.alloc _).putFar _ (by omega)
    have B1 : Hid (Cells ((wr.alloc (.cells (chi 40 fun _ => false).toArray 67)).setCells wr.heap.size 0 (chi 40 P)) (w.heap.size + 1) (chi 40 P)) := (hc1.out.alloc _).putFar _ (by omega)
    have BB : Hid (Cells ((wr.alloc (.cells (chi 40 fun _ => false).toArray 67)).setCells wr.heap.size 0 (chi 40 P)) wr.heap.size (chi 40 P)) := CB.out.put (by rw [chi_len, chi_len])
    have hbB : Below w.heap.size w ((wr.alloc (.cells (chi 40 fun _ => false).toArray 67)).setCells wr.heap.size 0 (chi 40 P)) := below_setCells (by omega) _ _ (hb.alloc hb.size _)
    have HPC : Hid (∀ v ∈ chi 40 P, v.oneCell' = true) := chi_one _ _
    go_wp2_with (first
      | (with_reducible refine wpList_alloc_chi rfl 67 rfl 40 zeroS ?_)
      | (with_reducible refine wpList_load_mid rfl 67 (.tmp 3) rfl (w.heap.size + 1) 0 (by simp [Act.eval]) (chi 40 P) _ hc1.out.range Try.underlying67 rfl (by rw [infoS, chi_len]) ?_)
      | (with_reducible refine wpList_store_mid rfl 67 (.tmp 4) (.tmp 7) rfl wr.heap.size 0 (chi 40 P).toArray (by simp [Act.eval, Act.put]) (by simp [Act.eval, Act.put]) (CB.out.there (by simp [chi_len])) (by rw [infoS]; simp [chi_len]) (all_oneCell_toArray HPC.out) ?_))
    generalize (wr.alloc (.cells (chi 40 fun _ => false).toArray 67)).setCells wr.heap.size 0 (chi 40 P) = Y at *
    rw [← hbb] at BB ⊢
    have hzb : w.heap.size + 1 < bb := by rw [hbb]; exact hz
    clear hbb hc0 hc1 hb CB HPC hz
    have HS0 : Hid (Swp9 code P P 0) := ⟨fun _ h => h, hP.out.2, hP.out.1, fun a ha => by omega⟩
    go_loopw [10] (fun i wr => ∃ (k : Nat) (Q : Nat → Bool), k ≤ code.length ∧ i = .int .i64 k ∧ Hid (Cells wr w.heap.size (chi 40 fun _ => false)) ∧ Hid (Cells wr (w.heap.size + 1) (chi 40 Q)) ∧ Hid (Cells wr bb (chi 40 P)) ∧ Hid (Swp9 code P Q k) ∧ Below w.heap.size w wr) (fun i _ => code.length - (intOf i).toNat)
    case atStart => exact ⟨0, P, Nat.zero_le _, rfl, B0.out, B1.out, BB.out, HS0.out, hbB⟩
    case round =>
      clear B0 B1 BB HS0 hbB
      obtain ⟨k, Q, hk, rfl, hc0, hc1, hcb, hsw, hb⟩ := hrel
      by_cases hlt : k < code.length
      · have hki : (k : Int) < (code.length : Int) := by omega
        have hk40 : (k : Int) < 40 := by omega
        obtain ⟨c0, _⟩ := hc1.out k _ (chi_at Q (by omega))
        cases hq : Q k
        · rw [hq] at c0
          have HSWN : Hid (Swp9 code P Q (k + 1)) := hsw.out.no hq
          clear hq hsw
          go_wp2
          go_roundw
          case rel => exact ⟨k + 1, Q, by omega, by go_num, hc0.out, hc1.out, hcb.out, HSWN.out, hb⟩
          case measure => simp [intOf]; omega
        · rw [hq] at c0
          have HSWY : Hid (Swp9 code P (fun j => Q j || nxB code k j) (k + 1)) := hsw.out.yes hq
          clear hq hsw
          go_wp2_with fail
          clear c0
          have hD0 : Below wr.heap.size wr wr.drew := (Below.refl _ _).drew
          refine wp_region_held_drew (S := fun _ => True) (by kernel_rfl) trivial (fun hHeld => ?_)
          generalize wr.drew = Q0 at hD0 hHeld ⊢
          refine wpAnyH_take (i := 1) (v := ?_) rfl (by kernel_rfl) (by kernel_rfl) (by kernel_rfl) (fun _ _ _ h => h) (Or.inl ⟨by rfl, ?_⟩) hHeld ?_
          rotate_left 1
          · intro w' hSw
            go_simp
            try with_reducible rfl
          simp only [Act.put]
          refine wpAnyH_take (i := 2) (v := ?_) rfl (by kernel_rfl) (by kernel_rfl) (by kernel_rfl) (fun _ _ _ h => h) (Or.inl ⟨by rfl, ?_⟩) hHeld ?_
          rotate_left 1
          · intro w' hSw
            go_simp
            try with_reducible rfl
          simp only [Act.put]
          refine wpAnyH_ready (rs := [0, 3]) (by kernel_rfl) (by simp) ?_
          refine AllReadyH.cons rfl (fun K hK => ?_) (AllReadyH.cons rfl (fun K hK => ?_) AllReadyH.nil)
          · refine stepLoad rfl 67 (.tmp 3) rfl (w.heap.size + 1) 0 (by simp [Act.eval]) (chi 40 Q) _ (hc1.out.on hD0).range Try.underlying67 rfl (by rw [infoS, chi_len]) ?_
            simp only [Act.put]
            refine hK.out _ _ trivial (fun hHeld => ?_)
            clear hK K
            refine wpAnyH_ready (rs := [3]) (by kernel_rfl) (by simp) ?_
            refine AllReadyH.cons rfl (fun K hK => ?_) AllReadyH.nil
            go_simp
            refine (nextsIn_at g yc code HOK.out k hlt Q0 (HR.out.on (below_over hb hD0))).mono ?_
            rintro e Q1 ⟨rfl, hq1⟩
            have hR1 : Below wr.heap.size wr Q1 := below_over hD0 hq1
            clear hq1
            dsimp only
            refine hK.out _ _ trivial (fun hHeld => ?_)
            clear hK K
            refine wpAnyH_ready (rs := [4]) (by kernel_rfl) (by simp) ?_
            refine AllReadyH.cons rfl (fun K hK => ?_) AllReadyH.nil
            go_simp
            refine (withS_at Q (nxB code k) Q1).mono ?_
            rintro e Q2 ⟨rfl, hq2⟩
            have hR2 : Below wr.heap.size wr Q2 := below_over hR1 hq2
            dsimp only
            refine hK.out _ _ trivial (fun hHeld => ?_)
            clear hK K
            have E0 : Hid (Cells Q2 w.heap.size (chi 40 fun _ => false)) := hc0.out.on hR2
            have E1 : Hid (Cells Q2 (w.heap.size + 1) (chi 40 Q)) := hc1.out.on hR2
            have EB : Hid (Cells Q2 bb (chi 40 P)) := hcb.out.on hR2
            have F0 : Hid (Cells (Q2.setCells (w.heap.size + 1) 0 (chi 40 fun j => Q j || nxB code k j)) w.heap.size (chi 40 fun _ => false)) := E0.out.putFar _ (by omega)
            have F1 : Hid (Cells (Q2.setCells (w.heap.size + 1) 0 (chi 40 fun j => Q j || nxB code k j)) (w.heap.size + 1) (chi 40 fun j => Q j || nxB code k j)) := E1.out.put (by rw [chi_len, chi_len])
            have FB : Hid (Cells (Q2.setCells (w.heap.size + 1) 0 (chi 40 fun j => Q j || nxB code k j)) bb (chi 40 P)) := EB.out.putFar _ (by omega)
            have hbF : Below w.heap.size w (Q2.setCells (w.heap.size + 1) 0 (chi 40 fun j => Q j || nxB code k j)) := below_setCells (by omega) _ _ (below_over hb hR2)
            refine wpAnyH_ready (rs := [5]) (by kernel_rfl) (by simp) ?_
            refine AllReadyH.cons rfl (fun K hK => ?_) AllReadyH.nil
            refine stepStore rfl 67 (.tmp 3) (.tmp 20) rfl (w.heap.size + 1) 0 (chi 40 fun j => Q j || nxB code k j).toArray (by simp [Act.eval]) (by simp [Act.eval]) (E1.out.there (by simp [chi_len])) (by rw [infoS]; simp [chi_len]) (all_oneCell_toArray (chi_one _ _)) ?_
            rw [List.toList_toArray]
            clear E0 E1 EB
            generalize Q2.setCells (w.heap.size + 1) 0 (chi 40 fun j => Q j || nxB code k j) = X at *
            simp only [Act.put]
            refine hK.out _ _ trivial (fun hHeld => ?_)
            clear hK K
            refine wpAnyH_done (by kernel_rfl) ?_ _
            clear hHeld hD0 hR1 hR2 hq2 hc0 hc1 hcb hb
            go_wp2
            go_roundw
            case rel => exact ⟨k + 1, _, by omega, by go_num, F0.out, F1.out, FB.out, HSWY.out, hbF⟩
            case measure => simp [intOf]; omega
          · go_simp
            refine (nextsIn_at g yc code HOK.out k hlt Q0 (HR.out.on (below_over hb hD0))).mono ?_
            rintro e Q1 ⟨rfl, hq1⟩
            have hR1 : Below wr.heap.size wr Q1 := below_over hD0 hq1
            clear hq1
            dsimp only
            refine hK.out _ _ trivial (fun hHeld => ?_)
            clear hK K
            refine wpAnyH_ready (rs := [0]) (by kernel_rfl) (by simp) ?_
            refine AllReadyH.cons rfl (fun K hK => ?_) AllReadyH.nil
            refine stepLoad rfl 67 (.tmp 3) rfl (w.heap.size + 1) 0 (by simp [Act.eval]) (chi 40 Q) _ (hc1.out.on hR1).range Try.underlying67 rfl (by rw [infoS, chi_len]) ?_
            simp only [Act.put]
            refine hK.out _ _ trivial (fun hHeld => ?_)
            clear hK K
            refine wpAnyH_ready (rs := [4]) (by kernel_rfl) (by simp) ?_
            refine AllReadyH.cons rfl (fun K hK => ?_) AllReadyH.nil
            go_simp
            refine (withS_at Q (nxB code k) Q1).mono ?_
            rintro e Q2 ⟨rfl, hq2⟩
            have hR2 : Below wr.heap.size wr Q2 := below_over hR1 hq2
            dsimp only
            refine hK.out _ _ trivial (fun hHeld => ?_)
            clear hK K
            have E0 : Hid (Cells Q2 w.heap.size (chi 40 fun _ => false)) := hc0.out.on hR2
            have E1 : Hid (Cells Q2 (w.heap.size + 1) (chi 40 Q)) := hc1.out.on hR2
            have EB : Hid (Cells Q2 bb (chi 40 P)) := hcb.out.on hR2
            have F0 : Hid (Cells (Q2.setCells (w.heap.size + 1) 0 (chi 40 fun j => Q j || nxB code k j)) w.heap.size (chi 40 fun _ => false)) := E0.out.putFar _ (by omega)
            have F1 : Hid (Cells (Q2.setCells (w.heap.size + 1) 0 (chi 40 fun j => Q j || nxB code k j)) (w.heap.size + 1) (chi 40 fun j => Q j || nxB code k j)) := E1.out.put (by rw [chi_len, chi_len])
            have FB : Hid (Cells (Q2.setCells (w.heap.size + 1) 0 (chi 40 fun j => Q j || nxB code k j)) bb (chi 40 P)) := EB.out.putFar _ (by omega)
            have hbF : Below w.heap.size w (Q2.setCells (w.heap.size + 1) 0 (chi 40 fun j => Q j || nxB code k j)) := below_setCells (by omega) _ _ (below_over hb hR2)
            refine wpAnyH_ready (rs := [5]) (by kernel_rfl) (by simp) ?_
            refine AllReadyH.cons rfl (fun K hK => ?_) AllReadyH.nil
            refine stepStore rfl 67 (.tmp 3) (.tmp 20) rfl (w.heap.size + 1) 0 (chi 40 fun j => Q j || nxB code k j).toArray (by simp [Act.eval]) (by simp [Act.eval]) (E1.out.there (by simp [chi_len])) (by rw [infoS]; simp [chi_len]) (all_oneCell_toArray (chi_one _ _)) ?_
            rw [List.toList_toArray]
            clear E0 E1 EB
            generalize Q2.setCells (w.heap.size + 1) 0 (chi 40 fun j => Q j || nxB code k j) = X at *
            simp only [Act.put]
            refine hK.out _ _ trivial (fun hHeld => ?_)
            clear hK K
            refine wpAnyH_done (by kernel_rfl) ?_ _
            clear hHeld hD0 hR1 hR2 hq2 hc0 hc1 hcb hb
            go_wp2
            go_roundw
            case rel => exact ⟨k + 1, _, by omega, by go_num, F0.out, F1.out, FB.out, HSWY.out, hbF⟩
            case measure => simp [intOf]; omega
      · obtain rfl : k = code.length := by omega
        have hki : ¬ (code.length : Int) < (code.length : Int) := by omega
        have heq := run_equal_chi Try.underlying67 Q P wr
        cases ha : alike 40 Q P
        · rw [ha] at heq
          have HLT : Hid (cntS 40 P < cntS 40 Q ∧ cntS 40 Q ≤ 40) := ⟨cnt_lt (fun j _ => hsw.out.up j) ha, cnt_le _ _⟩
          have HQ : Hid (Q 0 = true ∧ ∀ j, Q j = true → Rch code j) := ⟨hsw.out.up 0 hsw.out.zero, hsw.out.sub⟩
          clear ha hsw
          go_wp2_with (first
            | (with_reducible refine wpList_load_mid rfl 67 (.tmp 3) rfl (w.heap.size + 1) 0 (by simp [Act.eval, Act.put]) (chi 40 Q) _ hc1.out.range Try.underlying67 rfl (by rw [infoS, chi_len]) ?_)
            | (with_reducible refine wpList_load_mid rfl 67 (.tmp 4) rfl bb 0 (by simp [Act.eval, Act.put]) (chi 40 P) _ hcb.out.range Try.underlying67 rfl (by rw [infoS, chi_len]) ?_))
          go_roundg (gk - 1)
          case measure => have := HLT.out; have := hn.out; omega
          case rel => exact ⟨Q, by show _ ≤ _; have := HLT.out; have := hn.out; omega, HQ.out, hc0.out, hc1.out, hb⟩
        · rw [ha] at heq
          have HEND : Hid (chi 40 Q = chi 40 (rchB code)) := hsw.out.ends HOK.out ha
          clear ha hsw
          have HC1 : Hid (Cells wr (w.heap.size + 1) (chi 40 (Q))) := hc1.out
          clear hc1
          have HCL : Hid ((chi 40 (Q)).length = 40) := chi_len _ _
          have HCO : Hid (∀ v ∈ chi 40 (Q), v.oneCell' = true) := chi_one _ _
          have HC2 : Hid (Cells (wr.setCells w.heap.size 0 (chi 40 (Q))) w.heap.size (chi 40 (Q))) := hc0.out.put (by rw [chi_len, chi_len])
          have hb2 : Below w.heap.size w (wr.setCells w.heap.size 0 (chi 40 (Q))) := below_setCells (Nat.le_refl _) _ _ hb
          clear hb
          generalize hcs : chi 40 (Q) = cs at *
          have HCS : Hid (chi 40 (Q) = cs) := hcs
          clear hcs
          go_wp2_with (first
            | (with_reducible refine wpList_load_mid rfl 67 (.tmp 3) rfl (w.heap.size + 1) 0 (by simp [Act.eval]) cs _ HC1.out.range Try.underlying67 rfl (by rw [infoS, HCL.out]) ?_)
            | (with_reducible refine wpList_load_mid rfl 67 (.tmp 4) rfl bb 0 (by simp [Act.eval, Act.put]) (chi 40 P) _ hcb.out.range Try.underlying67 rfl (by rw [infoS, chi_len]) ?_)
            | (with_reducible refine wpList_store_mid rfl 67 (.tmp 2) (.tmp 25) rfl w.heap.size 0 cs.toArray (by simp [Act.eval, Act.put]) (by simp [Act.eval, Act.put]) (hc0.out.there (by rw [chi_len]; simpa using HCL.out)) (by rw [infoS]; simpa using HCL.out.symm) (all_oneCell_toArray HCO.out) ?_))
          (try simp only [Exit.inBlock, Exit.then])
          refine bodyPost_ret (ret_cell rfl rfl HC2.out.range Try.underlying67 rfl (by rw [infoS, HCL.out])) rfl ?_
          exact ⟨by rw [HEND.out], hb2⟩
end Pg
end Go.Proofs.Ytffkkhaiedhaiaa

/- What a step does to the frames, plainly; what runs is reached and goes to one of what may come next. -/
namespace Go.Proofs.Ytffkkhaiedhaiaa
namespace Pg
open Go.ChangeShapes Go.WideShapes Go.ChangeAt Go.RowKit St Wd

/-- How a step may turn the frames. -/
inductive Kind (p : Prg) (m : Mc) (f : Fr) (i : Tx.Ins) (r : Mc × Int) : Prop
  | ends (h : r.2 ≠ 0)
  | on (f' : Fr) (h0 : r.2 = 0) (h : r.1.frames = m.frames.dropLast ++ [f']) (hc : f'.cls = f.cls) (hn : f'.name = f.name) (hp : (f'.pos = f.pos + 1 ∧ i.1 ≠ 11 ∧ i.1 ≠ 20) ∨ (f'.pos = i.2.1 ∧ (i.1 = 11 ∨ i.1 = 12)))
  | call (f' : Fr) (g : Fr) (h0 : r.2 = 0) (h17 : i.1 = 17) (h : r.1.frames = (m.frames.dropLast ++ [f']) ++ [g]) (hc : f'.cls = f.cls) (hn : f'.name = f.name) (hp : f'.pos = f.pos) (hg : g.name = i.2.2 ∧ g.pos = 0 ∧ g.cls = selF p ((m.heap[((f.stk[f'.stk.length]?).getD (0, 0)).2.toNat]?).getD default).cls i.2.2) (ho : objS p m.heap ((f.stk[f'.stk.length]?).getD (0, 0)) i.2.1 = true) (hm : ∃ own', methS p (selF p i.2.1 i.2.2) i.2.2 = some own')
  | give (b b' : Fr) (h0 : r.2 = 0) (h20 : i.1 = 20) (hb : m.frames.dropLast.getLast? = some b) (h : r.1.frames = m.frames.dropLast.dropLast ++ [b']) (hc : b'.cls = b.cls) (hn : b'.name = b.name) (hp : b'.pos = b.pos + 1)
theorem kind_on {p : Prg} {m : Mc} {f : Fr} {i : Tx.Ins} {m' : Mc} (hm : m'.frames = m.frames) {f1 : Fr} (hc : f1.cls = f.cls) (hn : f1.name = f.name) (t : Nat) (put : List Vl) {q : Int} (hp : (q = f.pos + 1 ∧ i.1 ≠ 11 ∧ i.1 ≠ 20) ∨ (q = i.2.1 ∧ (i.1 = 11 ∨ i.1 = 12))) : Kind p m f i (onS m' f1 t put q) :=
  .on { f1 with stk := f1.stk.take (f1.stk.length - t) ++ put, pos := q } rfl (by simp [onS, withTop, hm]) hc hn hp
theorem kind_call (p : Prg) (m : Mc) (f : Fr) (i : Tx.Ins) (h17 : i.1 = 17) : Kind p m f i (callS p m f i.2.1 i.2.2) := by
  unfold callS
  split
  · exact .ends (by simp)
  · rename_i own hown
    split
    · exact .ends (by simp)
    · split
      · exact .ends (by simp)
      · rename_i hst
        dsimp only
        split
        · exact .ends (by simp)
        · split
          · exact .ends (by simp)
          · split
            · exact .ends (by simp)
            · rename_i hob
              split
              · exact .ends (by simp)
              · have hl : (f.stk.take (f.stk.length - own.args.length - 1)).length = f.stk.length - own.args.length - 1 := by rw [List.length_take]; omega
                refine .call { f with stk := f.stk.take (f.stk.length - own.args.length - 1) } _ rfl h17 rfl rfl rfl rfl ?_ ?_ ⟨own, hown⟩
                · refine ⟨rfl, rfl, ?_⟩
                  dsimp only
                  rw [hl]
                · dsimp only
                  rw [hl]
                  simpa using hob
theorem kind_give (p : Prg) (m : Mc) (f : Fr) (i : Tx.Ins) (h20 : i.1 = 20) (v : Vl) : Kind p m f i (giveS m v) := by
  unfold giveS
  split
  · exact .ends (by simp)
  · rename_i b hb
    split
    · exact .ends (by simp)
    · exact .give b _ rfl h20 hb rfl rfl rfl rfl
theorem step_kind (p : Prg) (m : Mc) (f : Fr) (own : Meth) (i : Tx.Ins) (h20 : i.1 ≤ 20) (h1 : 1 ≤ i.1) : Kind p m f i (stepI p m f own i) := by
  obtain ⟨op, A, B⟩ := i
  dsimp only at h20 h1
  unfold stepI
  dsimp only
  by_cases hst : f.stk.length < takesS op ∨ 8 < f.stk.length - takesS op + putsS op
  · rw [if_pos hst]; exact .ends (by simp)
  · rw [if_neg hst]
    by_cases e1 : op = 1
    · rw [if_pos e1]; exact kind_on (p := p) (m := m) (f := f) (i := (op, A, B)) (by rfl) (by rfl) (by rfl) _ _ (.inl ⟨rfl, (show op ≠ 11 by omega), (show op ≠ 20 by omega)⟩)
    rw [if_neg e1]
    by_cases e2 : op = 2
    · rw [if_pos e2]; exact kind_on (p := p) (m := m) (f := f) (i := (op, A, B)) (by rfl) (by rfl) (by rfl) _ _ (.inl ⟨rfl, (show op ≠ 11 by omega), (show op ≠ 20 by omega)⟩)
    rw [if_neg e2]
    by_cases e3 : op = 3
    · rw [if_pos e3]; exact kind_on (p := p) (m := m) (f := f) (i := (op, A, B)) (by rfl) (by rfl) (by rfl) _ _ (.inl ⟨rfl, (show op ≠ 11 by omega), (show op ≠ 20 by omega)⟩)
    rw [if_neg e3]
    by_cases e4 : op = 4 ∨ op = 5 ∨ op = 6 ∨ op = 7
    · rw [if_pos e4]
      split
      · exact .ends (by simp)
      · split
        · exact .ends (by simp)
        · exact kind_on (p := p) (m := m) (f := f) (i := (op, A, B)) (by rfl) (by rfl) (by rfl) _ _ (.inl ⟨rfl, (show op ≠ 11 by omega), (show op ≠ 20 by omega)⟩)
    rw [if_neg e4]
    by_cases e8 : op = 8
    · rw [if_pos e8]; exact kind_on (p := p) (m := m) (f := f) (i := (op, A, B)) (by rfl) (by rfl) (by rfl) _ _ (.inl ⟨rfl, (show op ≠ 11 by omega), (show op ≠ 20 by omega)⟩)
    rw [if_neg e8]
    by_cases e9 : op = 9
    · rw [if_pos e9]; exact kind_on (p := p) (m := m) (f := f) (i := (op, A, B)) (by rfl) (by rfl) (by rfl) _ _ (.inl ⟨rfl, (show op ≠ 11 by omega), (show op ≠ 20 by omega)⟩)
    rw [if_neg e9]
    by_cases e10 : op = 10
    · rw [if_pos e10]; exact kind_on (p := p) (m := m) (f := f) (i := (op, A, B)) (by rfl) (by rfl) (by rfl) _ _ (.inl ⟨rfl, (show op ≠ 11 by omega), (show op ≠ 20 by omega)⟩)
    rw [if_neg e10]
    by_cases e11 : op = 11
    · rw [if_pos e11]; exact kind_on (p := p) (m := m) (f := f) (i := (op, A, B)) (by rfl) (by rfl) (by rfl) _ _ (.inr ⟨rfl, .inl e11⟩)
    rw [if_neg e11]
    by_cases e12 : op = 12
    · rw [if_pos e12]
      split
      · exact .ends (by simp)
      · split
        · exact kind_on (p := p) (m := m) (f := f) (i := (op, A, B)) (by rfl) (by rfl) (by rfl) _ _ (.inr ⟨rfl, .inr e12⟩)
        · exact kind_on (p := p) (m := m) (f := f) (i := (op, A, B)) (by rfl) (by rfl) (by rfl) _ _ (.inl ⟨rfl, (show op ≠ 11 by omega), (show op ≠ 20 by omega)⟩)
    rw [if_neg e12]
    by_cases e13 : op = 13
    · rw [if_pos e13]; exact kind_on (p := p) (m := m) (f := f) (i := (op, A, B)) (by rfl) (by rfl) (by rfl) _ _ (.inl ⟨rfl, (show op ≠ 11 by omega), (show op ≠ 20 by omega)⟩)
    rw [if_neg e13]
    by_cases e14 : op = 14
    · rw [if_pos e14]
      split
      · exact .ends (by simp)
      · split
        · exact .ends (by simp)
        · exact kind_on (p := p) (m := m) (f := f) (i := (op, A, B)) (by rfl) (by rfl) (by rfl) _ _ (.inl ⟨rfl, (show op ≠ 11 by omega), (show op ≠ 20 by omega)⟩)
    rw [if_neg e14]
    by_cases e15 : op = 15
    · rw [if_pos e15]
      split
      · exact .ends (by simp)
      · split
        · exact .ends (by simp)
        · split
          · exact .ends (by simp)
          · split
            · exact .ends (by simp)
            · exact kind_on (p := p) (m := m) (f := f) (i := (op, A, B)) (by rfl) (by rfl) (by rfl) _ _ (.inl ⟨rfl, (show op ≠ 11 by omega), (show op ≠ 20 by omega)⟩)
    rw [if_neg e15]
    by_cases e16 : op = 16
    · rw [if_pos e16]
      split
      · exact .ends (by simp)
      · split
        · exact .ends (by simp)
        · split
          · exact .ends (by simp)
          · split
            · exact .ends (by simp)
            · exact kind_on (p := p) (m := m) (f := f) (i := (op, A, B)) (by rfl) (by rfl) (by rfl) _ _ (.inl ⟨rfl, (show op ≠ 11 by omega), (show op ≠ 20 by omega)⟩)
    rw [if_neg e16]
    by_cases e17 : op = 17
    · rw [if_pos e17]; exact kind_call p m f (op, A, B) e17
    rw [if_neg e17]
    by_cases e18 : op = 18
    · rw [if_pos e18]
      split
      · exact .ends (by simp)
      · exact kind_on (p := p) (m := m) (f := f) (i := (op, A, B)) (by rfl) (by rfl) (by rfl) _ _ (.inl ⟨rfl, (show op ≠ 11 by omega), (show op ≠ 20 by omega)⟩)
    rw [if_neg e18]
    by_cases e19 : op = 19
    · rw [if_pos e19]
      split
      · exact .ends (by simp)
      · exact kind_on (p := p) (m := m) (f := f) (i := (op, A, B)) (by rfl) (by rfl) (by rfl) _ _ (.inl ⟨rfl, (show op ≠ 11 by omega), (show op ≠ 20 by omega)⟩)
    rw [if_neg e19]
    split
    · exact .ends (by simp)
    · exact kind_give p m f (op, A, B) (show op = 20 by omega) _

/-- The program that the laws make of code. -/
def mainP (a : List Tx.Ins) : Prg := [⟨-1, [-1], [⟨0, [], -1, a⟩]⟩]
theorem meth_main {a : List Tx.Ins} {c n : Int} {own : Meth} (h : methS (mainP a) c n = some own) : c = 0 ∧ n = 0 ∧ own = ⟨0, [], -1, a⟩ := by
  unfold methS mainP at h
  split at h
  · simp at h
  · rename_i hc
    obtain ⟨k, rfl⟩ := Int.eq_ofNat_of_zero_le (show 0 ≤ c by omega)
    rw [Int.toNat_natCast] at h
    cases k with
    | zero =>
      simp only [List.getElem?_cons_zero, ownF, List.find?_cons] at h
      by_cases e : n = 0
      · subst e
        simp at h
        exact ⟨rfl, rfl, h.symm⟩
      · have e' : ¬ ((0 : Int) = n) := fun h => e h.symm
        simp [e'] at h
    | succ k => simp at h
theorem own_main {a : List Tx.Ins} {f : Fr} {own : Meth} (h : ownS (mainP a) f = some own) : f.cls = 0 ∧ f.name = 0 ∧ own = ⟨0, [], -1, a⟩ := meth_main (n := f.name) (c := f.cls) h
theorem nx_next {a : List Tx.Ins} {k : Nat} (hk : k + 1 < a.length) (h11 : (insF a k).1 ≠ 11) (h20 : (insF a k).1 ≠ 20) : nxB a k (k + 1) = true := by
  unfold nxB waysF
  simp only [h11, h20, if_false, Bool.and_eq_true, decide_eq_true_eq]
  refine ⟨?_, hk⟩
  split <;> simp
theorem nx_jump {a : List Tx.Ins} (hok : Lay.codeOk a = true) {k : Nat} (hk : k < a.length) (h : (insF a k).1 = 11 ∨ (insF a k).1 = 12) : nxB a k (insF a k).2.1.toNat = true := by
  have hj := jump_in hok hk h
  unfold nxB waysF
  simp only [Bool.and_eq_true, decide_eq_true_eq]
  refine ⟨?_, by omega⟩
  rcases h with h | h <;> simp [h]
/-- What holds of the frames while code runs. -/
structure WayI (a : List Tx.Ins) (m : Mc) : Prop where
  all : ∀ f ∈ m.frames, f.cls = 0 ∧ f.name = 0 ∧ 0 ≤ f.pos ∧ (f.pos < (a.length : Int) → Rch a f.pos.toNat)
  low : ∀ f ∈ m.frames.dropLast, f.pos < (a.length : Int) ∧ (insF a f.pos.toNat).1 = 17
theorem WayI.start (a : List Tx.Ins) : WayI a (startM (mainP a)) := by
  refine ⟨fun f hf => ?_, fun f hf => ?_⟩
  · simp only [startM, List.mem_singleton] at hf
    subst hf
    exact ⟨rfl, rfl, by decide, fun _ => .zero⟩
  · simp [startM] at hf
theorem last_split {α : Type} {l : List α} {x : α} (h : l.getLast? = some x) : l = l.dropLast ++ [x] := by
  obtain ⟨ys, rfl⟩ := List.getLast?_eq_some_iff.1 h
  rw [List.dropLast_concat]
theorem mem_dropLast {α : Type} {l : List α} {x : α} (h : x ∈ l.dropLast) : x ∈ l := (List.dropLast_sublist l).subset h
theorem way_end {a : List Tx.Ins} {m : Mc} {f : Fr} (hl : m.frames.getLast? = some f) (hf : (a.length : Int) ≤ f.pos) : (stepS (mainP a) m).2 = 6 := by
  unfold stepS
  rw [hl]
  dsimp only
  split
  · rfl
  · rename_i own ho
    obtain ⟨_, _, rfl⟩ := own_main ho
    rw [if_pos (.inr hf)]
theorem way_step {a : List Tx.Ins} (hok : Lay.codeOk a = true) {m : Mc} (h : WayI a m) {f : Fr} (hl : m.frames.getLast? = some f) (h0 : (stepS (mainP a) m).2 = 0) :
    WayI a (stepS (mainP a) m).1 ∧ ∀ f', (stepS (mainP a) m).1.frames.getLast? = some f' → (stepS (mainP a) m).1.frames.length = m.frames.length → f.pos + 1 < (a.length : Int) → nxB a f.pos.toNat f'.pos.toNat = true ∧ 0 ≤ f'.pos := by
  have hsp := last_split hl
  have hfm : f ∈ m.frames := by rw [hsp]; simp
  obtain ⟨f1, f2, f3, f4⟩ := h.all f hfm
  have hfl : f.pos < (a.length : Int) := by
    rcases Int.lt_or_le f.pos a.length with h1 | h1
    · exact h1
    · rw [way_end hl h1] at h0; simp at h0
  obtain ⟨k, hk⟩ := Int.eq_ofNat_of_zero_le f3
  have hkl : k < a.length := by omega
  have hkn : f.pos.toNat = k := by omega
  have hrk : Rch a k := by rw [← hkn]; exact f4 hfl
  have hstep : ∃ own, stepS (mainP a) m = stepI (mainP a) m f own (insF a k) := by
    unfold stepS at h0 ⊢
    rw [hl] at h0 ⊢
    dsimp only at h0 ⊢
    split
    · rename_i hn; rw [hn] at h0; simp at h0
    · rename_i own ho
      obtain ⟨_, _, rfl⟩ := own_main ho
      refine ⟨⟨0, [], -1, a⟩, ?_⟩
      rw [if_neg (by dsimp only; omega), hkn]
      unfold insF
      rw [List.getD_eq_getElem?_getD]
  obtain ⟨own, hs⟩ := hstep
  have hop := Lay.ok_at hok (ins_is hkl)
  have hop2 := Tx.ok_op hop
  rw [hs] at h0 ⊢
  have hdl : ∀ g ∈ m.frames.dropLast, g ∈ m.frames := fun g hg => mem_dropLast hg
  cases step_kind (mainP a) m f own (insF a k) hop2.2 hop2.1 with
  | ends he => exact absurd h0 he
  | on f' _ hfr hc hn hp =>
    have hpos : 0 ≤ f'.pos ∧ (f'.pos < (a.length : Int) → nxB a k f'.pos.toNat = true) := by
      rcases hp with ⟨hp, h11, h20⟩ | ⟨hp, hj⟩
      · refine ⟨by omega, fun hlt => ?_⟩
        rw [show f'.pos.toNat = k + 1 by omega]
        exact nx_next (by omega) h11 h20
      · have := jump_in hok hkl hj
        refine ⟨by omega, fun _ => ?_⟩
        rw [hp]
        exact nx_jump hok hkl hj
    refine ⟨⟨fun g hg => ?_, fun g hg => ?_⟩, fun g hg hlen hlt => ?_⟩
    · rw [hfr] at hg
      rcases List.mem_append.1 hg with hg | hg
      · exact h.all g (hdl g hg)
      · simp at hg; subst hg
        exact ⟨hc.trans f1, hn.trans f2, hpos.1, fun hl => .step hrk (hpos.2 hl)⟩
    · rw [hfr, List.dropLast_concat] at hg
      exact h.low g hg
    · rw [hfr, List.getLast?_concat] at hg
      injection hg with hg
      subst hg
      rw [hkn]
      refine ⟨hpos.2 ?_, hpos.1⟩
      rcases hp with ⟨hp, _⟩ | ⟨hp, hj⟩
      · omega
      · have := jump_in hok hkl hj; omega
  | call f' g _ h17 hfr hc hn hp hg ho hm =>
    have hgg : g.cls = 0 ∧ g.name = 0 ∧ g.pos = 0 := by
      obtain ⟨own', hm⟩ := hm
      obtain ⟨_, hB, _⟩ := meth_main hm
      obtain ⟨g1, g2, g3⟩ := hg
      refine ⟨?_, g1.trans hB, g2⟩
      rw [g3, hB]
      unfold objS at ho
      rw [Bool.and_eq_true] at ho
      have h2 := ho.2
      cases hh : m.heap[((f.stk[f'.stk.length]?).getD (0, 0)).2.toNat]? with
      | none => rw [hh] at h2; simp at h2
      | some o =>
        rw [hh] at h2
        simp only [Bool.and_eq_true, decide_eq_true_eq] at h2
        have h3 := h2.1.1
        have h4 := h2.1.2
        have hl1 : (mainP a).length = 1 := rfl
        rw [hl1] at h4
        have hc0 : o.cls = 0 := by omega
        simp only [Option.getD_some, hc0]
        simp [selF, upL, upF, mainP, hasM, ownF]
    refine ⟨⟨fun x hx => ?_, fun x hx => ?_⟩, fun x hx hlen _ => ?_⟩
    · rw [hfr] at hx
      rcases List.mem_append.1 hx with hx | hx
      · rcases List.mem_append.1 hx with hx | hx
        · exact h.all x (hdl x hx)
        · simp at hx; subst hx
          exact ⟨hc.trans f1, hn.trans f2, by rw [hp]; exact f3, fun _ => by rw [hp, hkn]; exact hrk⟩
      · simp at hx; subst hx
        obtain ⟨g1, g2, g3⟩ := hgg
        exact ⟨g1, g2, by rw [g3]; decide, fun _ => by rw [g3]; exact .zero⟩
    · rw [hfr, List.dropLast_concat] at hx
      rcases List.mem_append.1 hx with hx | hx
      · exact h.low x hx
      · simp at hx; subst hx
        rw [hp, hkn]
        exact ⟨hfl, h17⟩
    · rw [hfr] at hlen
      have := congrArg List.length hsp
      simp at hlen this
      omega
  | give b b' _ h20 hb hfr hc hn hp =>
    have hbl := last_split hb
    have hbm : b ∈ m.frames.dropLast := by rw [hbl]; simp
    obtain ⟨b1, b2, b3, b4⟩ := h.all b (hdl b hbm)
    obtain ⟨b5, b6⟩ := h.low b hbm
    refine ⟨⟨fun x hx => ?_, fun x hx => ?_⟩, fun x hx hlen _ => ?_⟩
    · rw [hfr] at hx
      rcases List.mem_append.1 hx with hx | hx
      · exact h.all x (hdl x (mem_dropLast hx))
      · obtain rfl : x = b' := by simpa using hx
        refine ⟨hc.trans b1, hn.trans b2, by omega, fun hlt => ?_⟩
        have hnx : nxB a b.pos.toNat (b.pos.toNat + 1) = true := nx_next (by omega) (by rw [b6]; decide) (by rw [b6]; decide)
        rw [show x.pos.toNat = b.pos.toNat + 1 by omega]
        exact .step (b4 b5) hnx
    · rw [hfr, List.dropLast_concat] at hx
      exact h.low x (by rw [hbl]; exact List.mem_append_left _ hx)
    · rw [hfr] at hlen
      have e1 := congrArg List.length hsp
      have e2 := congrArg List.length hbl
      simp at hlen e1 e2
      omega
end Pg
end Go.Proofs.Ytffkkhaiedhaiaa
