/- Plain facts on layouts: places, jumps that are too far, and that the least right layout is one alone. No program in it. -/
import Derived.Test.YtbgbddahniacbaaGreatDoorJStep0
import Derived.Test.YtbgbddahniacbaaGreatDoorJIRow0
namespace Go.Proofs.YtbgbddahniacbaaGreatDoor
namespace Lay

def jumpB (op : Int) : Bool := decide (op = 11) || decide (op = 12)
def codeOk (l : List Tx.Ins) : Bool := decide (0 < l.length) && Tx.okC l && l.all (fun x => !(jumpB x.1) || decide (x.2.1 < (l.length : Int)))
/-- The bytes of a step, without what a wide jump has more. -/
def bytesF (op a : Int) : Int :=
  if op = 1 then (if -128 ≤ a ∧ a ≤ 127 then 2 else 5)
  else if op = 2 ∨ op = 3 ∨ op = 11 ∨ op = 12 ∨ op = 14 ∨ op = 15 ∨ op = 16 then 2 else if op = 17 then 3 else 1
theorem bytes_bd (op a : Int) : 1 ≤ bytesF op a ∧ bytesF op a ≤ 5 := by unfold bytesF; (repeat' split) <;> omega

theorem ok_len {l : List Tx.Ins} (h : codeOk l = true) : 0 < l.length ∧ l.length ≤ 40 := by
  unfold codeOk Tx.okC at h
  simp only [Bool.and_eq_true, decide_eq_true_eq] at h
  exact ⟨h.1.1, h.1.2.1⟩
theorem ok_each {l : List Tx.Ins} (h : codeOk l = true) : Tx.okC l = true := by
  unfold codeOk at h
  simp only [Bool.and_eq_true, decide_eq_true_eq] at h
  exact h.1.2
theorem ok_at {l : List Tx.Ins} (h : codeOk l = true) {k : Nat} {x : Tx.Ins} (hx : l[k]? = some x) : Tx.okI x.1 x.2.1 x.2.2 = true := by
  have h1 := ok_each h
  unfold Tx.okC at h1
  simp only [Bool.and_eq_true, decide_eq_true_eq] at h1
  exact List.all_eq_true.1 h1.2 x (List.mem_of_getElem? hx)
theorem ok_jump {l : List Tx.Ins} (h : codeOk l = true) {k : Nat} {x : Tx.Ins} (hx : l[k]? = some x) (hj : jumpB x.1 = true) : 0 ≤ x.2.1 ∧ x.2.1 < (l.length : Int) := by
  have h0 := ok_at h hx
  unfold codeOk at h
  simp only [Bool.and_eq_true] at h
  have h1 := List.all_eq_true.1 h.2 x (List.mem_of_getElem? hx)
  simp [hj] at h1
  refine ⟨?_, h1⟩
  unfold jumpB at hj
  unfold Tx.okI at h0
  have e : ¬ x.1 = 1 := by
    intro e; rw [e] at hj; simp at hj
  rw [if_neg e] at h0
  simp only [Bool.and_eq_true, decide_eq_true_eq] at h0
  exact h0.1.1.1

/-- How wide step k is laid: what is not told is short. -/
def wd (v : List Int) (k : Nat) : Int := (v[k]?).getD 0
def ins (l : List Tx.Ins) (k : Nat) : Tx.Ins := (l[k]?).getD (0, 0, 0)
def sz (l : List Tx.Ins) (v : List Int) (k : Nat) : Int := bytesF (ins l k).1 (ins l k).2.1 + wd v k
/-- Where step k begins. -/
def pl (l : List Tx.Ins) (v : List Int) : Nat → Int
  | 0 => 0
  | k + 1 => pl l v k + sz l v k
def places (l : List Tx.Ins) (v : List Int) : List Int := (List.range (l.length + 1)).map (pl l v)
theorem places_len (l : List Tx.Ins) (v : List Int) : (places l v).length = l.length + 1 := by simp [places]
theorem places_at {l : List Tx.Ins} {v : List Int} {k : Nat} (h : k ≤ l.length) : (places l v)[k]? = some (pl l v k) := by
  have : k < l.length + 1 := by omega
  simp [places, this]

/-- A layout of the code: a 0 or 1 for each step, 1 for jumps alone. -/
def Wide (l : List Tx.Ins) (v : List Int) : Prop := v.length = l.length ∧ ∀ k, wd v k = 0 ∨ (wd v k = 1 ∧ jumpB (ins l k).1 = true)
def dist (l : List Tx.Ins) (v : List Int) (k : Nat) : Int := pl l v (ins l k).2.1.toNat - pl l v k
def offB (d : Int) : Bool := decide (d < -16) || decide (15 < d)
/-- A short jump that goes too far. -/
def far (l : List Tx.Ins) (v : List Int) (k : Nat) : Bool := jumpB (ins l k).1 && decide (wd v k = 0) && offB (dist l v k)
def Right (l : List Tx.Ins) (v : List Int) : Prop := Wide l v ∧ ∀ k, k < l.length → far l v k = false
def Le (v u : List Int) : Prop := ∀ k, wd v k ≤ wd u k

theorem pl_bd {l : List Tx.Ins} {v : List Int} (h : ∀ k, wd v k = 0 ∨ wd v k = 1) : ∀ k, 0 ≤ pl l v k ∧ pl l v k ≤ 6 * k := by
  intro k
  induction k with
  | zero => simp [pl]
  | succ k ih =>
    have := bytes_bd (ins l k).1 (ins l k).2.1
    have := h k
    simp only [pl, sz]
    omega
theorem Wide.bit {l : List Tx.Ins} {v : List Int} (h : Wide l v) (k : Nat) : wd v k = 0 ∨ wd v k = 1 := by
  rcases h.2 k with e | e
  · exact Or.inl e
  · exact Or.inr e.1
/-- From one place to a later one: at least nothing, and with more wide ones no less. -/
theorem span {l : List Tx.Ins} {v u : List Int} (hv : ∀ k, wd v k = 0 ∨ wd v k = 1) (h : Le v u) (a : Nat) : ∀ n, 0 ≤ pl l v (a + n) - pl l v a ∧ pl l v (a + n) - pl l v a ≤ pl l u (a + n) - pl l u a := by
  intro n
  induction n with
  | zero => simp
  | succ n ih =>
    have h1 := bytes_bd (ins l (a + n)).1 (ins l (a + n)).2.1
    have h2 := hv (a + n)
    have h3 := h (a + n)
    rw [← Nat.add_assoc]
    simp only [pl, sz]
    omega
theorem off_mono {l : List Tx.Ins} {v u : List Int} (hv : ∀ k, wd v k = 0 ∨ wd v k = 1) (h : Le v u) (k : Nat) (ho : offB (dist l v k) = true) : offB (dist l u k) = true := by
  unfold offB dist at *
  simp only [Bool.or_eq_true, decide_eq_true_eq] at *
  by_cases hk : k ≤ (ins l k).2.1.toNat
  · have := span (l := l) hv h k ((ins l k).2.1.toNat - k)
    rw [show k + ((ins l k).2.1.toNat - k) = (ins l k).2.1.toNat by omega] at this
    omega
  · have := span (l := l) hv h (ins l k).2.1.toNat (k - (ins l k).2.1.toNat)
    rw [show (ins l k).2.1.toNat + (k - (ins l k).2.1.toNat) = k by omega] at this
    omega
/-- What is too far in a layout is wide in each right one that has all its wide ones. -/
theorem forced {l : List Tx.Ins} {v u : List Int} (hv : ∀ k, wd v k = 0 ∨ wd v k = 1) (h : Le v u) (hu : Right l u) {k : Nat} (hk : k < l.length) (hf : far l v k = true) : wd u k = 1 := by
  rcases hu.1.2 k with e | e
  · exfalso
    have h1 := hu.2 k hk
    unfold far at h1 hf
    simp only [Bool.and_eq_true, decide_eq_true_eq] at hf
    have h2 := off_mono hv h k hf.2
    rw [hf.1.1, h2, e] at h1
    simp at h1
  · exact e.1

/-- All wide ones of the layout are wide in each right one. -/
def Below1 (l : List Tx.Ins) (v : List Int) : Prop := ∀ u, Right l u → Le v u
def Least (l : List Tx.Ins) (v : List Int) : Prop := Right l v ∧ Below1 l v

theorem wd_set (v : List Int) (k j : Nat) (x : Int) (hk : k < v.length) : wd (v.set k x) j = if j = k then x else wd v j := by
  unfold wd
  rw [List.getElem?_set]
  by_cases e : k = j
  · subst e; simp [hk]
  · simp [e, Ne.symm e]
theorem wide_set {l : List Tx.Ins} {v : List Int} (h : Wide l v) {k : Nat} (hk : k < l.length) (hj : jumpB (ins l k).1 = true) : Wide l (v.set k 1) := by
  refine ⟨by rw [List.length_set]; exact h.1, fun j => ?_⟩
  rw [wd_set _ _ _ _ (by rw [h.1]; exact hk)]
  split
  · rename_i e; subst e; exact Or.inr ⟨rfl, hj⟩
  · exact h.2 j
theorem le_set {l : List Tx.Ins} {v : List Int} (h : Wide l v) {k : Nat} (hk : k < l.length) : Le v (v.set k 1) := by
  intro j
  rw [wd_set _ _ _ _ (by rw [h.1]; exact hk)]
  split
  · rename_i e; subst e; rcases h.bit j with e | e <;> omega
  · exact Int.le_refl _
theorem Le.trans {a b c : List Int} (h : Le a b) (k : Le b c) : Le a c := fun j => Int.le_trans (h j) (k j)
theorem Le.refl (a : List Int) : Le a a := fun _ => Int.le_refl _
/-- One more wide one that an earlier layout of the run made wide. -/
theorem below_set {l : List Tx.Ins} {v0 v : List Int} (h0 : Wide l v0) (hv : Wide l v) (hle : Le v0 v) (hb : Below1 l v) {k : Nat} (hk : k < l.length) (hf : far l v0 k = true) : Below1 l (v.set k 1) := by
  intro u hu j
  rw [wd_set _ _ _ _ (by rw [hv.1]; exact hk)]
  split
  · rename_i e
    subst e
    rw [forced h0.bit (hle.trans (hb u hu)) hu hk hf]
    exact Int.le_refl _
  · exact hb u hu j
theorem zeros_wd (n k : Nat) : wd (List.replicate n (0 : Int)) k = 0 := by
  unfold wd
  rw [List.getElem?_replicate]
  split <;> rfl
theorem zeros_wide (l : List Tx.Ins) : Wide l (List.replicate l.length 0) := ⟨by simp, fun k => Or.inl (zeros_wd _ _)⟩
theorem zeros_below (l : List Tx.Ins) : Below1 l (List.replicate l.length 0) := by
  intro u hu k
  rw [zeros_wd]
  rcases hu.1.bit k with e | e <;> omega
theorem wd_ext {v u : List Int} (hl : v.length = u.length) (h : ∀ k, wd v k = wd u k) : v = u := by
  apply List.ext_getElem hl
  intro k h1 h2
  have := h k
  unfold wd at this
  rw [List.getElem?_eq_getElem h1, List.getElem?_eq_getElem h2] at this
  simpa using this
theorem least_one {l : List Tx.Ins} {v u : List Int} (hv : Least l v) (hu : Least l u) : v = u :=
  wd_ext (hv.1.1.1.trans hu.1.1.1.symm) fun k => Int.le_antisymm (hv.2 u hu.1 k) (hu.2 v hv.1 k)

/-- How many are short still. -/
def shorts (v : List Int) : Nat := v.count 0
theorem shorts_set {v : List Int} {k : Nat} (hk : k < v.length) (h : wd v k = 0) : shorts (v.set k 1) < shorts v := by
  have e : v[k] = 0 := by
    unfold wd at h
    rw [List.getElem?_eq_getElem hk] at h
    simpa using h
  unfold shorts
  rw [List.count_set hk, e]
  have : 0 < v.count 0 := List.count_pos_iff.2 (e ▸ List.getElem_mem hk)
  simp
  omega
theorem far_wd {l : List Tx.Ins} {v : List Int} {k : Nat} (h : far l v k = true) : wd v k = 0 ∧ jumpB (ins l k).1 = true := by
  unfold far at h
  simp only [Bool.and_eq_true, decide_eq_true_eq] at h
  exact ⟨h.1.2, h.1.1⟩

/-- The layout of the code: the first that is too far made wide, so many times. -/
def run (l : List Tx.Ins) : Nat → List Int → List Int
  | 0, v => v
  | n + 1, v => match (List.range l.length).find? (far l v) with
    | some k => run l n (v.set k 1)
    | none => v
def layF (l : List Tx.Ins) : List Int := run l l.length (List.replicate l.length 0)
theorem run_least (l : List Tx.Ins) : ∀ (n : Nat) (v : List Int), Wide l v → Below1 l v → shorts v ≤ n → Least l (run l n v)
  | 0, v, hw, hb, hs => by
    refine ⟨⟨hw, fun k hk => ?_⟩, hb⟩
    cases hf : far l v k
    · exact hf
    · have hk' : k < v.length := by rw [hw.1]; exact hk
      have := shorts_set hk' (far_wd hf).1
      omega
  | n + 1, v, hw, hb, hs => by
    unfold run
    split
    · rename_i k hk
      have hf := List.find?_some hk
      have hm := List.mem_of_find?_eq_some hk
      rw [List.mem_range] at hm
      refine run_least l n _ (wide_set hw hm (far_wd hf).2) (below_set hw hw (Le.refl _) hb hm hf) ?_
      have := shorts_set (k := k) (by rw [hw.1]; exact hm) (far_wd hf).1
      omega
    · rename_i hn
      refine ⟨⟨hw, fun k hk => ?_⟩, hb⟩
      have := List.find?_eq_none.1 hn k (List.mem_range.2 hk)
      simpa using this
theorem least_lay (l : List Tx.Ins) : Least l (layF l) :=
  run_least l _ _ (zeros_wide l) (zeros_below l) (by simp [shorts])
theorem lay_of {l : List Tx.Ins} {v : List Int} (h : Least l v) : v = layF l := least_one h (least_lay l)
theorem lay_len (l : List Tx.Ins) : (layF l).length = l.length := (least_lay l).1.1.1

/-- Whether a row of numbers is a layout of the code. -/
def wideB (l : List Tx.Ins) (v : List Int) : Bool := decide (v.length = l.length) && (List.range v.length).all fun k => decide (wd v k = 0) || (decide (wd v k = 1) && jumpB (ins l k).1)
theorem wide_iff (l : List Tx.Ins) (v : List Int) : wideB l v = true ↔ Wide l v := by
  unfold wideB Wide
  simp only [Bool.and_eq_true, decide_eq_true_eq, List.all_eq_true, List.mem_range, Bool.or_eq_true]
  constructor
  · rintro ⟨h, k⟩
    refine ⟨h, fun j => ?_⟩
    by_cases hj : j < v.length
    · exact k j hj
    · left; unfold wd; rw [List.getElem?_eq_none (by omega)]; rfl
  · rintro ⟨h, k⟩
    exact ⟨h, fun j _ => k j⟩
def rightB (l : List Tx.Ins) (v : List Int) : Bool := wideB l v && (List.range l.length).all fun k => !(far l v k)
theorem right_iff (l : List Tx.Ins) (v : List Int) : rightB l v = true ↔ Right l v := by
  unfold rightB Right
  simp only [Bool.and_eq_true, wide_iff, List.all_eq_true, List.mem_range, Bool.not_eq_true']
end Lay
end Go.Proofs.YtbgbddahniacbaaGreatDoor

/- Programs as plain data, and how they lie in memory. -/
namespace Go.Proofs.YtbgbddahniacbaaGreatDoor
namespace Pg
open Go.ChangeShapes Go.WideShapes Go.ChangeAt Go.RowKit St

structure Meth where
  name : Int
  args : List Int
  gives : Int
  code : List Tx.Ins
structure Cls where
  super : Int
  fields : List Int
  meths : List Meth
abbrev Prg := List Cls

/-- Nothing from block B on has turned. -/
structure Keep (B : Nat) (u w : World) : Prop where
  size : u.heap.size ≤ w.heap.size
  block : ∀ k, B ≤ k → k < u.heap.size → w.heap[k]? = u.heap[k]?
theorem Keep.of {B : Nat} {u w : World} (h : Below u.heap.size u w) : Keep B u w := ⟨h.size, fun k _ hk => h.block k hk⟩
theorem Keep.refl (B : Nat) (u : World) : Keep B u u := ⟨Nat.le_refl _, fun _ _ _ => rfl⟩
theorem Keep.trans {B : Nat} {u v w : World} (h : Keep B u v) (k : Keep B v w) : Keep B u w := ⟨Nat.le_trans h.size k.size, fun i hi hl => (k.block i hi (Nat.lt_of_lt_of_le hl h.size)).trans (h.block i hi hl)⟩
theorem Keep.mono {B B' : Nat} {u w : World} (h : Keep B u w) (hB : B ≤ B') : Keep B' u w := ⟨h.size, fun k hk hl => h.block k (Nat.le_trans hB hk) hl⟩
theorem Keep.cell {B : Nat} {u w : World} (h : Keep B u w) {p : Addr} (hp : B ≤ p.block) (hl : p.block < u.heap.size) : w.cell? p = u.cell? p := World.cell?_of_block (w := u) (h.block _ hp hl)
theorem Keep.frozen {B : Nat} {u w : World} (h : Keep B u w) {p : Addr} (hp : B ≤ p.block) (hl : p.block < u.heap.size) : w.frozen? p = u.frozen? p := World.frozen?_of_block (w := u) (h.block _ hp hl)
theorem Keep.set {B : Nat} (w : World) {p : Addr} (hp : p.block < B) (v : Value) : Keep B w (w.setCell p v) := by
  have hb := (Below.refl 0 w).setCell (p := p) (Nat.zero_le _) v
  exact ⟨hb.size, fun k hk _ => Below.heap_setCell w p v k (by omega)⟩

/-- A slice whose elements lie where it points, each sz cells, not below block B; where f says so, they may be written. -/
def Arr {α : Type} (E : World → Nat → Nat → α → Prop) (sz : Nat) (f : Bool) (B : Nat) (w : World) (v : Value) (l : List α) : Prop :=
  ∃ a cap, v = .slice a l.length cap ∧ (f = true → a = none → cap = 0) ∧ (0 < l.length → ∃ b o, a = some ⟨b, o, none⟩ ∧ B ≤ b ∧ (b < w.heap.size ∧ (f = true → ∀ j, j < l.length * sz → w.frozen? ⟨b, o + j, none⟩ = false)) ∧ ∀ j x, l[j]? = some x → E w b (o + j * sz) x)
/-- What lasts where nothing from B on is turned. -/
def Lasts {α : Type} (B : Nat) (E : World → Nat → Nat → α → Prop) : Prop := ∀ u w b o x, Keep B u w → B ≤ b → E u b o x → E w b o x
theorem Arr.on {α : Type} {E : World → Nat → Nat → α → Prop} {sz B : Nat} {f : Bool} (hE : Lasts B E) {u w : World} {v : Value} {l : List α} (h : Arr E sz f B u v l) (hb : Keep B u w) : Arr E sz f B w v l := by
  obtain ⟨a, cap, hv, hz, h⟩ := h
  refine ⟨a, cap, hv, hz, fun h0 => ?_⟩
  obtain ⟨b, o, ha, hB, ⟨hl, hf⟩, hx⟩ := h h0
  exact ⟨b, o, ha, hB, ⟨Nat.lt_of_lt_of_le hl hb.size, fun e j hj => (hb.frozen (p := ⟨b, o + j, none⟩) hB hl).trans (hf e j hj)⟩, fun j x hj => hE u w _ _ _ hb hB (hx j x hj)⟩
theorem Arr.get {α : Type} {E : World → Nat → Nat → α → Prop} {sz B : Nat} {f : Bool} {w : World} {a : Option Addr} {n cap : Nat} {l : List α} (h : Arr E sz f B w (.slice a n cap) l) {k : Nat} (hk : k < l.length) : ∃ b o, a = some ⟨b, o, none⟩ ∧ B ≤ b ∧ E w b (o + k * sz) l[k] := by
  obtain ⟨a', cap', hv, _, h⟩ := h
  injection hv with e1 e2 e3
  subst e1
  obtain ⟨b, o, ha, hB, _, hx⟩ := h (by omega)
  exact ⟨b, o, ha, hB, hx k _ (List.getElem?_eq_getElem hk)⟩
/-- The same, and that the element may be written. -/
theorem Arr.getW {α : Type} {E : World → Nat → Nat → α → Prop} {sz B : Nat} {w : World} {a : Option Addr} {n cap : Nat} {l : List α} (h : Arr E sz true B w (.slice a n cap) l) {k : Nat} (hk : k < l.length) : ∃ b o, a = some ⟨b, o, none⟩ ∧ B ≤ b ∧ b < w.heap.size ∧ (∀ i, i < sz → w.frozen? ⟨b, o + k * sz + i, none⟩ = false) ∧ E w b (o + k * sz) l[k] := by
  obtain ⟨a', cap', hv, _, h⟩ := h
  injection hv with e1 e2 e3
  subst e1
  obtain ⟨b, o, ha, hB, ⟨hl, hf⟩, hx⟩ := h (by omega)
  refine ⟨b, o, ha, hB, hl, fun i hi => ?_, hx k _ (List.getElem?_eq_getElem hk)⟩
  have h1 : k * sz + i < l.length * sz := by
    have : (k + 1) * sz ≤ l.length * sz := Nat.mul_le_mul_right _ hk
    rw [Nat.add_mul, Nat.one_mul] at this
    omega
  have := hf rfl (k * sz + i) h1
  rw [← Nat.add_assoc] at this
  exact this
theorem Arr.form {α : Type} {E : World → Nat → Nat → α → Prop} {sz B : Nat} {f : Bool} {w : World} {v : Value} {l : List α} (h : Arr E sz f B w v l) : ∃ a cap, v = .slice a l.length cap := by
  obtain ⟨a, cap, hv, _⟩ := h
  exact ⟨a, cap, hv⟩
theorem Arr.nil {α : Type} {E : World → Nat → Nat → α → Prop} {sz B : Nat} {w : World} {n cap : Nat} {l : List α} (h : Arr E sz true B w (.slice none n cap) l) : l = [] ∧ n = 0 ∧ cap = 0 := by
  obtain ⟨a', cap', hv, hz, h⟩ := h
  injection hv with e1 e2 e3
  subst e1 e3
  have hl : l.length = 0 := by
    rcases Nat.eq_zero_or_pos l.length with h0 | h0
    · exact h0
    · obtain ⟨b, o, ha, _⟩ := h h0
      simp at ha
  exact ⟨List.eq_nil_of_length_eq_zero hl, by omega, hz rfl rfl⟩
theorem Arr.weak {α : Type} {E F : World → Nat → Nat → α → Prop} {sz B B' : Nat} {f : Bool} {w : World} {v : Value} {l : List α} (h : Arr E sz f B w v l) (hB : B' ≤ B) (hEF : ∀ b o x, E w b o x → F w b o x) : Arr F sz f B' w v l := by
  obtain ⟨a, cap, hv, hz, h⟩ := h
  refine ⟨a, cap, hv, hz, fun h0 => ?_⟩
  obtain ⟨b, o, ha, hb, hz, hx⟩ := h h0
  exact ⟨b, o, ha, Nat.le_trans hB hb, hz, fun j x hj => hEF _ _ _ (hx j x hj)⟩

def IntAt (w : World) (b o : Nat) (x : Int) : Prop := w.cell? ⟨b, o, none⟩ = some (.int .i64 x)
theorem IntAt.lasts (B : Nat) : Lasts B IntAt := fun _ _ _ _ _ hb hB h => (hb.cell hB (cell_lt h)).trans h
def InsAt (w : World) (b o : Nat) (x : Tx.Ins) : Prop :=
  w.cell? ⟨b, o, none⟩ = some (.int .i64 x.1) ∧ w.cell? ⟨b, o + 1, none⟩ = some (.int .i64 x.2.1) ∧ w.cell? ⟨b, o + 2, none⟩ = some (.int .i64 x.2.2)
theorem InsAt.lasts (B : Nat) : Lasts B InsAt := by
  rintro u w b o x hb hB ⟨h0, h1, h2⟩
  have l : b < u.heap.size := cell_lt h0
  exact ⟨(hb.cell hB l).trans h0, (hb.cell hB l).trans h1, (hb.cell hB l).trans h2⟩
/-- A slice of numbers, wherever it lies. -/
abbrev SI (f : Bool) (B : Nat) := Arr IntAt 1 f B
/-- A slice of steps, wherever it lies. -/
abbrev SC (B : Nat) := Arr InsAt 3 false B
theorem SI.on {f : Bool} {B : Nat} {u w : World} {v : Value} {l : List Int} (h : SI f B u v l) (hb : Keep B u w) : SI f B w v l := Arr.on (IntAt.lasts B) h hb
theorem SC.on {B : Nat} {u w : World} {v : Value} {l : List Tx.Ins} (h : SC B u v l) (hb : Keep B u w) : SC B w v l := Arr.on (InsAt.lasts B) h hb
theorem SI.weak {f : Bool} {B B' : Nat} {w : World} {v : Value} {l : List Int} (h : SI f B w v l) (hB : B' ≤ B) : SI f B' w v l := Arr.weak h hB fun _ _ _ h => h
/-- A slice of steps at the front of a block, which may be written. -/
def CS (B : Nat) (w : World) (v : Value) (l : List Tx.Ins) : Prop := ∃ g cap, v = .slice (some ⟨g, 0, none⟩) l.length cap ∧ B ≤ g ∧ g < w.heap.size ∧ Row w g 0 l ∧ Room w g (l.length * 3)
theorem CS.on {B : Nat} {u w : World} {v : Value} {l : List Tx.Ins} (h : CS B u v l) (hb : Keep B u w) : CS B w v l := by
  obtain ⟨g, cap, hv, h1, h2, h3, h4⟩ := h
  refine ⟨g, cap, hv, h1, Nat.lt_of_lt_of_le h2 hb.size, fun j x hj => ?_, fun i hi => ?_⟩
  · obtain ⟨c0, c1, c2⟩ := h3 j x hj
    exact ⟨(hb.cell h1 h2).trans c0, (hb.cell h1 h2).trans c1, (hb.cell h1 h2).trans c2⟩
  · obtain ⟨⟨x, hx⟩, hf⟩ := h4 i hi
    exact ⟨⟨x, (hb.cell h1 h2).trans hx⟩, (hb.frozen h1 h2).trans hf⟩
/-- How slices may lie: in whatever way that lasts. -/
structure Way where
  fr : Bool
  K : Nat → World → Value → List Tx.Ins → Prop
  on : ∀ {B u w v l}, K B u v l → Keep B u w → K B w v l
  weak : ∀ {B B' w v l}, K B w v l → B' ≤ B → K B' w v l
  form : ∀ {B w v l}, K B w v l → ∃ a cap, v = .slice a l.length cap
def wide : Way := ⟨false, SC, fun h hb => SC.on h hb, fun h hB => Arr.weak h hB fun _ _ _ h => h, fun h => h.form⟩
def front : Way := ⟨true, CS, fun h hb => h.on hb, fun ⟨g, cap, h1, h2, h3⟩ hB => ⟨g, cap, h1, Nat.le_trans hB h2, h3⟩, fun ⟨_, cap, h, _⟩ => ⟨_, cap, h⟩⟩

/-- The four cells of a method, and what they mean. -/
def MV (K : Way) (B : Nat) (w : World) (va vc : Value) (m : Meth) : Prop := SI K.fr B w va m.args ∧ K.K B w vc m.code
def MAt (K : Way) (B : Nat) (w : World) (b o : Nat) (m : Meth) : Prop :=
  ∃ va vc, w.cell? ⟨b, o, none⟩ = some (.int .i64 m.name) ∧ w.cell? ⟨b, o + 1, none⟩ = some va ∧ w.cell? ⟨b, o + 2, none⟩ = some (.int .i64 m.gives) ∧ w.cell? ⟨b, o + 3, none⟩ = some vc ∧ MV K B w va vc m
theorem MV.on {K : Way} {B : Nat} {u w : World} {va vc : Value} {m : Meth} (h : MV K B u va vc m) (hb : Keep B u w) : MV K B w va vc m := ⟨SI.on h.1 hb, K.on h.2 hb⟩
theorem MV.weak {K : Way} {B B' : Nat} {w : World} {va vc : Value} {m : Meth} (h : MV K B w va vc m) (hB : B' ≤ B) : MV K B' w va vc m := ⟨SI.weak h.1 hB, K.weak h.2 hB⟩
theorem MAt.lasts (K : Way) (B : Nat) : Lasts B (MAt K B) := by
  rintro u w b o m hb hB ⟨va, vc, h0, h1, h2, h3, h4⟩
  have l : b < u.heap.size := cell_lt h0
  exact ⟨va, vc, (hb.cell hB l).trans h0, (hb.cell hB l).trans h1, (hb.cell hB l).trans h2, (hb.cell hB l).trans h3, h4.on hb⟩
abbrev SM (K : Way) (B : Nat) := Arr (MAt K B) 4 K.fr B
theorem SM.on {K : Way} {B : Nat} {u w : World} {v : Value} {l : List Meth} (h : SM K B u v l) (hb : Keep B u w) : SM K B w v l := Arr.on (MAt.lasts K B) h hb
theorem SM.weak {K : Way} {B B' : Nat} {w : World} {v : Value} {l : List Meth} (h : SM K B w v l) (hB : B' ≤ B) : SM K B' w v l :=
  Arr.weak h hB fun _ _ _ ⟨va, vc, h0, h1, h2, h3, h4⟩ => ⟨va, vc, h0, h1, h2, h3, h4.weak hB⟩
def CV (K : Way) (B : Nat) (w : World) (vf vm : Value) (c : Cls) : Prop := SI K.fr B w vf c.fields ∧ SM K B w vm c.meths
def CAt (K : Way) (B : Nat) (w : World) (b o : Nat) (c : Cls) : Prop :=
  ∃ vf vm, w.cell? ⟨b, o, none⟩ = some (.int .i64 c.super) ∧ w.cell? ⟨b, o + 1, none⟩ = some vf ∧ w.cell? ⟨b, o + 2, none⟩ = some vm ∧ CV K B w vf vm c
theorem CV.on {K : Way} {B : Nat} {u w : World} {vf vm : Value} {c : Cls} (h : CV K B u vf vm c) (hb : Keep B u w) : CV K B w vf vm c := ⟨SI.on h.1 hb, SM.on h.2 hb⟩
theorem CV.weak {K : Way} {B B' : Nat} {w : World} {vf vm : Value} {c : Cls} (h : CV K B w vf vm c) (hB : B' ≤ B) : CV K B' w vf vm c := ⟨SI.weak h.1 hB, SM.weak h.2 hB⟩
theorem CAt.lasts (K : Way) (B : Nat) : Lasts B (CAt K B) := by
  rintro u w b o m hb hB ⟨vf, vm, h0, h1, h2, h4⟩
  have l : b < u.heap.size := cell_lt h0
  exact ⟨vf, vm, (hb.cell hB l).trans h0, (hb.cell hB l).trans h1, (hb.cell hB l).trans h2, h4.on hb⟩
abbrev SK (K : Way) (B : Nat) := Arr (CAt K B) 3 K.fr B
theorem SK.on {K : Way} {B : Nat} {u w : World} {v : Value} {l : Prg} (h : SK K B u v l) (hb : Keep B u w) : SK K B w v l := Arr.on (CAt.lasts K B) h hb
theorem SK.weak {K : Way} {B B' : Nat} {w : World} {v : Value} {l : Prg} (h : SK K B w v l) (hB : B' ≤ B) : SK K B' w v l :=
  Arr.weak h hB fun _ _ _ ⟨va, vc, h0, h1, h2, h4⟩ => ⟨va, vc, h0, h1, h2, h4.weak hB⟩
theorem SI.row {f : Bool} {w : World} {B g cap : Nat} {l : List Int} (hB : B ≤ g) (hg : g < w.heap.size) (h : IRow w g 0 l) (hr : Room w g l.length) : SI f B w (.slice (some ⟨g, 0, none⟩) l.length cap) l :=
  ⟨_, cap, rfl, fun _ h => by simp at h, fun _ => ⟨g, 0, rfl, hB, ⟨hg, fun _ j hj => by rw [Nat.mul_one] at hj; rw [Nat.zero_add]; exact (hr j hj).2⟩, fun j x hj => by rw [Nat.mul_one]; exact h j x hj⟩⟩

/-- How much there is in a program. -/
def szM (m : Meth) : Nat := m.args.length + m.code.length
def sumN (l : List Nat) : Nat := l.foldr (· + ·) 0
def szMs (ms : List Meth) : Nat := ms.length + sumN (ms.map szM)
def szC (c : Cls) : Nat := c.fields.length + szMs c.meths
def szP (p : Prg) : Nat := p.length + sumN (p.map szC)
theorem sumN_le {l : List Nat} {n : Nat} (h : n ∈ l) : n ≤ sumN l := by
  induction l with
  | nil => simp at h
  | cons x l ih =>
    simp only [sumN, List.foldr_cons]
    rcases List.mem_cons.1 h with rfl | h
    · omega
    · have := ih h; simp only [sumN] at this; omega
theorem sumN_take_succ {α : Type} (f : α → Nat) (l : List α) (k : Nat) (hk : k < l.length) : sumN ((l.take (k + 1)).map f) = sumN ((l.take k).map f) + f l[k] := by
  rw [List.take_succ_eq_append_getElem hk, List.map_append]
  generalize (l.take k).map f = a
  induction a with
  | nil => simp [sumN]
  | cons x a ih => simp only [sumN, List.cons_append, List.foldr_cons] at ih ⊢; omega
theorem sumN_take_le {α : Type} (f : α → Nat) (l : List α) (k : Nat) : sumN ((l.take k).map f) ≤ sumN (l.map f) := by
  induction l generalizing k with
  | nil => simp
  | cons x l ih =>
    cases k with
    | zero => simp [sumN]
    | succ k => have := ih k; simp only [sumN, List.take_succ_cons, List.map_cons, List.foldr_cons] at this ⊢; omega
theorem szM_le {ms : List Meth} {m : Meth} (h : m ∈ ms) : szM m ≤ szMs ms := by
  have := sumN_le (List.mem_map_of_mem (f := szM) h); unfold szMs; omega
theorem szC_le {p : Prg} {c : Cls} (h : c ∈ p) : szC c ≤ szP p := by
  have := sumN_le (List.mem_map_of_mem (f := szC) h); unfold szP; omega
end Pg
end Go.Proofs.YtbgbddahniacbaaGreatDoor
