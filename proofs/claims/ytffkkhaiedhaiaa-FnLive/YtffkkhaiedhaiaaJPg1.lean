/- Programs as plain data, and how they lie in memory. -/
import Derived.Test.YtffkkhaiedhaiaaJLay
namespace Go.Proofs.Ytffkkhaiedhaiaa
namespace Pg
open Go.ChangeShapes Go.WideShapes Go.ChangeAt Go.RowKit St

structure Meth where
  name : Int
  args : List Int
  gives : Int
  code : List Tx.Ins
structure Cls where
  super : Int
  fields : List Int
  meths : List Meth
abbrev Prg := List Cls

/-- Nothing from block B on has turned. -/
structure Keep (B : Nat) (u w : World) : Prop where
  size : u.heap.size ≤ w.heap.size
  block : ∀ k, B ≤ k → k < u.heap.size → w.heap[k]? = u.heap[k]?
theorem Keep.of {B : Nat} {u w : World} (h : Below u.heap.size u w) : Keep B u w := ⟨h.size, fun k _ hk => h.block k hk⟩
theorem Keep.refl (B : Nat) (u : World) : Keep B u u := ⟨Nat.le_refl _, fun _ _ _ => rfl⟩
theorem Keep.trans {B : Nat} {u v w : World} (h : Keep B u v) (k : Keep B v w) : Keep B u w := ⟨Nat.le_trans h.size k.size, fun i hi hl => (k.block i hi (Nat.lt_of_lt_of_le hl h.size)).trans (h.block i hi hl)⟩
theorem Keep.mono {B B' : Nat} {u w : World} (h : Keep B u w) (hB : B ≤ B') : Keep B' u w := ⟨h.size, fun k hk hl => h.block k (Nat.le_trans hB hk) hl⟩
theorem Keep.cell {B : Nat} {u w : World} (h : Keep B u w) {p : Addr} (hp : B ≤ p.block) (hl : p.block < u.heap.size) : w.cell? p = u.cell? p := World.cell?_of_block (w := u) (h.block _ hp hl)
theorem Keep.frozen {B : Nat} {u w : World} (h : Keep B u w) {p : Addr} (hp : B ≤ p.block) (hl : p.block < u.heap.size) : w.frozen? p = u.frozen? p := World.frozen?_of_block (w := u) (h.block _ hp hl)
theorem Keep.set {B : Nat} (w : World) {p : Addr} (hp : p.block < B) (v : Value) : Keep B w (w.setCell p v) := by
  have hb := (Below.refl 0 w).setCell (p := p) (Nat.zero_le _) v
  exact ⟨hb.size, fun k hk _ => Below.heap_setCell w p v k (by omega)⟩

/-- A slice whose elements lie where it points, each sz cells, not below block B; where f says so, they may be written. -/
def Arr {α : Type} (E : World → Nat → Nat → α → Prop) (sz : Nat) (f : Bool) (B : Nat) (w : World) (v : Value) (l : List α) : Prop :=
  ∃ a cap, v = .slice a l.length cap ∧ (f = true → a = none → cap = 0) ∧ (0 < l.length → ∃ b o, a = some ⟨b, o, none⟩ ∧ B ≤ b ∧ (b < w.heap.size ∧ (f = true → ∀ j, j < l.length * sz → w.frozen? ⟨b, o + j, none⟩ = false)) ∧ ∀ j x, l[j]? = some x → E w b (o + j * sz) x)
/-- What lasts where nothing from B on is turned. -/
def Lasts {α : Type} (B : Nat) (E : World → Nat → Nat → α → Prop) : Prop := ∀ u w b o x, Keep B u w → B ≤ b → E u b o x → E w b o x
theorem Arr.on {α : Type} {E : World → Nat → Nat → α → Prop} {sz B : Nat} {f : Bool} (hE : Lasts B E) {u w : World} {v : Value} {l : List α} (h : Arr E sz f B u v l) (hb : Keep B u w) : Arr E sz f B w v l := by
  obtain ⟨a, cap, hv, hz, h⟩ := h
  refine ⟨a, cap, hv, hz, fun h0 => ?_⟩
  obtain ⟨b, o, ha, hB, ⟨hl, hf⟩, hx⟩ := h h0
  exact ⟨b, o, ha, hB, ⟨Nat.lt_of_lt_of_le hl hb.size, fun e j hj => (hb.frozen (p := ⟨b, o + j, none⟩) hB hl).trans (hf e j hj)⟩, fun j x hj => hE u w _ _ _ hb hB (hx j x hj)⟩
theorem Arr.get {α : Type} {E : World → Nat → Nat → α → Prop} {sz B : Nat} {f : Bool} {w : World} {a : Option Addr} {n cap : Nat} {l : List α} (h : Arr E sz f B w (.slice a n cap) l) {k : Nat} (hk : k < l.length) : ∃ b o, a = some ⟨b, o, none⟩ ∧ B ≤ b ∧ E w b (o + k * sz) l[k] := by
  obtain ⟨a', cap', hv, _, h⟩ := h
  injection hv with e1 e2 e3
  subst e1
  obtain ⟨b, o, ha, hB, _, hx⟩ := h (by omega)
  exact ⟨b, o, ha, hB, hx k _ (List.getElem?_eq_getElem hk)⟩
theorem Arr.form {α : Type} {E : World → Nat → Nat → α → Prop} {sz B : Nat} {f : Bool} {w : World} {v : Value} {l : List α} (h : Arr E sz f B w v l) : ∃ a cap, v = .slice a l.length cap := by
  obtain ⟨a, cap, hv, _⟩ := h
  exact ⟨a, cap, hv⟩
theorem Arr.nil {α : Type} {E : World → Nat → Nat → α → Prop} {sz B : Nat} {w : World} {n cap : Nat} {l : List α} (h : Arr E sz true B w (.slice none n cap) l) : l = [] ∧ n = 0 ∧ cap = 0 := by
  obtain ⟨a', cap', hv, hz, h⟩ := h
  injection hv with e1 e2 e3
  subst e1 e3
  have hl : l.length = 0 := by
    rcases Nat.eq_zero_or_pos l.length with h0 | h0
    · exact h0
    · obtain ⟨b, o, ha, _⟩ := h h0
      simp at ha
  exact ⟨List.eq_nil_of_length_eq_zero hl, by omega, hz rfl rfl⟩
theorem Arr.weak {α : Type} {E F : World → Nat → Nat → α → Prop} {sz B B' : Nat} {f : Bool} {w : World} {v : Value} {l : List α} (h : Arr E sz f B w v l) (hB : B' ≤ B) (hEF : ∀ b o x, E w b o x → F w b o x) : Arr F sz f B' w v l := by
  obtain ⟨a, cap, hv, hz, h⟩ := h
  refine ⟨a, cap, hv, hz, fun h0 => ?_⟩
  obtain ⟨b, o, ha, hb, hz, hx⟩ := h h0
  exact ⟨b, o, ha, Nat.le_trans hB hb, hz, fun j x hj => hEF _ _ _ (hx j x hj)⟩

def IntAt (w : World) (b o : Nat) (x : Int) : Prop := w.cell? ⟨b, o, none⟩ = some (.int .i64 x)
theorem IntAt.lasts (B : Nat) : Lasts B IntAt := fun _ _ _ _ _ hb hB h => (hb.cell hB (cell_lt h)).trans h
def InsAt (w : World) (b o : Nat) (x : Tx.Ins) : Prop :=
  w.cell? ⟨b, o, none⟩ = some (.int .i64 x.1) ∧ w.cell? ⟨b, o + 1, none⟩ = some (.int .i64 x.2.1) ∧ w.cell? ⟨b, o + 2, none⟩ = some (.int .i64 x.2.2)
theorem InsAt.lasts (B : Nat) : Lasts B InsAt := by
  rintro u w b o x hb hB ⟨h0, h1, h2⟩
  have l : b < u.heap.size := cell_lt h0
  exact ⟨(hb.cell hB l).trans h0, (hb.cell hB l).trans h1, (hb.cell hB l).trans h2⟩
/-- A slice of numbers, wherever it lies. -/
abbrev SI (f : Bool) (B : Nat) := Arr IntAt 1 f B
/-- A slice of steps, wherever it lies. -/
abbrev SC (B : Nat) := Arr InsAt 3 false B
theorem SI.on {f : Bool} {B : Nat} {u w : World} {v : Value} {l : List Int} (h : SI f B u v l) (hb : Keep B u w) : SI f B w v l := Arr.on (IntAt.lasts B) h hb
theorem SC.on {B : Nat} {u w : World} {v : Value} {l : List Tx.Ins} (h : SC B u v l) (hb : Keep B u w) : SC B w v l := Arr.on (InsAt.lasts B) h hb
theorem SI.weak {f : Bool} {B B' : Nat} {w : World} {v : Value} {l : List Int} (h : SI f B w v l) (hB : B' ≤ B) : SI f B' w v l := Arr.weak h hB fun _ _ _ h => h
/-- A slice of steps at the front of a block, which may be written. -/
def CS (B : Nat) (w : World) (v : Value) (l : List Tx.Ins) : Prop := ∃ g cap, v = .slice (some ⟨g, 0, none⟩) l.length cap ∧ B ≤ g ∧ g < w.heap.size ∧ Row w g 0 l ∧ Room w g (l.length * 3)
theorem CS.on {B : Nat} {u w : World} {v : Value} {l : List Tx.Ins} (h : CS B u v l) (hb : Keep B u w) : CS B w v l := by
  obtain ⟨g, cap, hv, h1, h2, h3, h4⟩ := h
  refine ⟨g, cap, hv, h1, Nat.lt_of_lt_of_le h2 hb.size, fun j x hj => ?_, fun i hi => ?_⟩
  · obtain ⟨c0, c1, c2⟩ := h3 j x hj
    exact ⟨(hb.cell h1 h2).trans c0, (hb.cell h1 h2).trans c1, (hb.cell h1 h2).trans c2⟩
  · obtain ⟨⟨x, hx⟩, hf⟩ := h4 i hi
    exact ⟨⟨x, (hb.cell h1 h2).trans hx⟩, (hb.frozen h1 h2).trans hf⟩
/-- How slices may lie: in whatever way that lasts. -/
structure Way where
  fr : Bool
  K : Nat → World → Value → List Tx.Ins → Prop
  on : ∀ {B u w v l}, K B u v l → Keep B u w → K B w v l
  weak : ∀ {B B' w v l}, K B w v l → B' ≤ B → K B' w v l
  form : ∀ {B w v l}, K B w v l → ∃ a cap, v = .slice a l.length cap
def wide : Way := ⟨false, SC, fun h hb => SC.on h hb, fun h hB => Arr.weak h hB fun _ _ _ h => h, fun h => h.form⟩
def front : Way := ⟨true, CS, fun h hb => h.on hb, fun ⟨g, cap, h1, h2, h3⟩ hB => ⟨g, cap, h1, Nat.le_trans hB h2, h3⟩, fun ⟨_, cap, h, _⟩ => ⟨_, cap, h⟩⟩

/-- The four cells of a method, and what they mean. -/
def MV (K : Way) (B : Nat) (w : World) (va vc : Value) (m : Meth) : Prop := SI K.fr B w va m.args ∧ K.K B w vc m.code
def MAt (K : Way) (B : Nat) (w : World) (b o : Nat) (m : Meth) : Prop :=
  ∃ va vc, w.cell? ⟨b, o, none⟩ = some (.int .i64 m.name) ∧ w.cell? ⟨b, o + 1, none⟩ = some va ∧ w.cell? ⟨b, o + 2, none⟩ = some (.int .i64 m.gives) ∧ w.cell? ⟨b, o + 3, none⟩ = some vc ∧ MV K B w va vc m
theorem MV.on {K : Way} {B : Nat} {u w : World} {va vc : Value} {m : Meth} (h : MV K B u va vc m) (hb : Keep B u w) : MV K B w va vc m := ⟨SI.on h.1 hb, K.on h.2 hb⟩
theorem MV.weak {K : Way} {B B' : Nat} {w : World} {va vc : Value} {m : Meth} (h : MV K B w va vc m) (hB : B' ≤ B) : MV K B' w va vc m := ⟨SI.weak h.1 hB, K.weak h.2 hB⟩
theorem MAt.lasts (K : Way) (B : Nat) : Lasts B (MAt K B) := by
  rintro u w b o m hb hB ⟨va, vc, h0, h1, h2, h3, h4⟩
  have l : b < u.heap.size := cell_lt h0
  exact ⟨va, vc, (hb.cell hB l).trans h0, (hb.cell hB l).trans h1, (hb.cell hB l).trans h2, (hb.cell hB l).trans h3, h4.on hb⟩
abbrev SM (K : Way) (B : Nat) := Arr (MAt K B) 4 K.fr B
theorem SM.on {K : Way} {B : Nat} {u w : World} {v : Value} {l : List Meth} (h : SM K B u v l) (hb : Keep B u w) : SM K B w v l := Arr.on (MAt.lasts K B) h hb
theorem SM.weak {K : Way} {B B' : Nat} {w : World} {v : Value} {l : List Meth} (h : SM K B w v l) (hB : B' ≤ B) : SM K B' w v l :=
  Arr.weak h hB fun _ _ _ ⟨va, vc, h0, h1, h2, h3, h4⟩ => ⟨va, vc, h0, h1, h2, h3, h4.weak hB⟩
def CV (K : Way) (B : Nat) (w : World) (vf vm : Value) (c : Cls) : Prop := SI K.fr B w vf c.fields ∧ SM K B w vm c.meths
def CAt (K : Way) (B : Nat) (w : World) (b o : Nat) (c : Cls) : Prop :=
  ∃ vf vm, w.cell? ⟨b, o, none⟩ = some (.int .i64 c.super) ∧ w.cell? ⟨b, o + 1, none⟩ = some vf ∧ w.cell? ⟨b, o + 2, none⟩ = some vm ∧ CV K B w vf vm c
theorem CV.on {K : Way} {B : Nat} {u w : World} {vf vm : Value} {c : Cls} (h : CV K B u vf vm c) (hb : Keep B u w) : CV K B w vf vm c := ⟨SI.on h.1 hb, SM.on h.2 hb⟩
theorem CV.weak {K : Way} {B B' : Nat} {w : World} {vf vm : Value} {c : Cls} (h : CV K B w vf vm c) (hB : B' ≤ B) : CV K B' w vf vm c := ⟨SI.weak h.1 hB, SM.weak h.2 hB⟩
theorem CAt.lasts (K : Way) (B : Nat) : Lasts B (CAt K B) := by
  rintro u w b o m hb hB ⟨vf, vm, h0, h1, h2, h4⟩
  have l : b < u.heap.size := cell_lt h0
  exact ⟨vf, vm, (hb.cell hB l).trans h0, (hb.cell hB l).trans h1, (hb.cell hB l).trans h2, h4.on hb⟩
abbrev SK (K : Way) (B : Nat) := Arr (CAt K B) 3 K.fr B
theorem SK.on {K : Way} {B : Nat} {u w : World} {v : Value} {l : Prg} (h : SK K B u v l) (hb : Keep B u w) : SK K B w v l := Arr.on (CAt.lasts K B) h hb
theorem SK.weak {K : Way} {B B' : Nat} {w : World} {v : Value} {l : Prg} (h : SK K B w v l) (hB : B' ≤ B) : SK K B' w v l :=
  Arr.weak h hB fun _ _ _ ⟨va, vc, h0, h1, h2, h4⟩ => ⟨va, vc, h0, h1, h2, h4.weak hB⟩
theorem SI.row {f : Bool} {w : World} {B g cap : Nat} {l : List Int} (hB : B ≤ g) (hg : g < w.heap.size) (h : IRow w g 0 l) (hr : Room w g l.length) : SI f B w (.slice (some ⟨g, 0, none⟩) l.length cap) l :=
  ⟨_, cap, rfl, fun _ h => by simp at h, fun _ => ⟨g, 0, rfl, hB, ⟨hg, fun _ j hj => by rw [Nat.mul_one] at hj; rw [Nat.zero_add]; exact (hr j hj).2⟩, fun j x hj => by rw [Nat.mul_one]; exact h j x hj⟩⟩

/-- How much there is in a program. -/
def szM (m : Meth) : Nat := m.args.length + m.code.length
def sumN (l : List Nat) : Nat := l.foldr (· + ·) 0
def szMs (ms : List Meth) : Nat := ms.length + sumN (ms.map szM)
def szC (c : Cls) : Nat := c.fields.length + szMs c.meths
def szP (p : Prg) : Nat := p.length + sumN (p.map szC)
theorem sumN_le {l : List Nat} {n : Nat} (h : n ∈ l) : n ≤ sumN l := by
  induction l with
  | nil => simp at h
  | cons x l ih =>
    simp only [sumN, List.foldr_cons]
    rcases List.mem_cons.1 h with rfl | h
    · omega
    · have := ih h; simp only [sumN] at this; omega
theorem szM_le {ms : List Meth} {m : Meth} (h : m ∈ ms) : szM m ≤ szMs ms := by
  have := sumN_le (List.mem_map_of_mem (f := szM) h); unfold szMs; omega
theorem szC_le {p : Prg} {c : Cls} (h : c ∈ p) : szC c ≤ szP p := by
  have := sumN_le (List.mem_map_of_mem (f := szC) h); unfold szP; omega
end Pg
end Go.Proofs.Ytffkkhaiedhaiaa

/- Lists that rise, and what may come next, plainly. -/
namespace Go.Proofs.Ytffkkhaiedhaiaa
namespace Pg
open Go.ChangeShapes Go.WideShapes Go.ChangeAt Go.RowKit St

/-- A number into a list that rises, once. -/
def putL : List Int → Int → List Int
  | [], n => [n]
  | x :: l, n => if x < n then x :: putL l n else if x = n then x :: l else n :: x :: l
abbrev Rise (l : List Int) : Prop := l.Pairwise (· < ·)
theorem rise_ext : ∀ {l r : List Int}, Rise l → Rise r → (∀ x, x ∈ l ↔ x ∈ r) → l = r
  | [], [], _, _, _ => rfl
  | [], y :: r, _, _, h => absurd ((h y).2 List.mem_cons_self) (by simp)
  | x :: l, [], _, _, h => absurd ((h x).1 List.mem_cons_self) (by simp)
  | x :: l, y :: r, h1, h2, h => by
    obtain ⟨a1, b1⟩ := List.pairwise_cons.1 h1
    obtain ⟨a2, b2⟩ := List.pairwise_cons.1 h2
    have hxy : x = y := by
      rcases List.mem_cons.1 ((h x).1 List.mem_cons_self) with e | e
      · exact e
      · rcases List.mem_cons.1 ((h y).2 List.mem_cons_self) with e' | e'
        · exact e'.symm
        · have := a2 x e; have := a1 y e'; omega
    subst hxy
    have : l = r := rise_ext b1 b2 (fun z => ⟨fun hz => by
      rcases List.mem_cons.1 ((h z).1 (List.mem_cons_of_mem _ hz)) with e | e
      · have := a1 z hz; omega
      · exact e, fun hz => by
      rcases List.mem_cons.1 ((h z).2 (List.mem_cons_of_mem _ hz)) with e | e
      · have := a2 z hz; omega
      · exact e⟩)
    rw [this]
theorem putL_mem (l : List Int) (n x : Int) : x ∈ putL l n ↔ x = n ∨ x ∈ l := by
  induction l with
  | nil => simp [putL]
  | cons y l ih =>
    simp only [putL]
    split
    · rw [List.mem_cons, ih, List.mem_cons]; constructor <;> (intro h; rcases h with h | h | h <;> simp [h])
    · split
      · rename_i h; subst h; simp
      · simp
theorem putL_rise {l : List Int} (h : Rise l) (n : Int) : Rise (putL l n) := by
  induction l with
  | nil => simp [putL]
  | cons y l ih =>
    obtain ⟨a, b⟩ := List.pairwise_cons.1 h
    simp only [putL]
    split
    · rename_i hy
      refine List.pairwise_cons.2 ⟨fun z hz => ?_, ih b⟩
      rcases (putL_mem l n z).1 hz with rfl | hz
      · exact hy
      · exact a z hz
    · split
      · exact h
      · rename_i h1 h2
        refine List.pairwise_cons.2 ⟨fun z hz => ?_, h⟩
        rcases List.mem_cons.1 hz with rfl | hz
        · omega
        · have := a z hz; omega
/-- Where the number is, or would be. -/
theorem putL_at {l : List Int} {k : Nat} {n : Int} (h1 : ∀ x ∈ l.take k, x < n) (hk : k ≤ l.length) : (∀ x, l[k]? = some x → x = n → putL l n = l) ∧ ((∀ x, l[k]? = some x → n < x) → putL l n = l.take k ++ n :: l.drop k) := by
  induction l generalizing k with
  | nil =>
    have : k = 0 := by simpa using hk
    subst this
    simp [putL]
  | cons y l ih =>
    cases k with
    | zero =>
      refine ⟨fun x hx e => ?_, fun h => ?_⟩
      · simp at hx; subst hx; subst e; simp [putL]
      · have := h y (by simp)
        simp only [putL]
        rw [if_neg (by omega), if_neg (by omega)]
        simp
    | succ k =>
      have hy : y < n := h1 y (by simp)
      obtain ⟨a, b⟩ := ih (k := k) (fun x hx => h1 x (by rw [List.take_succ_cons]; exact List.mem_cons_of_mem _ hx)) (by simpa using hk)
      refine ⟨fun x hx e => ?_, fun h => ?_⟩
      · simp only [putL, hy, if_true]; rw [a x (by simpa using hx) e]
      · simp only [putL, hy, if_true]; rw [b (fun x hx => h x (by simpa using hx))]; simp
theorem foldl_put (m : List Int) : ∀ (l : List Int), Rise l → Rise (m.foldl putL l) ∧ ∀ x, x ∈ m.foldl putL l ↔ x ∈ m ∨ x ∈ l := by
  induction m with
  | nil => intro l h; exact ⟨h, fun x => by simp⟩
  | cons y m ih =>
    intro l h
    obtain ⟨a, b⟩ := ih (putL l y) (putL_rise h y)
    refine ⟨a, fun x => ?_⟩
    rw [List.foldl_cons, b x, putL_mem, List.mem_cons]
    constructor
    · rintro (h | h | h)
      · exact .inl (.inr h)
      · exact .inl (.inl h)
      · exact .inr h
    · rintro ((h | h) | h)
      · exact .inr (.inl h)
      · exact .inl h
      · exact .inr (.inr h)
/-- Where one may come next, as the program tells it: also behind the last one. -/
def waysF (i : Tx.Ins) (at' : Nat) : List Nat :=
  if i.1 = 20 then [] else if i.1 = 11 then [i.2.1.toNat] else if i.1 = 12 then [i.2.1.toNat, at' + 1] else [at' + 1]
def insF (code : List Tx.Ins) (i : Nat) : Tx.Ins := code.getD i (0, 0, 0)
theorem mem_putL {x n : Int} : ∀ {l : List Int}, x ∈ putL l n ↔ x ∈ l ∨ x = n
  | [] => by simp [putL]
  | y :: l => by
    unfold putL
    split
    · rw [List.mem_cons, mem_putL (l := l), List.mem_cons]
      constructor
      · rintro (h | h | h)
        · exact .inl (.inl h)
        · exact .inl (.inr h)
        · exact .inr h
      · rintro ((h | h) | h)
        · exact .inl h
        · exact .inr (.inl h)
        · exact .inr (.inr h)
    · split
      · rename_i h1 h2
        subst h2
        constructor
        · exact fun h => .inl h
        · rintro (h | h)
          · exact h
          · rw [h]; exact List.mem_cons_self
      · rw [List.mem_cons]
        constructor
        · rintro (h | h)
          · exact .inr h
          · exact .inl h
        · rintro (h | h)
          · exact .inr h
          · exact .inl h
def nextsF (code : List Tx.Ins) (a : Nat) : List Int :=
  let b : List Int := if (insF code a).1 ≠ 11 ∧ (insF code a).1 ≠ 20 ∧ a + 1 < code.length then [(a : Int) + 1] else []
  if (insF code a).1 = 11 ∨ (insF code a).1 = 12 then putL b (insF code a).2.1 else b
def nextsL (op A : Int) (k n : Nat) : List Int :=
  if op = 11 ∨ op = 12 then putL (if op ≠ 11 ∧ op ≠ 20 ∧ k + 1 < n then [(k : Int) + 1] else []) A else (if op ≠ 11 ∧ op ≠ 20 ∧ k + 1 < n then [(k : Int) + 1] else [])
theorem nexts_is (code : List Tx.Ins) (k : Nat) : nextsF code k = nextsL (insF code k).1 (insF code k).2.1 k code.length := rfl
end Pg
end Go.Proofs.Ytffkkhaiedhaiaa

/- When a program is right, as a plain function. -/
namespace Go.Proofs.Ytffkkhaiedhaiaa
namespace Pg
open Go.ChangeShapes Go.WideShapes Go.ChangeAt Go.RowKit St

def tyB (n t : Int) : Bool := decide (t = -1) || (decide (0 ≤ t) && decide (t < n))
def okMB (n : Int) (m : Meth) : Bool := decide (0 ≤ m.name) && decide (m.name ≤ 19) && decide (m.args.length ≤ 3) && m.args.all (tyB n) && tyB n m.gives && Lay.codeOk m.code
def ownF (c : Cls) (name : Int) : Option Meth := c.meths.find? fun m => decide (m.name = name)
def agree1 (c : Cls) (m : Meth) : Bool := match ownF c m.name with | none => true | some x => decide (x.args = m.args) && decide (x.gives = m.gives)
def agreeF (p : Prg) (m : Meth) : Nat → Int → Bool
  | 0, _ => true
  | f + 1, up => if up < 0 then true else match p[up.toNat]? with | none => true | some c => agree1 c m && agreeF p m f c.super
def okK (p : Prg) (c : Cls) (k : Nat) : Bool := match c.meths[k]? with
  | none => true
  | some m => okMB p.length m && (match k with | 0 => true | j + 1 => match c.meths[j]? with | none => true | some q => decide (q.name < m.name)) && agreeF p m 6 c.super
def okCB (p : Prg) (i : Nat) (c : Cls) : Bool := decide (-1 ≤ c.super) && decide (c.super < (i : Int)) && decide (c.fields.length ≤ 4) && c.fields.all (tyB p.length) && decide (c.meths.length ≤ 4) && (List.range c.meths.length).all (okK p c)
def okAt (p : Prg) (i : Nat) : Bool := match p[i]? with | none => true | some c => okCB p i c
def mainOk (p : Prg) : Bool := match p[0]? with | none => false | some c => match ownF c 0 with | none => false | some m => decide (m.args.length = 0) && decide (m.gives = -1)
def okP (p : Prg) : Bool := decide (1 ≤ p.length) && decide (p.length ≤ 6) && (List.range p.length).all (okAt p) && mainOk p

theorem okP_len {p : Prg} (h : okP p = true) : 1 ≤ p.length ∧ p.length ≤ 6 := by
  unfold okP at h
  simp only [Bool.and_eq_true, decide_eq_true_eq] at h
  exact ⟨h.1.1.1, h.1.1.2⟩
theorem okP_at {p : Prg} (h : okP p = true) {i : Nat} (hi : i < p.length) : okAt p i = true := by
  unfold okP at h
  simp only [Bool.and_eq_true] at h
  exact List.all_eq_true.1 h.1.2 i (List.mem_range.2 hi)
theorem okP_few {p : Prg} (h : p.length < 1) : okP p = false := by simp [okP]; omega
theorem okP_many {p : Prg} (h : 6 < p.length) : okP p = false := by
  cases hh : okP p
  · rfl
  · have := okP_len hh; omega
theorem okP_no {p : Prg} {i : Nat} (hi : i < p.length) (h : okAt p i = false) : okP p = false := by
  cases hh : okP p
  · rfl
  · rw [okP_at hh hi] at h; simp at h
theorem okP_main {p : Prg} (h1 : 1 ≤ p.length) (h2 : p.length ≤ 6) (h : ∀ i, i < p.length → okAt p i = true) : okP p = mainOk p := by
  have : (List.range p.length).all (okAt p) = true := List.all_eq_true.2 fun i hi => h i (List.mem_range.1 hi)
  simp [okP, this, h1, h2]
theorem okAt_of {p : Prg} {i : Nat} {c : Cls} (h : p[i]? = some c) : okAt p i = okCB p i c := by simp [okAt, h]
theorem okC_super {p : Prg} {i : Nat} {c : Cls} (h : okCB p i c = true) : -1 ≤ c.super ∧ c.super < (i : Int) := by
  unfold okCB at h
  simp only [Bool.and_eq_true, decide_eq_true_eq] at h
  exact ⟨h.1.1.1.1.1, h.1.1.1.1.2⟩
theorem okC_few {p : Prg} {i : Nat} {c : Cls} (h : okCB p i c = true) : c.fields.length ≤ 4 ∧ c.meths.length ≤ 4 := by
  unfold okCB at h
  simp only [Bool.and_eq_true, decide_eq_true_eq] at h
  exact ⟨h.1.1.1.2, h.1.2⟩
theorem okC_meth {p : Prg} {i : Nat} {c : Cls} (h : okCB p i c = true) {k : Nat} (hk : k < c.meths.length) : okK p c k = true := by
  unfold okCB at h
  simp only [Bool.and_eq_true] at h
  exact List.all_eq_true.1 h.2 k (List.mem_range.2 hk)
theorem okC_no {p : Prg} {i : Nat} {c : Cls} {k : Nat} (hk : k < c.meths.length) (h : okK p c k = false) : okCB p i c = false := by
  cases hh : okCB p i c
  · rfl
  · rw [okC_meth hh hk] at h; simp at h
/-- All classes before this one have a lesser Super. -/
def SupOk (p : Prg) (n : Nat) : Prop := ∀ j c, j < n → p[j]? = some c → -1 ≤ c.super ∧ c.super < (j : Int)
theorem SupOk.of {p : Prg} {n : Nat} (h : ∀ i, i < n → okAt p i = true) : SupOk p n := fun j c hj hc => okC_super (by rw [← okAt_of hc]; exact h j hj)
theorem agreeF_neg (p : Prg) (m : Meth) (f : Nat) {up : Int} (h : up < 0) : agreeF p m f up = true := by
  cases f with
  | zero => rfl
  | succ f => simp [agreeF, h]
theorem agreeF_fuel {p : Prg} {n : Nat} (hs : SupOk p n) (m : Meth) : ∀ (f g : Nat) (up : Int), up < (n : Int) → up < (f : Int) → up < (g : Int) → agreeF p m f up = agreeF p m g up := by
  intro f
  induction f with
  | zero => intro g up _ h1 _; rw [agreeF_neg _ _ _ (by omega), agreeF_neg _ _ _ (by omega)]
  | succ f ih =>
    intro g up hn h1 h2
    by_cases h0 : up < 0
    · rw [agreeF_neg _ _ _ h0, agreeF_neg _ _ _ h0]
    · cases g with
      | zero => omega
      | succ g =>
        simp only [agreeF, h0, if_false]
        cases hc : p[up.toNat]? with
        | none => rfl
        | some c =>
          have := hs up.toNat c (by omega) hc
          simp only []
          rw [ih g c.super (by omega) (by omega) (by omega)]
/-- One class further up. -/
theorem agreeF_step {p : Prg} {n : Nat} (hs : SupOk p n) (m : Meth) {u : Nat} (hu : u < n) (h6 : u < 6) {c : Cls} (hc : p[u]? = some c) : agreeF p m 6 (u : Int) = (agree1 c m && agreeF p m 6 c.super) := by
  have h0 : ¬ (u : Int) < 0 := by omega
  have := hs u c hu hc
  have e : agreeF p m 5 c.super = agreeF p m 6 c.super := agreeF_fuel hs m 5 6 c.super (by omega) (by omega) (by omega)
  show (if (u : Int) < 0 then true else match p[(u : Int).toNat]? with | none => true | some c => agree1 c m && agreeF p m 5 c.super) = _
  rw [if_neg h0, Int.toNat_natCast, hc]
  simp only []
  rw [e]
theorem find_none {c : Cls} {name : Int} (h : ∀ j, j < c.meths.length → ∀ m, c.meths[j]? = some m → m.name ≠ name) : ownF c name = none := by
  unfold ownF
  rw [List.find?_eq_none]
  intro m hm
  obtain ⟨j, hj, rfl⟩ := List.getElem_of_mem hm
  simpa using h j hj _ (List.getElem?_eq_getElem hj)
theorem find_at {c : Cls} {name : Int} {k : Nat} {m : Meth} (h : ∀ j, j < k → ∀ m, c.meths[j]? = some m → m.name ≠ name) (hk : c.meths[k]? = some m) (hn : m.name = name) : ownF c name = some m := by
  unfold ownF
  rw [List.find?_eq_some_iff_getElem]
  obtain ⟨hlt, hm⟩ := List.getElem?_eq_some_iff.1 hk
  refine ⟨by simpa using hn, k, hlt, hm, fun j hj => ?_⟩
  simpa using h j hj _ (List.getElem?_eq_getElem (by omega))
end Pg
end Go.Proofs.Ytffkkhaiedhaiaa
