/- Lists that rise, and what may come next, plainly. -/
import Derived.Test.YtbgbddahniacbaaGreatDoorJPg0
import Derived.Deep.RegionLaw
import Derived.Laws.AppendOwnNone
import Derived.Maps.AppendAt
namespace Go.Proofs.YtbgbddahniacbaaGreatDoor
namespace Pg
open Go.ChangeShapes Go.WideShapes Go.ChangeAt Go.RowKit St

/-- A number into a list that rises, once. -/
def putL : List Int → Int → List Int
  | [], n => [n]
  | x :: l, n => if x < n then x :: putL l n else if x = n then x :: l else n :: x :: l
abbrev Rise (l : List Int) : Prop := l.Pairwise (· < ·)
theorem rise_ext : ∀ {l r : List Int}, Rise l → Rise r → (∀ x, x ∈ l ↔ x ∈ r) → l = r
  | [], [], _, _, _ => rfl
  | [], y :: r, _, _, h => absurd ((h y).2 List.mem_cons_self) (by simp)
  | x :: l, [], _, _, h => absurd ((h x).1 List.mem_cons_self) (by simp)
  | x :: l, y :: r, h1, h2, h => by
    obtain ⟨a1, b1⟩ := List.pairwise_cons.1 h1
    obtain ⟨a2, b2⟩ := List.pairwise_cons.1 h2
    have hxy : x = y := by
      rcases List.mem_cons.1 ((h x).1 List.mem_cons_self) with e | e
      · exact e
      · rcases List.mem_cons.1 ((h y).2 List.mem_cons_self) with e' | e'
        · exact e'.symm
        · have := a2 x e; have := a1 y e'; omega
    subst hxy
    have : l = r := rise_ext b1 b2 (fun z => ⟨fun hz => by
      rcases List.mem_cons.1 ((h z).1 (List.mem_cons_of_mem _ hz)) with e | e
      · have := a1 z hz; omega
      · exact e, fun hz => by
      rcases List.mem_cons.1 ((h z).2 (List.mem_cons_of_mem _ hz)) with e | e
      · have := a2 z hz; omega
      · exact e⟩)
    rw [this]
theorem putL_mem (l : List Int) (n x : Int) : x ∈ putL l n ↔ x = n ∨ x ∈ l := by
  induction l with
  | nil => simp [putL]
  | cons y l ih =>
    simp only [putL]
    split
    · rw [List.mem_cons, ih, List.mem_cons]; constructor <;> (intro h; rcases h with h | h | h <;> simp [h])
    · split
      · rename_i h; subst h; simp
      · simp
theorem putL_rise {l : List Int} (h : Rise l) (n : Int) : Rise (putL l n) := by
  induction l with
  | nil => simp [putL]
  | cons y l ih =>
    obtain ⟨a, b⟩ := List.pairwise_cons.1 h
    simp only [putL]
    split
    · rename_i hy
      refine List.pairwise_cons.2 ⟨fun z hz => ?_, ih b⟩
      rcases (putL_mem l n z).1 hz with rfl | hz
      · exact hy
      · exact a z hz
    · split
      · exact h
      · rename_i h1 h2
        refine List.pairwise_cons.2 ⟨fun z hz => ?_, h⟩
        rcases List.mem_cons.1 hz with rfl | hz
        · omega
        · have := a z hz; omega
theorem putL_len (l : List Int) (n : Int) : (putL l n).length ≤ l.length + 1 := by
  induction l with
  | nil => simp [putL]
  | cons y l ih =>
    simp only [putL]
    split
    · simp; omega
    · split <;> simp
/-- Where the number is, or would be. -/
theorem putL_at {l : List Int} {k : Nat} {n : Int} (h1 : ∀ x ∈ l.take k, x < n) (hk : k ≤ l.length) : (∀ x, l[k]? = some x → x = n → putL l n = l) ∧ ((∀ x, l[k]? = some x → n < x) → putL l n = l.take k ++ n :: l.drop k) := by
  induction l generalizing k with
  | nil =>
    have : k = 0 := by simpa using hk
    subst this
    simp [putL]
  | cons y l ih =>
    cases k with
    | zero =>
      refine ⟨fun x hx e => ?_, fun h => ?_⟩
      · simp at hx; subst hx; subst e; simp [putL]
      · have := h y (by simp)
        simp only [putL]
        rw [if_neg (by omega), if_neg (by omega)]
        simp
    | succ k =>
      have hy : y < n := h1 y (by simp)
      obtain ⟨a, b⟩ := ih (k := k) (fun x hx => h1 x (by rw [List.take_succ_cons]; exact List.mem_cons_of_mem _ hx)) (by simpa using hk)
      refine ⟨fun x hx e => ?_, fun h => ?_⟩
      · simp only [putL, hy, if_true]; rw [a x (by simpa using hx) e]
      · simp only [putL, hy, if_true]; rw [b (fun x hx => h x (by simpa using hx))]; simp
theorem foldl_put (m : List Int) : ∀ (l : List Int), Rise l → Rise (m.foldl putL l) ∧ ∀ x, x ∈ m.foldl putL l ↔ x ∈ m ∨ x ∈ l := by
  induction m with
  | nil => intro l h; exact ⟨h, fun x => by simp⟩
  | cons y m ih =>
    intro l h
    obtain ⟨a, b⟩ := ih (putL l y) (putL_rise h y)
    refine ⟨a, fun x => ?_⟩
    rw [List.foldl_cons, b x, putL_mem, List.mem_cons]
    constructor
    · rintro (h | h | h)
      · exact .inl (.inr h)
      · exact .inl (.inl h)
      · exact .inr h
    · rintro ((h | h) | h)
      · exact .inr (.inl h)
      · exact .inl h
      · exact .inr (.inr h)
theorem foldl_put_len (m : List Int) : ∀ (l : List Int), (m.foldl putL l).length ≤ m.length + l.length := by
  induction m with
  | nil => intro l; simp
  | cons y m ih => intro l; have := ih (putL l y); have := putL_len l y; simp only [List.foldl_cons, List.length_cons]; omega
/-- Where one may come next, as the program tells it: also behind the last one. -/
def waysF (i : Tx.Ins) (at' : Nat) : List Nat :=
  if i.1 = 20 then [] else if i.1 = 11 then [i.2.1.toNat] else if i.1 = 12 then [i.2.1.toNat, at' + 1] else [at' + 1]
def insF (code : List Tx.Ins) (i : Nat) : Tx.Ins := code.getD i (0, 0, 0)
theorem mem_putL {x n : Int} : ∀ {l : List Int}, x ∈ putL l n ↔ x ∈ l ∨ x = n
  | [] => by simp [putL]
  | y :: l => by
    unfold putL
    split
    · rw [List.mem_cons, mem_putL (l := l), List.mem_cons]
      constructor
      · rintro (h | h | h)
        · exact .inl (.inl h)
        · exact .inl (.inr h)
        · exact .inr h
      · rintro ((h | h) | h)
        · exact .inl h
        · exact .inr (.inl h)
        · exact .inr (.inr h)
    · split
      · rename_i h1 h2
        subst h2
        constructor
        · exact fun h => .inl h
        · rintro (h | h)
          · exact h
          · rw [h]; exact List.mem_cons_self
      · rw [List.mem_cons]
        constructor
        · rintro (h | h)
          · exact .inr h
          · exact .inl h
        · rintro (h | h)
          · exact .inr h
          · exact .inl h
def nextsF (code : List Tx.Ins) (a : Nat) : List Int :=
  let b : List Int := if (insF code a).1 ≠ 11 ∧ (insF code a).1 ≠ 20 ∧ a + 1 < code.length then [(a : Int) + 1] else []
  if (insF code a).1 = 11 ∨ (insF code a).1 = 12 then putL b (insF code a).2.1 else b
def nextsL (op A : Int) (k n : Nat) : List Int :=
  if op = 11 ∨ op = 12 then putL (if op ≠ 11 ∧ op ≠ 20 ∧ k + 1 < n then [(k : Int) + 1] else []) A else (if op ≠ 11 ∧ op ≠ 20 ∧ k + 1 < n then [(k : Int) + 1] else [])
theorem nexts_is (code : List Tx.Ins) (k : Nat) : nextsF code k = nextsL (insF code k).1 (insF code k).2.1 k code.length := rfl
end Pg
end Go.Proofs.YtbgbddahniacbaaGreatDoor

/- Cells, rows of numbers that may grow, appends onto them, and what the specification does with lists that rise. -/
namespace Go.Proofs.YtbgbddahniacbaaGreatDoor
namespace Pg
open Go.ChangeShapes Go.WideShapes Go.ChangeAt Go.RowKit St

/-- The first cells of a block, which may be written. -/
def Cells (w : World) (k : Nat) (vs : List Value) : Prop := ∀ i x, vs[i]? = some x → w.cell? ⟨k, i, none⟩ = some x ∧ w.frozen? ⟨k, i, none⟩ = false
theorem Cells.on {u w : World} {k : Nat} {vs : List Value} (h : Cells u k vs) (hb : Below u.heap.size u w) : Cells w k vs := fun i x hx => by
  obtain ⟨h1, h2⟩ := h i x hx
  have l : k < u.heap.size := cell_lt h1
  exact ⟨(hb.cell l).trans h1, (hb.frozen l).trans h2⟩
theorem Cells.new (w : World) (k : Nat) (hk : k = w.heap.size) (vs : List Value) (t : TypeId) : Cells (w.alloc (.cells vs.toArray t)) k vs := by
  subst hk
  intro i x hx
  exact ⟨by simp [go_sem, hx], by simp [go_sem]⟩
theorem Cells.alloc {w : World} {k : Nat} {vs : List Value} (h : Cells w k vs) (o : Obj) : Cells (w.alloc o) k vs := h.on ((Below.refl _ _).alloc (Nat.le_refl _) o)
theorem Cells.set {w : World} {k : Nat} {vs : List Value} (h : Cells w k vs) (i : Nat) (v : Value) : Cells (w.setCell ⟨k, i, none⟩ v) k (vs.set i v) := by
  intro j x hx
  rw [List.getElem?_set] at hx
  split at hx
  · rename_i e
    subst e
    split at hx
    · rename_i hl
      simp at hx
      subst hx
      obtain ⟨h1, h2⟩ := h i _ (List.getElem?_eq_getElem hl)
      exact ⟨World.cell?_setCell_same _ _ _ h1, by simpa using h2⟩
    · simp at hx
  · rename_i e
    obtain ⟨h1, h2⟩ := h j x hx
    exact ⟨(World.cell?_setCell_other _ _ _ _ (fun e' => e (congrArg Addr.off e'))).trans h1, by simpa using h2⟩
theorem Cells.g0 {w : World} {k : Nat} {a : Value} {l : List Value} (h : Cells w k (a :: l)) : w.cell? ⟨k, 0, none⟩ = some a ∧ w.frozen? ⟨k, 0, none⟩ = false := h 0 a rfl
theorem Cells.g1 {w : World} {k : Nat} {a b : Value} {l : List Value} (h : Cells w k (a :: b :: l)) : w.cell? ⟨k, 1, none⟩ = some b ∧ w.frozen? ⟨k, 1, none⟩ = false := h 1 b rfl
theorem Cells.g2 {w : World} {k : Nat} {a b c : Value} {l : List Value} (h : Cells w k (a :: b :: c :: l)) : w.cell? ⟨k, 2, none⟩ = some c ∧ w.frozen? ⟨k, 2, none⟩ = false := h 2 c rfl
theorem Cells.g3 {w : World} {k : Nat} {a b c d : Value} {l : List Value} (h : Cells w k (a :: b :: c :: d :: l)) : w.cell? ⟨k, 3, none⟩ = some d ∧ w.frozen? ⟨k, 3, none⟩ = false := h 3 d rfl
theorem Cells.s0 {w : World} {k : Nat} {a : Value} {l : List Value} (h : Cells w k (a :: l)) (v : Value) : Cells (w.setCell ⟨k, 0, none⟩ v) k (v :: l) := h.set 0 v
theorem Cells.s1 {w : World} {k : Nat} {a b : Value} {l : List Value} (h : Cells w k (a :: b :: l)) (v : Value) : Cells (w.setCell ⟨k, 1, none⟩ v) k (a :: v :: l) := h.set 1 v
theorem Cells.s2 {w : World} {k : Nat} {a b c : Value} {l : List Value} (h : Cells w k (a :: b :: c :: l)) (v : Value) : Cells (w.setCell ⟨k, 2, none⟩ v) k (a :: b :: v :: l) := h.set 2 v
theorem Cells.s3 {w : World} {k : Nat} {a b c d : Value} {l : List Value} (h : Cells w k (a :: b :: c :: d :: l)) (v : Value) : Cells (w.setCell ⟨k, 3, none⟩ v) k (a :: b :: c :: v :: l) := h.set 3 v
theorem Cells.far {w : World} {k : Nat} {vs : List Value} (h : Cells w k vs) (p : Addr) (v : Value) (hp : p.block ≠ k) : Cells (w.setCell p v) k vs := fun i x hx => by
  obtain ⟨h1, h2⟩ := h i x hx
  exact ⟨(World.cell?_setCell_other _ _ _ _ (fun e => hp (by rw [e]))).trans h1, by simpa using h2⟩

theorem SI.rows {f : Bool} {B : Nat} {w : World} {a : Option Addr} {n cap : Nat} {l : List Int} (h : SI f B w (.slice a n cap) l) : 0 < l.length → ∃ b o, a = some ⟨b, o, none⟩ ∧ IRow w b o l := by
  intro h0
  obtain ⟨a', cap', hv, _, h⟩ := h
  injection hv with e1 e2 e3
  subst e1
  obtain ⟨b, o, ha, _, _, hx⟩ := h h0
  exact ⟨b, o, ha, fun j x hj => by have := hx j x hj; rw [Nat.mul_one] at this; exact this⟩
theorem SC.rows {B : Nat} {w : World} {a : Option Addr} {n cap : Nat} {l : List Tx.Ins} (h : SC B w (.slice a n cap) l) : 0 < l.length → ∃ b o, a = some ⟨b, o, none⟩ ∧ Row w b o l := by
  intro h0
  obtain ⟨a', cap', hv, _, h⟩ := h
  injection hv with e1 e2 e3
  subst e1
  obtain ⟨b, o, ha, _, _, hx⟩ := h h0
  exact ⟨b, o, ha, fun j x hj => hx j x hj⟩

/-- A row of numbers that the call has made and that may grow. -/
def nums (l : List Int) : List Value := l.map (Value.int .i64)
def Grow (B : Nat) (w : World) (v : Value) (l : List Int) : Prop := w.ownsRow B 2 1 v l.length (nums l) ∧ v ≠ .slice none 0 0
theorem ownOn {u v : World} {B n q : Nat} {e : TypeId} {x : Value} {xs : List Value} (h : u.ownsRow B e q x n xs) (hb : Below u.heap.size u v) : v.ownsRow B e q x n xs :=
  h.kept (row := none) ⟨hb.os, hb.tape, hb.output, hb.size, fun k hk _ => hb.block k hk⟩ (by
    cases hx : x.ownBlock with
    | none => exact Or.inl rfl
    | some g => exact Or.inr (by simp))
theorem ownBase {w : World} {B B' : Nat} {e : TypeId} {q n : Nat} {x : Value} {xs : List Value} (h : w.ownsRow B e q x n xs) (hB : B' ≤ B) : w.ownsRow B' e q x n xs := by
  obtain ⟨q1, q2 | ⟨g1, c1, cur1, q3, q4, q5⟩⟩ := h
  · exact ⟨q1, Or.inl q2⟩
  · exact ⟨q1, Or.inr ⟨g1, c1, cur1, q3, Nat.le_trans hB q4, q5⟩⟩
/-- A row of numbers at the front of a block, which may be written. -/
def GInt (B : Nat) (w : World) (v : Value) (l : List Int) : Prop := ∃ g cap, v = .slice (some ⟨g, 0, none⟩) l.length cap ∧ B ≤ g ∧ g < w.heap.size ∧ IRow w g 0 l ∧ Room w g l.length
theorem Grow.gint {B : Nat} {w : World} {v : Value} {l : List Int} (h : Grow B w v l) : GInt B w v l := by
  obtain ⟨h, hv⟩ := h
  have hc := @World.ownsRow.cells w B 2 1 v l.length (nums l) h
  have hlt := @World.ownsRow.lt w B 2 1 v l.length (nums l) h
  obtain ⟨_, ⟨h, _⟩ | ⟨g, cap, cur, rfl, hB, hblk, hcap, hmax, hsz, _⟩⟩ := h
  · exact absurd h hv
  · have hcell : ∀ j x, l[j]? = some x → w.cell? ⟨g, j, none⟩ = some (.int .i64 x) := fun j x hj => by
      have := hc (g := g) rfl j (.int .i64 x) (by simp [nums, hj])
      simpa [Go.WideShapes.add_plain] using this
    refine ⟨g, cap, rfl, hB, (hlt g rfl).2, fun j x hj => by rw [Nat.zero_add]; exact hcell j x hj, fun j hj => ⟨⟨_, hcell j _ (List.getElem?_eq_getElem hj)⟩, by simp [World.frozen?, hblk]⟩⟩
theorem GInt.on {B : Nat} {u w : World} {v : Value} {l : List Int} (h : GInt B u v l) (hb : Keep B u w) : GInt B w v l := by
  obtain ⟨g, cap, hv, h1, h2, h3, h4⟩ := h
  refine ⟨g, cap, hv, h1, Nat.lt_of_lt_of_le h2 hb.size, fun j x hj => (hb.cell (p := ⟨g, 0 + j, none⟩) h1 h2).trans (h3 j x hj), fun i hi => ?_⟩
  obtain ⟨⟨x, hx⟩, hf⟩ := h4 i hi
  exact ⟨⟨x, (hb.cell (p := ⟨g, i, none⟩) h1 h2).trans hx⟩, (hb.frozen (p := ⟨g, i, none⟩) h1 h2).trans hf⟩
theorem GInt.si {B : Nat} {w : World} {v : Value} {l : List Int} (h : GInt B w v l) : SI true B w v l := by
  obtain ⟨g, cap, rfl, h1, h2, h3, h4⟩ := h
  exact SI.row h1 h2 h3 h4
theorem SI.nums {f : Bool} {B : Nat} {w : World} {b : Addr} {n cap : Nat} {l : List Int} (h : SI f B w (.slice (some b) n cap) l) : ∀ j u, (nums l)[j]? = some u → w.cell? (b.add j) = some u := by
  intro j u hu
  unfold Pg.nums at hu
  rw [List.getElem?_map] at hu
  cases hv : l[j]? with
  | none => rw [hv] at hu; simp at hu
  | some x =>
    rw [hv] at hu
    simp at hu
    subst hu
    have hj : j < l.length := (List.getElem?_eq_some_iff.1 hv).1
    obtain ⟨b', o', he, hrow⟩ := SI.rows h (by omega)
    simp at he
    subst he
    rw [Go.WideShapes.add_plain]
    exact hrow j x hv
theorem grow_nil (w : World) (o : Obj) : Grow w.heap.size ((w.alloc o).alloc (.cells #[] 2)) (.slice (some ⟨w.heap.size + 1, 0, none⟩) 0 0) [] := by
  refine ⟨ownBase (B := (w.alloc o).heap.size) ?_ (by simp), by simp⟩
  have h : ((w.alloc o).alloc (.cells #[] 2)).ownsRow (w.alloc o).heap.size 2 1 (.slice (some ⟨(w.alloc o).heap.size, 0, none⟩) 0 0) 0 [] := World.ownsRow_made (w.alloc o) #[] 0 (Nat.le_refl _) (by decide) (by simp)
  simpa [Pg.nums] using h
theorem nums_one (l : List Int) : ∀ u ∈ nums l, u.oneCell' = true := by
  intro u hu
  obtain ⟨x, _, rfl⟩ := List.mem_map.1 hu
  rfl
theorem stepApp {P : Program} (w : World) {ops : Array Oper} {o : Oper} {a : Act} {K : Act → World → Prop} {Q : Exit → Act → World → Prop} {E : Prop} (hgd : o.guard = none) (s x : Operand) (t : TypeId)
    (ho : o.op = .call { callee := .builtin .append, args := #[s, x], argTypes := #[t, t] })
    (base : Nat) (e : TypeId) (i : TypeInfo) (z : Value) (size bytes : Nat) (ht : P.underlying t = some (.slice e)) (hi : P.info? e = some i) (hz : i.zero = some z)
    (hsize : i.size = size) (hby : i.bytes = bytes) (hzs : z.cells.size = size) (hsz : 0 < size)
    (v : Value) (n : Nat) (xs : List Value) (hs : a.eval s = v) (hown : w.ownsRow base e size v n xs)
    (ad : Addr) (m c : Nat) (news : List Value) (hx : a.eval x = .slice (some ad) m c) (hl : news.length = m * size) (hnews : ∀ j u, news[j]? = some u → w.cell? (ad.add j) = some u) (h1 : ∀ u ∈ news, u.oneCell' = true)
    (h63 : n + m ≤ maxLen) (hbytes : (n + m) * bytes ≤ 140737488355328) (hbase : base ≤ w.heap.size)
    (h : ∀ v' w', w'.ownsRow base e size v' (n + m) (xs ++ news) → w.grownBy w' v.ownBlock → (v' = .slice none 0 0 ↔ v = .slice none 0 0 ∧ m = 0) → K (a.put o.dst v') w') :
    if Region.wanted o (yielded ops a.tmps) = true then Oper.wp P o a w K Q else E := by
  have hw : Region.wanted o (yielded ops a.tmps) = true := by simp [Region.wanted, hgd]
  rw [if_pos hw]
  exact wp_append_own w s x t ho base e i z size bytes ht hi hz hsize hby hzs hsz v n xs hs hown ad m c news hx hl hnews h1 h63 hbytes hbase h
theorem stepAppNone {P : Program} (w : World) {ops : Array Oper} {o : Oper} {a : Act} {K : Act → World → Prop} {Q : Exit → Act → World → Prop} {E : Prop} (hgd : o.guard = none) (s x : Operand) (t : TypeId)
    (ho : o.op = .call { callee := .builtin .append, args := #[s, x], argTypes := #[t, t] })
    (base : Nat) (e : TypeId) (i : TypeInfo) (size : Nat) (ht : P.underlying t = some (.slice e)) (hi : P.info? e = some i)
    (v : Value) (n : Nat) (xs : List Value) (hs : a.eval s = v) (hown : w.ownsRow base e size v n xs) (hx : a.eval x = .slice none 0 0)
    (h : K (a.put o.dst v) w) :
    if Region.wanted o (yielded ops a.tmps) = true then Oper.wp P o a w K Q else E := by
  have hw : Region.wanted o (yielded ops a.tmps) = true := by simp [Region.wanted, hgd]
  rw [if_pos hw]
  have hrun := run_append_owned_none (P := P) (w := w) base t o.type e i size ht hi v n xs hown
  unfold Oper.wp
  simp [execOp, ho, resolve, invoke, builtin, hs, hx, hrun, Result.andThen]
  exact h

theorem SI.nil (f : Bool) (B : Nat) (w : World) : SI f B w (.slice none 0 0) [] := ⟨none, 0, rfl, fun _ _ => rfl, fun h => by simp at h⟩
theorem Cells.low {u w : World} {k B : Nat} {vs : List Value} (h : Cells u k vs) (hb : Below B u w) (hk : k < B) : Cells w k vs := fun i x hx => by
  obtain ⟨h1, h2⟩ := h i x hx
  exact ⟨(hb.cell (p := ⟨k, i, none⟩) hk).trans h1, (hb.frozen (p := ⟨k, i, none⟩) hk).trans h2⟩
theorem cells_lowP {B k : Nat} {u w : World} {vs : List Value} (h : Cells u k vs) (hb : Below B u w) (hk : k < B) : Cells w k vs := fun i x hx => by
  obtain ⟨h1, h2⟩ := h i x hx
  exact ⟨(hb.cell (p := ⟨k, i, none⟩) hk).trans h1, (hb.frozen (p := ⟨k, i, none⟩) hk).trans h2⟩
theorem nums_snoc (l : List Int) (x : Int) : nums (l ++ [x]) = nums l ++ [.int .i64 x] := by simp [nums]
theorem grow_next {w : World} {B : Nat} {v : Value} {l : List Int} {x : Int} (h : w.ownsRow B 2 1 v (l.length + 1) (nums l ++ [.int .i64 x])) (hv : v ≠ .slice none 0 0) : Grow B w v (l ++ [x]) := by
  refine ⟨?_, hv⟩
  rw [nums_snoc, show (l ++ [x]).length = l.length + 1 from by simp]
  exact h
theorem grow_start (w : World) : Grow w.heap.size (w.alloc (.cells #[] 2)) (.slice (some ⟨w.heap.size, 0, none⟩) 0 0) [] := by
  refine ⟨?_, by simp⟩
  have h : (w.alloc (.cells #[] 2)).ownsRow w.heap.size 2 1 (.slice (some ⟨w.heap.size, 0, none⟩) 0 0) 0 [] := World.ownsRow_made w #[] 0 (Nat.le_refl _) (by decide) (by simp)
  simpa [nums] using h
theorem Grow.on {B : Nat} {u v : World} {x : Value} {l : List Int} (h : Grow B u x l) (hb : Below u.heap.size u v) : Grow B v x l := ⟨ownOn h.1 hb, h.2⟩
theorem Grow.form {B : Nat} {w : World} {x : Value} {l : List Int} (h : Grow B w x l) : ∃ g cap, x = .slice (some ⟨g, 0, none⟩) l.length cap := by
  obtain ⟨g, cap, hv, _⟩ := h.gint
  exact ⟨g, cap, hv⟩
theorem Grow.base' {B B' : Nat} {w : World} {v : Value} {l : List Int} (h : Grow B w v l) (hB : B' ≤ B) : Grow B' w v l := ⟨ownBase h.1 hB, h.2⟩

theorem own_blockT {W : World} {n₀ g n cp : Nat} {e : TypeId} {xs : List Value} (h : W.ownsRow n₀ e 1 (.slice (some ⟨g, 0, none⟩) n cp) n xs) : n ≤ cp ∧ n₀ ≤ g ∧ ∃ cur, W.heap[g]? = some (.cells cur e (0, 0)) := by
  obtain ⟨_, ⟨h, _⟩ | ⟨g', cap', cur, hv, h1, h2, h3, _⟩⟩ := h
  · simp at h
  · injection hv with e1 e2 e3
    injection e1 with e1
    injection e1 with e1
    subst e1 e3
    exact ⟨h3, h1, cur, h2⟩

/-- A row of numbers at the front of a block. -/
def Lst (w : World) (v : Value) (l : List Int) : Prop := ∃ g c, v = .slice (some ⟨g, 0, none⟩) l.length c ∧ l.length ≤ c ∧ g < w.heap.size ∧ IRow w g 0 l
theorem Lst.on {u w : World} {v : Value} {l : List Int} (h : Lst u v l) (hb : Below u.heap.size u w) : Lst w v l := by
  obtain ⟨g, c, h1, h2, h3, h4⟩ := h
  exact ⟨g, c, h1, h2, Nat.lt_of_lt_of_le h3 hb.size, h4.on hb⟩
theorem Grow.lst {B : Nat} {w : World} {v : Value} {l : List Int} (h : Grow B w v l) : Lst w v l := by
  obtain ⟨g, c, hv, h1, h2, h3, _⟩ := h.gint
  have h' := h.1
  rw [hv] at h'
  exact ⟨g, c, hv, (own_blockT h').1, h2, h3⟩
theorem irow_nums {w : World} {g o : Nat} {l : List Int} (h : IRow w g o l) : ∀ j u, (nums l)[j]? = some u → w.cell? ((⟨g, o, none⟩ : Addr).add j) = some u := by
  intro j u hu
  rw [Go.WideShapes.add_plain]
  simp only [nums, List.getElem?_map, Option.map_eq_some_iff] at hu
  obtain ⟨x, hx, rfl⟩ := hu
  exact h j x hx
theorem irow_drop {w : World} {g k : Nat} {l : List Int} (h : IRow w g 0 l) : IRow w g k (l.drop k) := fun j x hj => by
  have := h (k + j) x (by rw [← hj, List.getElem?_drop])
  rw [Nat.zero_add] at this
  exact this
theorem irow_take {w : World} {g k : Nat} {l : List Int} (h : IRow w g 0 l) : IRow w g 0 (l.take k) := fun j x hj => by
  rw [List.getElem?_take] at hj
  split at hj
  · exact h j x hj
  · simp at hj
theorem grow_app {w : World} {B n : Nat} {v : Value} {a b : List Int} (h : w.ownsRow B 2 1 v n (nums a ++ nums b)) (hn : n = (a ++ b).length) (hv : v ≠ .slice none 0 0) : Grow B w v (a ++ b) := by
  refine ⟨?_, hv⟩
  have e : nums (a ++ b) = nums a ++ nums b := by simp [nums]
  rw [e, ← hn]
  exact h

/-- A block of its own, of whatever type. -/
def BoxT (W : World) (b : Nat) (t : TypeId) (vs : Array Value) : Prop := W.heap[b]? = some (.cells vs t (0, 0))
theorem BoxT.lt {W : World} {b : Nat} {t : TypeId} {vs : Array Value} (h : BoxT W b t vs) : b < W.heap.size := (Array.getElem?_eq_some_iff.1 h).1
theorem BoxT.new (W : World) (t : TypeId) (vs : Array Value) : BoxT (W.alloc (.cells vs t)) W.heap.size t vs := heap_alloc_new W _
theorem BoxT.on {W W' : World} {b : Nat} {t : TypeId} {vs : Array Value} (h : BoxT W b t vs) (hb : Below W.heap.size W W') : BoxT W' b t vs := (hb.block b h.lt).trans h
theorem BoxT.kept {W W' : World} {row : Option Nat} {b : Nat} {t : TypeId} {vs : Array Value} (h : BoxT W b t vs) (hg : W.grownBy W' row) (hne : some b ≠ row) : BoxT W' b t vs := (hg.block b h.lt hne).trans h
theorem BoxT.not_row {W : World} {b : Nat} {t e : TypeId} {vs : Array Value} (h : BoxT W b t vs) (hte : t ≠ e) {base size k : Nat} {v : Value} {xs : List Value} (hr : W.ownsRow base e size v k xs) : some b ≠ v.ownBlock := by
  intro hb
  obtain ⟨_, ⟨rfl, _⟩ | ⟨g, cap, cur, rfl, _, hg, _⟩⟩ := hr
  · simp [Value.ownBlock] at hb
  · simp [Value.ownBlock] at hb
    subst hb
    have h' : W.heap[b]? = some (.cells vs t (0, 0)) := h
    rw [h'] at hg
    injection hg with hg
    injection hg with _ hg
    exact hte hg
theorem BoxT.cell {W : World} {b : Nat} {t : TypeId} {vs : Array Value} (h : BoxT W b t vs) {i : Nat} {x : Value} (hx : vs[i]? = some x) : W.cell? ⟨b, i, none⟩ = some x := by
  have h' : W.heap[b]? = some (.cells vs t (0, 0)) := h
  simp [World.cell?, h', hx]
/-- What an append onto a list of one's own keeps. -/
structure Kept (B : Nat) (W W' : World) : Prop where
  below : Below B W W'
  box : ∀ b t vs, t ≠ 2 → BoxT W b t vs → BoxT W' b t vs
theorem Kept.of {B : Nat} {W W' : World} (h : Below W.heap.size W W') (hB : B ≤ W.heap.size) : Kept B W W' := ⟨h.mono hB, fun _ _ _ _ h1 => h1.on h⟩
theorem Kept.refl (B : Nat) (W : World) : Kept B W W := ⟨Below.refl _ _, fun _ _ _ _ h => h⟩
theorem Kept.trans {B : Nat} {W W' W'' : World} (h : Kept B W W') (h' : Kept B W' W'') : Kept B W W'' := ⟨h.below.trans h'.below, fun b t vs ht hb => h'.box b t vs ht (h.box b t vs ht hb)⟩
theorem Kept.alloc {B : Nat} {W W' : World} (h : Kept B W W') (hB : B ≤ W.heap.size) (o : Obj) : Kept B W (W'.alloc o) := h.trans (Kept.of ((Below.refl _ _).alloc (Nat.le_refl _) _) (Nat.le_trans hB h.below.size))
theorem kept_grown {B : Nat} {W W' : World} {v : Value} {n : Nat} {xs : List Value} (hB : B ≤ W.heap.size) (hr : W.ownsRow B 2 1 v n xs) (hg : W.grownBy W' v.ownBlock) : Kept B W W' :=
  ⟨(Below.refl _ _).grown hg hB (fun k hk => (hr.lt k hk).1), fun _ _ _ ht hb => hb.kept hg (hb.not_row ht hr)⟩
theorem nums_app (l r : List Int) : nums (l ++ r) = nums l ++ nums r := by simp [nums]
theorem nums_length (l : List Int) : (nums l).length = l.length := by simp [nums]
theorem SI.none_nil {B : Nat} {w : World} {n cap : Nat} {l : List Int} (h : SI true B w (.slice none n cap) l) (hn : n = l.length) : l = [] ∧ n = 0 ∧ cap = 0 := by
  have hl : l = [] := by
    cases l with
    | nil => rfl
    | cons x l =>
      obtain ⟨b, o, he, _⟩ := SI.rows h (by simp)
      cases he
  subst hl
  subst hn
  refine ⟨rfl, rfl, ?_⟩
  rcases h with h | h
  all_goals simp_all
theorem grow_lit1 (w : World) (x : Int) : Grow w.heap.size (w.alloc (.cells #[.int .i64 x] 2)) (.slice (some ⟨w.heap.size, 0, none⟩) 1 1) [x] :=
  ⟨⟨by simp [nums], .inr ⟨w.heap.size, 1, _, rfl, Nat.le_refl _, heap_alloc_new w _, Nat.le_refl _, by decide, by simp, by simp [nums]⟩⟩, by simp⟩
theorem grow_lit2 (w : World) (x y : Int) : Grow w.heap.size (w.alloc (.cells #[.int .i64 x, .int .i64 y] 2)) (.slice (some ⟨w.heap.size, 0, none⟩) 2 2) [x, y] :=
  ⟨⟨by simp [nums], .inr ⟨w.heap.size, 2, _, rfl, Nat.le_refl _, heap_alloc_new w _, Nat.le_refl _, by decide, by simp, by simp [nums]⟩⟩, by simp⟩
theorem wpList_grow {w : World} {ops : Array Oper} {rest : List Oper} {o : Oper} {a : Act} {Q : Exit → Act → World → Prop} (hgd : o.guard = none) (s x : Operand)
    (ho : o.op = .call { callee := .builtin .append, args := #[s, x], argTypes := #[29, 29] })
    (B : Nat) (v : Value) (l : List Int) (hs : a.eval s = v) (hg : Grow B w v l) (hB : B ≤ w.heap.size)
    (z : Option Addr) (c B' : Nat) (r : List Int) (hx : a.eval x = .slice z r.length c) (hr : SI true B' w (.slice z r.length c) r) (hlen : l.length + r.length ≤ 1000)
    (h : ∀ v' w', Grow B w' v' (l ++ r) → Kept B w w' → wpList Tryz.prog ops Q rest (a.put o.dst v') w') : wpList Tryz.prog ops Q (o :: rest) a w := by
  obtain ⟨i0, hif, hz0, hz1, hz2⟩ := info_parts infoN
  cases z with
  | none =>
    obtain ⟨rfl, hn, rfl⟩ := SI.none_nil hr rfl
    refine wpList_append_own_none hgd s x 29 ho B 2 i0 1 Tryz.underlying29 hif v l.length (nums l) hs hg.1 hx ?_
    exact h v w (by rw [List.append_nil]; exact hg) (Kept.refl _ _)
  | some ad =>
    refine wpList_append_own w hgd s x 29 ho B 2 i0 (.int .i64 0) 1 8 Tryz.underlying29 hif hz0 hz1 hz2 rfl (by decide) v l.length (nums l) hs hg.1 ad r.length c (nums r) hx (by rw [nums_length, Nat.mul_one]) (SI.nums hr) (nums_one r) (by unfold maxLen; omega) (by omega) hB ?_
    intro v' w' hown hgrow hnil
    refine h v' w' ⟨?_, ?_⟩ (kept_grown hB hg.1 hgrow)
    · rw [List.length_append, nums_app]; exact hown
    · intro e; exact hg.2 (hnil.1 e).1

theorem growOn {B : Nat} {u v : World} {x : Value} {l : List Int} (h : Grow B u x l) (hb : Below u.heap.size u v) : Grow B v x l := ⟨ownOn h.1 hb, h.2⟩
theorem growBase {B B' : Nat} {w : World} {v : Value} {l : List Int} (h : Grow B w v l) (hB : B' ≤ B) : Grow B' w v l := ⟨ownBase h.1 hB, h.2⟩
theorem growForm {B : Nat} {w : World} {x : Value} {l : List Int} (h : Grow B w x l) : ∃ g cap, x = .slice (some ⟨g, 0, none⟩) l.length cap := by
  obtain ⟨g, c, hv, _⟩ := h.gint
  exact ⟨g, c, hv⟩
theorem allocBelow (u : World) (o : Obj) : Below u.heap.size u (u.alloc o) := (Below.refl _ _).alloc (Nat.le_refl _) _
theorem grow_empty (w : World) {B : Nat} (hB : B ≤ w.heap.size) : Grow B (w.alloc (.cells #[] 2)) (.slice (some ⟨w.heap.size, 0, none⟩) ([] : List Int).length 0) [] :=
  ⟨ownBase (World.ownsRow_made w #[] 0 (Nat.le_refl _) (by decide) (by simp)) hB, by simp⟩
end Pg
end Go.Proofs.YtbgbddahniacbaaGreatDoor
