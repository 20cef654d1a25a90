/- Plain facts on layouts: places, jumps that are too far, and that the least right layout is one alone. No program in it. -/
import Derived.Test.YtbachkjhmenhfaaTx
namespace Go.Proofs.Ytbachkjhmenhfaa
namespace Lay

def jumpB (op : Int) : Bool := decide (op = 11) || decide (op = 12)
def codeOk (l : List Tx.Ins) : Bool := decide (0 < l.length) && Tx.okC l && l.all (fun x => !(jumpB x.1) || decide (x.2.1 < (l.length : Int)))
/-- The bytes of a step, without what a wide jump has more. -/
def bytesF (op a : Int) : Int :=
  if op = 1 then (if -128 ≤ a ∧ a ≤ 127 then 2 else 5)
  else if op = 2 ∨ op = 3 ∨ op = 11 ∨ op = 12 ∨ op = 14 ∨ op = 15 ∨ op = 16 then 2 else if op = 17 then 3 else 1
theorem bytes_bd (op a : Int) : 1 ≤ bytesF op a ∧ bytesF op a ≤ 5 := by unfold bytesF; (repeat' split) <;> omega

theorem ok_len {l : List Tx.Ins} (h : codeOk l = true) : 0 < l.length ∧ l.length ≤ 40 := by
  unfold codeOk Tx.okC at h
  simp only [Bool.and_eq_true, decide_eq_true_eq] at h
  exact ⟨h.1.1, h.1.2.1⟩
theorem ok_each {l : List Tx.Ins} (h : codeOk l = true) : Tx.okC l = true := by
  unfold codeOk at h
  simp only [Bool.and_eq_true, decide_eq_true_eq] at h
  exact h.1.2
theorem ok_at {l : List Tx.Ins} (h : codeOk l = true) {k : Nat} {x : Tx.Ins} (hx : l[k]? = some x) : Tx.okI x.1 x.2.1 x.2.2 = true := by
  have h1 := ok_each h
  unfold Tx.okC at h1
  simp only [Bool.and_eq_true, decide_eq_true_eq] at h1
  exact List.all_eq_true.1 h1.2 x (List.mem_of_getElem? hx)
theorem ok_jump {l : List Tx.Ins} (h : codeOk l = true) {k : Nat} {x : Tx.Ins} (hx : l[k]? = some x) (hj : jumpB x.1 = true) : 0 ≤ x.2.1 ∧ x.2.1 < (l.length : Int) := by
  have h0 := ok_at h hx
  unfold codeOk at h
  simp only [Bool.and_eq_true] at h
  have h1 := List.all_eq_true.1 h.2 x (List.mem_of_getElem? hx)
  simp [hj] at h1
  refine ⟨?_, h1⟩
  unfold jumpB at hj
  unfold Tx.okI at h0
  have e : ¬ x.1 = 1 := by
    intro e; rw [e] at hj; simp at hj
  rw [if_neg e] at h0
  simp only [Bool.and_eq_true, decide_eq_true_eq] at h0
  exact h0.1.1.1

/-- How wide step k is laid: what is not told is short. -/
def wd (v : List Int) (k : Nat) : Int := (v[k]?).getD 0
def ins (l : List Tx.Ins) (k : Nat) : Tx.Ins := (l[k]?).getD (0, 0, 0)
def sz (l : List Tx.Ins) (v : List Int) (k : Nat) : Int := bytesF (ins l k).1 (ins l k).2.1 + wd v k
/-- Where step k begins. -/
def pl (l : List Tx.Ins) (v : List Int) : Nat → Int
  | 0 => 0
  | k + 1 => pl l v k + sz l v k
def places (l : List Tx.Ins) (v : List Int) : List Int := (List.range (l.length + 1)).map (pl l v)
theorem places_len (l : List Tx.Ins) (v : List Int) : (places l v).length = l.length + 1 := by simp [places]
theorem places_at {l : List Tx.Ins} {v : List Int} {k : Nat} (h : k ≤ l.length) : (places l v)[k]? = some (pl l v k) := by
  have : k < l.length + 1 := by omega
  simp [places, this]

/-- A layout of the code: a 0 or 1 for each step, 1 for jumps alone. -/
def Wide (l : List Tx.Ins) (v : List Int) : Prop := v.length = l.length ∧ ∀ k, wd v k = 0 ∨ (wd v k = 1 ∧ jumpB (ins l k).1 = true)
def dist (l : List Tx.Ins) (v : List Int) (k : Nat) : Int := pl l v (ins l k).2.1.toNat - pl l v k
def offB (d : Int) : Bool := decide (d < -16) || decide (15 < d)
/-- A short jump that goes too far. -/
def far (l : List Tx.Ins) (v : List Int) (k : Nat) : Bool := jumpB (ins l k).1 && decide (wd v k = 0) && offB (dist l v k)
def Right (l : List Tx.Ins) (v : List Int) : Prop := Wide l v ∧ ∀ k, k < l.length → far l v k = false
def Le (v u : List Int) : Prop := ∀ k, wd v k ≤ wd u k

theorem pl_bd {l : List Tx.Ins} {v : List Int} (h : ∀ k, wd v k = 0 ∨ wd v k = 1) : ∀ k, 0 ≤ pl l v k ∧ pl l v k ≤ 6 * k := by
  intro k
  induction k with
  | zero => simp [pl]
  | succ k ih =>
    have := bytes_bd (ins l k).1 (ins l k).2.1
    have := h k
    simp only [pl, sz]
    omega
theorem Wide.bit {l : List Tx.Ins} {v : List Int} (h : Wide l v) (k : Nat) : wd v k = 0 ∨ wd v k = 1 := by
  rcases h.2 k with e | e
  · exact Or.inl e
  · exact Or.inr e.1
/-- From one place to a later one: at least nothing, and with more wide ones no less. -/
theorem span {l : List Tx.Ins} {v u : List Int} (hv : ∀ k, wd v k = 0 ∨ wd v k = 1) (h : Le v u) (a : Nat) : ∀ n, 0 ≤ pl l v (a + n) - pl l v a ∧ pl l v (a + n) - pl l v a ≤ pl l u (a + n) - pl l u a := by
  intro n
  induction n with
  | zero => simp
  | succ n ih =>
    have h1 := bytes_bd (ins l (a + n)).1 (ins l (a + n)).2.1
    have h2 := hv (a + n)
    have h3 := h (a + n)
    rw [← Nat.add_assoc]
    simp only [pl, sz]
    omega
theorem off_mono {l : List Tx.Ins} {v u : List Int} (hv : ∀ k, wd v k = 0 ∨ wd v k = 1) (h : Le v u) (k : Nat) (ho : offB (dist l v k) = true) : offB (dist l u k) = true := by
  unfold offB dist at *
  simp only [Bool.or_eq_true, decide_eq_true_eq] at *
  by_cases hk : k ≤ (ins l k).2.1.toNat
  · have := span (l := l) hv h k ((ins l k).2.1.toNat - k)
    rw [show k + ((ins l k).2.1.toNat - k) = (ins l k).2.1.toNat by omega] at this
    omega
  · have := span (l := l) hv h (ins l k).2.1.toNat (k - (ins l k).2.1.toNat)
    rw [show (ins l k).2.1.toNat + (k - (ins l k).2.1.toNat) = k by omega] at this
    omega
/-- What is too far in a layout is wide in each right one that has all its wide ones. -/
theorem forced {l : List Tx.Ins} {v u : List Int} (hv : ∀ k, wd v k = 0 ∨ wd v k = 1) (h : Le v u) (hu : Right l u) {k : Nat} (hk : k < l.length) (hf : far l v k = true) : wd u k = 1 := by
  rcases hu.1.2 k with e | e
  · exfalso
    have h1 := hu.2 k hk
    unfold far at h1 hf
    simp only [Bool.and_eq_true, decide_eq_true_eq] at hf
    have h2 := off_mono hv h k hf.2
    rw [hf.1.1, h2, e] at h1
    simp at h1
  · exact e.1

/-- All wide ones of the layout are wide in each right one. -/
def Below1 (l : List Tx.Ins) (v : List Int) : Prop := ∀ u, Right l u → Le v u
def Least (l : List Tx.Ins) (v : List Int) : Prop := Right l v ∧ Below1 l v

theorem wd_set (v : List Int) (k j : Nat) (x : Int) (hk : k < v.length) : wd (v.set k x) j = if j = k then x else wd v j := by
  unfold wd
  rw [List.getElem?_set]
  by_cases e : k = j
  · subst e; simp [hk]
  · simp [e, Ne.symm e]
theorem wide_set {l : List Tx.Ins} {v : List Int} (h : Wide l v) {k : Nat} (hk : k < l.length) (hj : jumpB (ins l k).1 = true) : Wide l (v.set k 1) := by
  refine ⟨by rw [List.length_set]; exact h.1, fun j => ?_⟩
  rw [wd_set _ _ _ _ (by rw [h.1]; exact hk)]
  split
  · rename_i e; subst e; exact Or.inr ⟨rfl, hj⟩
  · exact h.2 j
theorem le_set {l : List Tx.Ins} {v : List Int} (h : Wide l v) {k : Nat} (hk : k < l.length) : Le v (v.set k 1) := by
  intro j
  rw [wd_set _ _ _ _ (by rw [h.1]; exact hk)]
  split
  · rename_i e; subst e; rcases h.bit j with e | e <;> omega
  · exact Int.le_refl _
theorem Le.trans {a b c : List Int} (h : Le a b) (k : Le b c) : Le a c := fun j => Int.le_trans (h j) (k j)
theorem Le.refl (a : List Int) : Le a a := fun _ => Int.le_refl _
/-- One more wide one that an earlier layout of the run made wide. -/
theorem below_set {l : List Tx.Ins} {v0 v : List Int} (h0 : Wide l v0) (hv : Wide l v) (hle : Le v0 v) (hb : Below1 l v) {k : Nat} (hk : k < l.length) (hf : far l v0 k = true) : Below1 l (v.set k 1) := by
  intro u hu j
  rw [wd_set _ _ _ _ (by rw [hv.1]; exact hk)]
  split
  · rename_i e
    subst e
    rw [forced h0.bit (hle.trans (hb u hu)) hu hk hf]
    exact Int.le_refl _
  · exact hb u hu j
theorem zeros_wd (n k : Nat) : wd (List.replicate n (0 : Int)) k = 0 := by
  unfold wd
  rw [List.getElem?_replicate]
  split <;> rfl
theorem zeros_wide (l : List Tx.Ins) : Wide l (List.replicate l.length 0) := ⟨by simp, fun k => Or.inl (zeros_wd _ _)⟩
theorem zeros_below (l : List Tx.Ins) : Below1 l (List.replicate l.length 0) := by
  intro u hu k
  rw [zeros_wd]
  rcases hu.1.bit k with e | e <;> omega
theorem wd_ext {v u : List Int} (hl : v.length = u.length) (h : ∀ k, wd v k = wd u k) : v = u := by
  apply List.ext_getElem hl
  intro k h1 h2
  have := h k
  unfold wd at this
  rw [List.getElem?_eq_getElem h1, List.getElem?_eq_getElem h2] at this
  simpa using this
theorem least_one {l : List Tx.Ins} {v u : List Int} (hv : Least l v) (hu : Least l u) : v = u :=
  wd_ext (hv.1.1.1.trans hu.1.1.1.symm) fun k => Int.le_antisymm (hv.2 u hu.1 k) (hu.2 v hv.1 k)

/-- How many are short still. -/
def shorts (v : List Int) : Nat := v.count 0
theorem shorts_set {v : List Int} {k : Nat} (hk : k < v.length) (h : wd v k = 0) : shorts (v.set k 1) < shorts v := by
  have e : v[k] = 0 := by
    unfold wd at h
    rw [List.getElem?_eq_getElem hk] at h
    simpa using h
  unfold shorts
  rw [List.count_set hk, e]
  have : 0 < v.count 0 := List.count_pos_iff.2 (e ▸ List.getElem_mem hk)
  simp
  omega
theorem far_wd {l : List Tx.Ins} {v : List Int} {k : Nat} (h : far l v k = true) : wd v k = 0 ∧ jumpB (ins l k).1 = true := by
  unfold far at h
  simp only [Bool.and_eq_true, decide_eq_true_eq] at h
  exact ⟨h.1.2, h.1.1⟩

/-- The layout of the code: the first that is too far made wide, so many times. -/
def run (l : List Tx.Ins) : Nat → List Int → List Int
  | 0, v => v
  | n + 1, v => match (List.range l.length).find? (far l v) with
    | some k => run l n (v.set k 1)
    | none => v
def layF (l : List Tx.Ins) : List Int := run l l.length (List.replicate l.length 0)
theorem run_least (l : List Tx.Ins) : ∀ (n : Nat) (v : List Int), Wide l v → Below1 l v → shorts v ≤ n → Least l (run l n v)
  | 0, v, hw, hb, hs => by
    refine ⟨⟨hw, fun k hk => ?_⟩, hb⟩
    cases hf : far l v k
    · exact hf
    · have hk' : k < v.length := by rw [hw.1]; exact hk
      have := shorts_set hk' (far_wd hf).1
      omega
  | n + 1, v, hw, hb, hs => by
    unfold run
    split
    · rename_i k hk
      have hf := List.find?_some hk
      have hm := List.mem_of_find?_eq_some hk
      rw [List.mem_range] at hm
      refine run_least l n _ (wide_set hw hm (far_wd hf).2) (below_set hw hw (Le.refl _) hb hm hf) ?_
      have := shorts_set (k := k) (by rw [hw.1]; exact hm) (far_wd hf).1
      omega
    · rename_i hn
      refine ⟨⟨hw, fun k hk => ?_⟩, hb⟩
      have := List.find?_eq_none.1 hn k (List.mem_range.2 hk)
      simpa using this
theorem least_lay (l : List Tx.Ins) : Least l (layF l) :=
  run_least l _ _ (zeros_wide l) (zeros_below l) (by simp [shorts])
theorem lay_of {l : List Tx.Ins} {v : List Int} (h : Least l v) : v = layF l := least_one h (least_lay l)
theorem lay_len (l : List Tx.Ins) : (layF l).length = l.length := (least_lay l).1.1.1

/-- Whether a row of numbers is a layout of the code. -/
def wideB (l : List Tx.Ins) (v : List Int) : Bool := decide (v.length = l.length) && (List.range v.length).all fun k => decide (wd v k = 0) || (decide (wd v k = 1) && jumpB (ins l k).1)
theorem wide_iff (l : List Tx.Ins) (v : List Int) : wideB l v = true ↔ Wide l v := by
  unfold wideB Wide
  simp only [Bool.and_eq_true, decide_eq_true_eq, List.all_eq_true, List.mem_range, Bool.or_eq_true]
  constructor
  · rintro ⟨h, k⟩
    refine ⟨h, fun j => ?_⟩
    by_cases hj : j < v.length
    · exact k j hj
    · left; unfold wd; rw [List.getElem?_eq_none (by omega)]; rfl
  · rintro ⟨h, k⟩
    exact ⟨h, fun j _ => k j⟩
def rightB (l : List Tx.Ins) (v : List Int) : Bool := wideB l v && (List.range l.length).all fun k => !(far l v k)
theorem right_iff (l : List Tx.Ins) (v : List Int) : rightB l v = true ↔ Right l v := by
  unfold rightB Right
  simp only [Bool.and_eq_true, wide_iff, List.all_eq_true, List.mem_range, Bool.not_eq_true']
end Lay
end Go.Proofs.Ytbachkjhmenhfaa
