/- The contracts of Over, of the program and of its specification. -/
import Derived.Test.YtffkkhaiedhaiaaJStep0
import Derived.Test.YtffkkhaiedhaiaaJKp0
import Derived.Test.YtffkkhaiedhaiaaJAr0
import Derived.Lib.SliceRun
import Derived.Maps.OwnSet
import Derived.Maps.RangeWalk
import Derived.DeepKeys4
namespace Go.Proofs.Ytffkkhaiedhaiaa
namespace Wd
open Go.ChangeShapes Go.WideShapes Go.ChangeAt Go.RowKit

end Wd
end Go.Proofs.Ytffkkhaiedhaiaa

/- Contracts: the program's Folded. -/
namespace Go.Proofs.Ytffkkhaiedhaiaa
namespace Pg
open Go.ChangeShapes Go.WideShapes Go.ChangeAt Go.RowKit St Wd

end Pg
end Go.Proofs.Ytffkkhaiedhaiaa

/- Maps keyed by spots: what they hold, in words. -/
namespace Go.Proofs.Ytffkkhaiedhaiaa
namespace Pg
open Go.ChangeShapes Go.WideShapes Go.ChangeAt Go.RowKit St Wd

/-- A spot, as a value and as a key. -/
abbrev spV (i s : Int) : Value := .agg #[.int .i64 i, .int .i64 s]
def spK (i s : Int) : Lit := .string (keyBytes [.int .i64 i, .int .i64 s])
theorem laidOutK : laidOutB Try.prog = true := by kernel_rfl
theorem rowK : (102 : TypeId) < Try.prog.types.size := of_decide_eq_true (by kernel_rfl)
theorem wideK : (match Try.prog.underlying 102 with | some (.array _ _) | some (.struct _) => true | _ => false) = true := by rw [Try.underlying102]
set_option maxRecDepth 100000 in
theorem keyedK : Maps.Keyed Try.prog 102 := Maps.Keyed.of_law (deep_law_laid laidOutK (m := 3) (by omega) rowK (by kernel_rfl) wideK)
theorem cellsK : Try.prog.cellsOf 102 = 2 := by kernel_rfl
theorem cellsI64 : Try.prog.cellsOf 2 = 1 := by kernel_rfl
theorem keyTypeK : Try.prog.keyType 102 = true := by kernel_rfl
theorem sizeT : Try.prog.types.size = 170 := by kernel_rfl
theorem wf64 {n : Int} (h1 : -9223372036854775808 ≤ n) (h2 : n ≤ 9223372036854775807) : (Lit.int .i64 n).wf = true := by
  have e1 : IntKind.i64.min = -9223372036854775808 := rfl
  have e2 : IntKind.i64.max = 9223372036854775807 := rfl
  simp [Lit.wf, e1, e2]; omega
theorem wf64n {n : Nat} (h : n < 1000) : (Lit.int .i64 (n : Int)).wf = true := wf64 (by omega) (by omega)
theorem lits2 (d : Nat) (a b : Value) : Try.prog.keyLits (d + 2) 102 [a, b] = (Try.prog.keyLits (d + 1) 2 [a]).bind fun x => (Try.prog.keyLits (d + 1) 2 [b]).map fun y => x ++ y := by
  conv => lhs; unfold Program.keyLits
  simp only [Try.underlying102, cellsK]
  cases h1 : Try.prog.keyLits (d + 1) 2 [a] <;> cases h2 : Try.prog.keyLits (d + 1) 2 [b] <;> simp [cellsI64, h1, h2]
theorem lits1 (d : Nat) {n : Int} (h : (Lit.int .i64 n).wf = true) : Try.prog.keyLits (d + 1) 2 [.int .i64 n] = some [.int .i64 n] := by
  unfold Program.keyLits
  simp [Try.underlying2, h]
theorem lits1_inv (d : Nat) {a : Value} {x : List Lit} (h : Try.prog.keyLits (d + 1) 2 [a] = some x) : ∃ n : Int, a = .int .i64 n ∧ (Lit.int .i64 n).wf = true := by
  unfold Program.keyLits at h
  cases a <;> simp [Try.underlying2] at h
  rename_i q n
  obtain ⟨⟨rfl, hw⟩, _⟩ := h
  exact ⟨n, rfl, hw⟩
set_option maxRecDepth 100000 in
theorem keyOf_sp {i s : Int} (hi : (Lit.int .i64 i).wf = true) (hs : (Lit.int .i64 s).wf = true) : keyOf Try.prog 102 (spV i s) = some (spK i s) := by
  unfold keyOf
  rw [Try.underlying102]
  have hf : (spV i s).formed Try.prog 102 = true := by simp [Value.formed, Try.underlying102, cellsK]
  have hl : Try.prog.keyLits (Try.prog.types.size + 1) 102 (spV i s).cells.toList = some [.int .i64 i, .int .i64 s] := by
    rw [sizeT]
    show Try.prog.keyLits ((170 - 1) + 2) 102 [.int .i64 i, .int .i64 s] = _
    rw [lits2, lits1 _ hi, lits1 _ hs]
    rfl
  simp only [keyTypeK, hf, hl]
  rfl
set_option maxRecDepth 100000 in
theorem keyOf_sp_inv {key : Value} {kl : Lit} (h : keyOf Try.prog 102 key = some kl) : ∃ x : Int × Int, key = spV x.1 x.2 ∧ kl = spK x.1 x.2 ∧ (Lit.int .i64 x.1).wf = true ∧ (Lit.int .i64 x.2).wf = true := by
  have h0 := h
  unfold keyOf at h
  rw [Try.underlying102] at h
  simp only [keyTypeK, sizeT] at h
  split at h
  · rename_i hf
    simp only [Bool.true_and] at hf
    cases key <;> simp [Value.formed, Try.underlying102, cellsK] at hf
    rename_i cs
    obtain ⟨l⟩ := cs
    match l, hf with
    | [a, b], _ =>
      cases hq : Try.prog.keyLits ((170 - 1) + 2) 102 [a, b] with
      | none => change Option.map _ (Try.prog.keyLits ((170 - 1) + 2) 102 [a, b]) = _ at h; rw [hq] at h; simp at h
      | some ls =>
        rw [lits2] at hq
        cases h1 : Try.prog.keyLits ((170 - 1) + 1) 2 [a] with
        | none => rw [h1] at hq; simp at hq
        | some x =>
          cases h2 : Try.prog.keyLits ((170 - 1) + 1) 2 [b] with
          | none => rw [h1, h2] at hq; simp at hq
          | some y =>
            obtain ⟨n, rfl, hn⟩ := lits1_inv _ h1
            obtain ⟨m, rfl, hm⟩ := lits1_inv _ h2
            refine ⟨(n, m), rfl, ?_, hn, hm⟩
            have := keyOf_sp hn hm
            rw [show (Value.agg { toList := [.int .i64 n, .int .i64 m] }) = spV n m from rfl, this] at h0
            exact (Option.some.inj h0).symm
  · simp at h
theorem spK_inj {i s i' s' : Nat} (hi : i < 1000) (hs : s < 1000) (hi' : i' < 1000) (hs' : s' < 1000) (h : spK i s = spK i' s') : i = i' ∧ s = s' := by
  have h1 := keyOf_sp (wf64n hi) (wf64n hs)
  have h2 := keyOf_sp (wf64n hi') (wf64n hs')
  rw [h] at h1
  have := keyedK.inj h1 h2
  simp [spV] at this
  omega
theorem spK_key {i s : Nat} (hi : i < 1000) (hs : s < 1000) : WideAt.IsKeyLit (spK i s) := keyedK.key (keyOf_sp (wf64n hi) (wf64n hs))
theorem mapT : Try.prog.underlying 98 = some (.map 102 2) := Try.underlying98
theorem zeroI (w : World) : (zeroValue 2).run Try.prog w = .ok (.int .i64 0) w := by kernel_rfl
/-- How many spots a map has. -/
def bitO (a : Option Int) : Nat := if a = none then 0 else 1
def cntR (m : Kw) (i : Nat) : Nat := ((List.range 8).map fun s => bitO (m i s)).sum
def cntK (m : Kw) : Nat := ((List.range 40).map fun i => cntR m i).sum
theorem sum_upd {f g : Nat → Nat} {k : Nat} (h : ∀ j, j ≠ k → f j = g j) (hk : g k = f k + 1) : ∀ n, k < n → ((List.range n).map g).sum = ((List.range n).map f).sum + 1
  | 0, hn => by omega
  | n + 1, hn => by
    rw [List.range_succ, List.map_append, List.map_append, List.sum_append, List.sum_append]
    by_cases e : n = k
    · subst e
      have : (List.range n).map g = (List.range n).map f := List.map_congr_left fun j hj => (h j (by have := List.mem_range.1 hj; omega)).symm
      rw [this]
      simp [hk]
      omega
    · have := sum_upd h hk n (by omega)
      rw [this]
      simp [h n e]
      omega
theorem sum_nil {f : Nat → Nat} {n : Nat} (h : ((List.range n).map f).sum = 0) {k : Nat} (hk : k < n) : f k = 0 := by
  induction n with
  | zero => omega
  | succ n ih =>
    rw [List.range_succ, List.map_append, List.sum_append] at h
    by_cases e : k = n
    · subst e; simp at h; omega
    · exact ih (by omega) (by omega)
theorem cntK_le (m : Kw) : cntK m ≤ 320 := by
  have h1 : ∀ i, cntR m i ≤ 8 := fun i => by
    have := sum_bd (f := fun s => bitO (m i s)) (c := 1) (fun s => by unfold bitO; split <;> omega) (List.range 8)
    simpa [cntR] using this
  have := sum_bd h1 (List.range 40)
  simpa [cntK] using this
theorem cntK_set {m : Kw} {i s : Nat} (hi : i < 40) (hs : s < 8) (v : Int) : cntK (setK m i s v) = if m i s = none then cntK m + 1 else cntK m := by
  split
  · rename_i hn
    refine sum_upd (k := i) (fun j hj => ?_) ?_ 40 hi
    · unfold cntR setK
      congr 1
      exact List.map_congr_left fun s' _ => by simp [hj]
    · refine sum_upd (k := s) (fun j hj => ?_) ?_ 8 hs
      · simp [setK, hj]
      · simp [setK, hn, bitO]
  · rename_i hn
    unfold cntK cntR
    congr 1
    refine List.map_congr_left fun a _ => ?_
    congr 1
    refine List.map_congr_left fun b _ => ?_
    unfold setK bitO
    by_cases e : a = i ∧ b = s
    · obtain ⟨rfl, rfl⟩ := e; simp [hn]
    · simp [e]
theorem cntK_zero {m : Kw} (h : cntK m = 0) {i s : Nat} (hi : i < 40) (hs : s < 8) : m i s = none := by
  have h1 := sum_nil h hi
  have h2 := sum_nil (f := fun s => bitO (m i s)) h1 hs
  unfold bitO at h2
  split at h2
  · assumption
  · omega
def in40 (m : Kw) : Prop := ∀ i s, m i s ≠ none → i < 40 ∧ s < 8
theorem none_ext {m : Kw} (hin : in40 m) (h : cntK m = 0) : m = noneK := by
  funext i s
  by_cases e : i < 40 ∧ s < 8
  · exact cntK_zero h e.1 e.2
  · cases hm : m i s with
    | none => rfl
    | some v => exact absurd (hin i s (by rw [hm]; simp)) e
theorem in40_set {m : Kw} (h : in40 m) {i s : Nat} (hi : i < 40) (hs : s < 8) (v : Int) : in40 (setK m i s v) := fun a b hab => by
  unfold setK at hab
  split at hab
  · rename_i e; rw [e.1, e.2]; exact ⟨hi, hs⟩
  · exact h a b hab
/-- The words of a map are words of 64 bits. -/
def wfK (m : Kw) : Prop := ∀ i s v, m i s = some v → -9223372036854775808 ≤ v ∧ v ≤ 9223372036854775807
theorem wfK_set {m : Kw} (h : wfK m) (i s : Nat) {v : Int} (h1 : -9223372036854775808 ≤ v) (h2 : v ≤ 9223372036854775807) : wfK (setK m i s v) := fun a b x hx => by
  unfold setK at hx
  split at hx
  · injection hx with hx; subst hx; exact ⟨h1, h2⟩
  · exact h a b x hx
/-- The datum holds just what the map holds. -/
structure Rep (D : DataW Unit) (m : Kw) : Prop where
  has : ∀ i s : Nat, i < 40 → s < 8 → Maps.has D (spK i s) = (m i s).isSome
  val : ∀ (i s : Nat) (v : Int), m i s = some v → ∀ z, D.atKey (spK i s) z = .lit (.int .i64 v)
  keys : ∀ k, Maps.has D k = true → ∃ i s : Nat, i < 40 ∧ s < 8 ∧ k = spK i s
  inn : in40 m
  wf : wfK m
  size : Maps.size D = cntK m
def KM (w : World) (b : Nat) (m : Kw) : Prop := ∃ D : DataW Unit, w.ownsMap Try.prog 102 (plainElem Try.prog 2) b 400 D ∧ Rep D m
theorem KM.kept {w w' : World} {b : Nat} {m : Kw} {row : Option Nat} (h : KM w b m) (hg : w.grownBy w' row) (hne : some b ≠ row) : KM w' b m := by
  obtain ⟨D, h1, h2⟩ := h
  exact ⟨D, h1.kept hg hne, h2⟩
theorem KM.lt {w : World} {b : Nat} {m : Kw} (h : KM w b m) : b < w.heap.size := by
  obtain ⟨D, h1, _⟩ := h
  exact h1.lt
theorem gb_of {w w' : World} (h : Below w.heap.size w w') (row : Option Nat) : w.grownBy w' row := ⟨h.os, h.tape, h.output, h.size, fun k hk _ => h.block k hk⟩
theorem KM.on {w w' : World} {b : Nat} {m : Kw} (h : KM w b m) (hb : Below w.heap.size w w') : KM w' b m := h.kept (gb_of hb none) (by simp)
theorem own400 {w : World} {b n : Nat} {D : DataW Unit} (h : w.ownsMap Try.prog 102 (plainElem Try.prog 2) b n D) (hs : Maps.size D ≤ 400) : w.ownsMap Try.prog 102 (plainElem Try.prog 2) b 400 D := by
  obtain ⟨es, clock, h1, h2, h3, rfl⟩ := h
  refine ⟨es, clock, h1, h2, ?_, rfl⟩
  rw [Maps.size_eq, length_sorted] at hs
  simpa using hs
theorem rep_nil : Rep (.map []) noneK := by
  refine ⟨fun i s _ _ => rfl, fun i s v h => by simp [noneK] at h, fun k h => by simp [Maps.has_eq] at h, fun i s h => by simp [noneK] at h, fun i s v h => by simp [noneK] at h, ?_⟩
  have : cntK noneK = 0 := by
    unfold cntK cntR noneK bitO
    decide
  rw [this]; rfl
theorem Rep.put {D : DataW Unit} {m : Kw} (h : Rep D m) (hm : Maps.Tidy D) {i s : Nat} (hi : i < 40) (hs : s < 8) {v : Int} (h1 : -9223372036854775808 ≤ v) (h2 : v ≤ 9223372036854775807) : Rep (D.put (spK i s) (.lit (.int .i64 v))) (setK m i s v) := by
  have hk := spK_key (i := i) (s := s) (by omega) (by omega)
  have hne : ∀ a b : Nat, a < 40 → b < 8 → ¬ (a = i ∧ b = s) → spK a b ≠ spK i s := fun a b ha hb hn e => hn (spK_inj (by omega) (by omega) (by omega) (by omega) e)
  refine ⟨fun a b ha hb => ?_, fun a b x hx z => ?_, fun k hk' => ?_, in40_set h.inn hi hs v, wfK_set h.wf i s h1 h2, ?_⟩
  · by_cases e : a = i ∧ b = s
    · obtain ⟨rfl, rfl⟩ := e
      rw [Maps.has_put_same hm.isMap hk]
      simp [setK]
    · rw [Maps.has_put_other (hne a b ha hb e), h.has a b ha hb]
      simp [setK, e]
  · by_cases e : a = i ∧ b = s
    · obtain ⟨rfl, rfl⟩ := e
      rw [Maps.atKey_put_same hm.isMap hk]
      simp [setK] at hx
      rw [hx]
    · have hx' : m a b = some x := by simpa [setK, e] using hx
      obtain ⟨ha, hb⟩ := h.inn a b (by rw [hx']; simp)
      rw [Maps.atKey_put_other (hne a b ha hb e)]
      exact h.val a b x hx' z
  · by_cases e : k = spK i s
    · exact ⟨i, s, hi, hs, e⟩
    · rw [Maps.has_put_other e] at hk'
      exact h.keys k hk'
  · rw [Maps.size_put hm, cntK_set hi hs, h.has i s hi hs, h.size]
    cases m i s <;> simp
end Pg
end Go.Proofs.Ytffkkhaiedhaiaa
