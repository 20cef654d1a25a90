/- A right machine stays right through a step, plainly. -/
import Derived.Test.YtinanjjhkddikaaGreatJMs0
namespace Go.Proofs.YtinanjjhkddikaaGreat
namespace Pg
open Go.ChangeShapes Go.WideShapes Go.ChangeAt Go.RowKit St Wd

def VsOk (l : List Vl) : Prop := ∀ v ∈ l, valB v = true
structure FrOk (f : Fr) : Prop where
  s8 : f.stk.length ≤ 8
  l8 : f.loc.length = 8
  sv : VsOk f.stk
  lv : VsOk f.loc
structure Core (m : Mc) : Prop where
  h50 : m.heap.length ≤ 50
  f30 : m.frames.length ≤ 30
  s20 : m.said.length ≤ 20000
  ob : ∀ o ∈ m.heap, o.flds.length ≤ 24 ∧ VsOk o.flds
  fr : ∀ f ∈ m.frames, FrOk f
  sd : ∀ x ∈ m.said, okB x = true
theorem frB_iff (f : Fr) : frB f = true ↔ FrOk f := by
  unfold frB
  simp only [Bool.and_eq_true, decide_eq_true_eq, List.all_eq_true]
  exact ⟨fun h => ⟨h.1.1.1, h.1.1.2, h.1.2, h.2⟩, fun h => ⟨⟨⟨h.s8, h.l8⟩, h.sv⟩, h.lv⟩⟩
theorem mach_core (m : Mc) : machB m = true ↔ Core m ∧ 0 ≤ m.fin ∧ m.fin ≤ 6 ∧ (m.fin = 0 → m.frames ≠ []) := by
  unfold machB obB
  simp only [Bool.and_eq_true, decide_eq_true_eq, List.all_eq_true, Bool.not_eq_true', Bool.and_eq_false_iff, decide_eq_false_iff_not, frB_iff]
  constructor
  · rintro ⟨⟨⟨⟨⟨⟨⟨⟨a, b⟩, c⟩, d⟩, e⟩, f⟩, g⟩, h⟩, i⟩
    exact ⟨⟨d, e, f, g, h, i⟩, a, b, fun h0 hn => c.elim (fun c => c h0) fun c => c (by rw [hn]; rfl)⟩
  · rintro ⟨⟨d, e, f, g, h, i⟩, a, b, c⟩
    refine ⟨⟨⟨⟨⟨⟨⟨⟨a, b⟩, ?_⟩, d⟩, e⟩, f⟩, g⟩, h⟩, i⟩
    by_cases h0 : m.fin = 0
    · exact .inr fun hn => c h0 (List.length_eq_zero_iff.1 hn)
    · exact .inl h0
/-- What a step leaves. -/
structure StepOk (r : Mc × Int) : Prop where
  core : Core r.1
  e0 : 0 ≤ r.2
  e6 : r.2 ≤ 6
  on : r.2 = 0 → r.1.frames ≠ []
theorem StepOk.fin {r : Mc × Int} (h : StepOk r) : machB { r.1 with fin := r.2 } = true :=
  (mach_core _).2 ⟨⟨h.core.h50, h.core.f30, h.core.s20, h.core.ob, h.core.fr, h.core.sd⟩, h.e0, h.e6, h.on⟩
theorem stop_ok {m : Mc} (hm : Core m) {e : Int} (h1 : 1 ≤ e) (h6 : e ≤ 6) : StepOk (m, e) := ⟨hm, by dsimp only; omega, h6, fun h => by dsimp only at h; omega⟩
theorem val_word {a : Int} (h1 : -2147483648 ≤ a) (h2 : a ≤ 2147483647) : valB (1, a) = true := by simp [valB, okB, h1, h2]
theorem val_wrap (a : Int) : valB (1, wrap32 a) = true := val_word (by unfold wrap32; omega) (by unfold wrap32; omega)
theorem val_null : valB (3, 0) = true := by decide
theorem val_ref (n : Nat) : valB (2, (n : Int)) = true := by simp [valB]
theorem word_of {v : Vl} (h : valB v = true) (h1 : v.1 = 1) : okB v.2 = true := by
  unfold valB at h
  rwa [if_pos h1] at h
theorem vs_take {l : List Vl} (h : VsOk l) (n : Nat) : VsOk (l.take n) := fun v hv => h v (List.mem_of_mem_take hv)
theorem vs_drop {l : List Vl} (h : VsOk l) (n : Nat) : VsOk (l.drop n) := fun v hv => h v (List.mem_of_mem_drop hv)
theorem vs_app {l k : List Vl} (h : VsOk l) (h' : VsOk k) : VsOk (l ++ k) := fun v hv => (List.mem_append.1 hv).elim (h v) (h' v)
theorem vs_nil : VsOk [] := fun _ h => by simp at h
theorem vs_one {v : Vl} (h : valB v = true) : VsOk [v] := fun x hx => by simp at hx; rw [hx]; exact h
theorem vs_two {v u : Vl} (h : valB v = true) (h' : valB u = true) : VsOk [v, u] := fun x hx => by
  simp at hx
  rcases hx with rfl | rfl
  · exact h
  · exact h'
theorem vs_at {l : List Vl} (h : VsOk l) {k : Nat} (hk : k < l.length) : valB ((l[k]?).getD (0, 0)) = true := by
  rw [List.getElem?_eq_getElem hk]
  exact h _ (List.getElem_mem hk)
theorem vs_set {l : List Vl} (h : VsOk l) {v : Vl} (hv : valB v = true) (k : Nat) : VsOk (l.set k v) := fun x hx => by
  rcases List.mem_or_eq_of_mem_set hx with hx | hx
  · exact h x hx
  · rw [hx]; exact hv
theorem vs_frm {l : List Vl} (h : VsOk l) : VsOk (frmV l) := vs_app h fun v hv => by
  rw [List.mem_replicate] at hv
  rw [hv.2]; decide
theorem topV_at (l : List Vl) : topV l = (l[l.length - 1]?).getD (0, 0) := by unfold topV; rw [List.getLast?_eq_getElem?]
theorem nextV_at {l : List Vl} (h : 2 ≤ l.length) : nextV l = (l[l.length - 2]?).getD (0, 0) := by
  unfold nextV
  rw [List.getLast?_eq_getElem?, List.length_dropLast, List.getElem?_dropLast, if_pos (by omega), show l.length - 1 - 1 = l.length - 2 by omega]
theorem top_ok {l : List Vl} (h : VsOk l) (h1 : 1 ≤ l.length) : valB (topV l) = true := by rw [topV_at]; exact vs_at h (by omega)
theorem next_ok {l : List Vl} (h : VsOk l) (h1 : 2 ≤ l.length) : valB (nextV l) = true := by rw [nextV_at h1]; exact vs_at h (by omega)
theorem on_ok {m : Mc} (hm : Core m) (h1 : 1 ≤ m.frames.length) {f : Fr} (hf : FrOk f) {take : Nat} {put : List Vl} (pos : Int) (hp : VsOk put) (hl : f.stk.length - take + put.length ≤ 8) : StepOk (onS m f take put pos) := by
  refine ⟨⟨hm.h50, ?_, hm.s20, hm.ob, fun g hg => ?_, hm.sd⟩, Int.le_refl 0, show (0 : Int) ≤ 6 by decide, fun _ hn => ?_⟩
  · have := hm.f30
    simp only [onS, withTop, List.length_append, List.length_dropLast, List.length_singleton]
    omega
  · simp only [onS, withTop, List.mem_append, List.mem_singleton] at hg
    rcases hg with hg | hg
    · exact hm.fr g ((List.dropLast_sublist _).subset hg)
    · subst hg
      refine ⟨?_, hf.l8, vs_app (vs_take hf.sv _) hp, hf.lv⟩
      simp only [List.length_append, List.length_take]
      omega
  · simp [onS, withTop] at hn
theorem give_ok {m : Mc} (hm : Core m) {v : Vl} (hv : valB v = true) : StepOk (giveS m v) := by
  unfold giveS
  split
  · refine ⟨⟨hm.h50, by simp, hm.s20, hm.ob, fun g hg => by simp at hg, hm.sd⟩, by simp, by simp, fun h => by simp at h⟩
  · rename_i b hb
    have hbm : b ∈ m.frames.dropLast := List.mem_of_getLast? hb
    have hfb := hm.fr b ((List.dropLast_sublist _).subset hbm)
    have hne : m.frames.dropLast.length ≠ 0 := fun h => by rw [List.length_eq_zero_iff.1 h] at hbm; simp at hbm
    rw [List.length_dropLast] at hne
    split
    · exact stop_ok hm (by decide) (by decide)
    · rename_i h8
      have := hfb.s8
      have h30 := hm.f30
      refine ⟨⟨hm.h50, ?_, hm.s20, hm.ob, fun g hg => ?_, hm.sd⟩, Int.le_refl 0, show (0 : Int) ≤ 6 by decide, fun _ hn => by simp at hn⟩
      · simp only [List.length_append, List.length_dropLast, List.length_singleton]
        omega
      · simp only [List.mem_append, List.mem_singleton] at hg
        rcases hg with hg | hg
        · exact hm.fr g ((List.dropLast_sublist _).subset ((List.dropLast_sublist _).subset hg))
        · subst hg
          refine ⟨?_, hfb.l8, vs_app hfb.sv (vs_one hv), hfb.lv⟩
          simp only [List.length_append, List.length_singleton]
          omega
theorem call_ok (p : Prg) {m : Mc} (hm : Core m) (h1 : 1 ≤ m.frames.length) {f : Fr} (hf : FrOk f) (A B : Int) : StepOk (callS p m f A B) := by
  have hstop : ∀ e : Int, 1 ≤ e → e ≤ 6 → StepOk (m, e) := fun e => stop_ok hm
  unfold callS
  split
  · exact hstop 6 (by decide) (by decide)
  · rename_i own ho
    dsimp only
    split
    · exact hstop 6 (by decide) (by decide)
    split
    · exact hstop 6 (by decide) (by decide)
    rename_i hlen
    split
    · exact hstop 6 (by decide) (by decide)
    split
    · exact hstop 3 (by decide) (by decide)
    split
    · exact hstop 6 (by decide) (by decide)
    split
    · exact hstop 5 (by decide) (by decide)
    rename_i h30
    have hs8 := hf.s8
    have hf30 := hm.f30
    refine ⟨⟨hm.h50, ?_, hm.s20, hm.ob, fun g hg => ?_, hm.sd⟩, Int.le_refl 0, show (0 : Int) ≤ 6 by decide, fun _ hn => by simp at hn⟩
    · simp only [List.length_append, List.length_dropLast, List.length_singleton]
      omega
    · simp only [List.mem_append, List.mem_singleton] at hg
      rcases hg with (hg | hg) | hg
      · exact hm.fr g ((List.dropLast_sublist _).subset hg)
      · subst hg
        refine ⟨?_, hf.l8, vs_take hf.sv _, hf.lv⟩
        simp only [List.length_take]
        omega
      · subst hg
        refine ⟨by simp, frmV_len ?_, vs_nil, vs_frm (vs_drop hf.sv _)⟩
        simp only [List.length_drop]
        omega
theorem fields_24 {p : Prg} (hok : okP p = true) {A : Int} (hA : A < (p.length : Int)) : (fieldsR p 6 A).length ≤ 24 :=
  fieldsR_len (okP_sup hok) (okP_len hok).2 (Nat.le_refl _) (okP_four hok) 6 A (by have := (okP_len hok).2; omega) hA
theorem vs_flds (l : List Int) : VsOk (l.map valF) := fun v hv => by
  obtain ⟨t, _, rfl⟩ := List.mem_map.1 hv
  unfold valF
  split <;> decide
theorem step_ok {p : Prg} (hok : okP p = true) {m : Mc} (hm : Core m) (h1 : 1 ≤ m.frames.length) {f : Fr} (hf : FrOk f) (own : Meth) (i : Tx.Ins) (hi : Tx.okI i.1 i.2.1 i.2.2 = true) : StepOk (stepI p m f own i) := by
  obtain ⟨op, A, B⟩ := i
  dsimp only at hi
  have hop := Tx.ok_op hi
  have hA := Tx.ok_a hi
  have hlo : op ≠ 1 → 0 ≤ A ∧ A < Tx.limA op := fun h => by
    unfold Tx.okI at hi
    rw [if_neg h] at hi
    simp only [Bool.and_eq_true, decide_eq_true_eq] at hi
    exact ⟨hi.1.1.1, hi.1.1.2⟩
  have hs8 := hf.s8
  have hstop : ∀ e : Int, 1 ≤ e → e ≤ 6 → StepOk (m, e) := fun e => stop_ok hm
  have ho : ∀ (n : Nat) (v : Vl) (k : Nat), ((m.heap[n]?).getD default).flds[k]? = some v → valB v = true := fun n v k h => by
    cases hn : m.heap[n]? with
    | none => rw [hn] at h; simp [default] at h
    | some o => rw [hn] at h; exact (hm.ob o (List.mem_of_getElem? hn)).2 v (List.mem_of_getElem? h)
  unfold stepI
  dsimp only
  by_cases hst : f.stk.length < takesS op ∨ 8 < f.stk.length - takesS op + putsS op
  · rw [if_pos hst]; exact hstop 6 (by decide) (by decide)
  rw [if_neg hst]
  have hst : takesS op ≤ f.stk.length ∧ f.stk.length - takesS op + putsS op ≤ 8 := by omega
  by_cases e1 : op = 1
  · rw [if_pos e1]
    subst e1
    have hst : 0 ≤ f.stk.length ∧ f.stk.length - 0 + 1 ≤ 8 := hst
    exact on_ok hm h1 hf _ (vs_one (val_word hA.1 hA.2)) (by simp only [List.length_cons, List.length_nil]; omega)
  rw [if_neg e1]
  by_cases e2 : op = 2
  · rw [if_pos e2]
    subst e2
    have hst : 0 ≤ f.stk.length ∧ f.stk.length - 0 + 1 ≤ 8 := hst
    have h8 : A.toNat < 8 := by
      have := hlo (by decide)
      unfold Tx.limA at this
      simp at this
      omega
    exact on_ok hm h1 hf _ (vs_one (vs_at hf.lv (by rw [hf.l8]; exact h8))) (by simp only [List.length_cons, List.length_nil]; omega)
  rw [if_neg e2]
  by_cases e3 : op = 3
  · rw [if_pos e3]
    subst e3
    have hst : 1 ≤ f.stk.length ∧ f.stk.length - 1 + 0 ≤ 8 := hst
    exact on_ok hm h1 (f := { f with loc := f.loc.set A.toNat (topV f.stk) }) ⟨hf.s8, by simp [hf.l8], hf.sv, vs_set hf.lv (top_ok hf.sv (by omega)) _⟩ _ vs_nil (by simp only [List.length_nil]; omega)
  rw [if_neg e3]
  by_cases e4 : op = 4 ∨ op = 5 ∨ op = 6 ∨ op = 7
  · rw [if_pos e4]
    have hst : 2 ≤ f.stk.length := by
      rcases e4 with rfl | rfl | rfl | rfl <;> exact hst.1
    split
    · exact hstop 6 (by decide) (by decide)
    split
    · exact hstop 2 (by decide) (by decide)
    refine on_ok hm h1 hf _ (vs_one ?_) (by simp only [List.length_cons, List.length_nil]; omega)
    unfold sumS
    split
    · exact val_wrap _
    split
    · exact val_wrap _
    split
    · exact val_wrap _
    · exact val_wrap _
  rw [if_neg e4]
  by_cases e8 : op = 8
  · rw [if_pos e8]
    subst e8
    have hst : 1 ≤ f.stk.length ∧ f.stk.length - 1 + 2 ≤ 8 := hst
    exact on_ok hm h1 hf _ (vs_two (top_ok hf.sv (by omega)) (top_ok hf.sv (by omega))) (by simp only [List.length_cons, List.length_nil]; omega)
  rw [if_neg e8]
  by_cases e9 : op = 9
  · rw [if_pos e9]
    subst e9
    have hst : 1 ≤ f.stk.length ∧ f.stk.length - 1 + 0 ≤ 8 := hst
    exact on_ok hm h1 hf _ vs_nil (by simp only [List.length_nil]; omega)
  rw [if_neg e9]
  by_cases e10 : op = 10
  · rw [if_pos e10]
    subst e10
    have hst : 2 ≤ f.stk.length ∧ f.stk.length - 2 + 2 ≤ 8 := hst
    exact on_ok hm h1 hf _ (vs_two (top_ok hf.sv (by omega)) (next_ok hf.sv (by omega))) (by simp only [List.length_cons, List.length_nil]; omega)
  rw [if_neg e10]
  by_cases e11 : op = 11
  · rw [if_pos e11]
    subst e11
    have hst : 0 ≤ f.stk.length ∧ f.stk.length - 0 + 0 ≤ 8 := hst
    exact on_ok hm h1 hf _ vs_nil (by simp only [List.length_nil]; omega)
  rw [if_neg e11]
  by_cases e12 : op = 12
  · rw [if_pos e12]
    subst e12
    have hst : 1 ≤ f.stk.length ∧ f.stk.length - 1 + 0 ≤ 8 := hst
    split
    · exact hstop 6 (by decide) (by decide)
    exact on_ok hm h1 hf _ vs_nil (by simp only [List.length_nil]; omega)
  rw [if_neg e12]
  by_cases e13 : op = 13
  · rw [if_pos e13]
    subst e13
    have hst : 0 ≤ f.stk.length ∧ f.stk.length - 0 + 1 ≤ 8 := hst
    exact on_ok hm h1 hf _ (vs_one val_null) (by simp only [List.length_cons, List.length_nil]; omega)
  rw [if_neg e13]
  by_cases e14 : op = 14
  · rw [if_pos e14]
    subst e14
    have hst : 0 ≤ f.stk.length ∧ f.stk.length - 0 + 1 ≤ 8 := hst
    split
    · exact hstop 6 (by decide) (by decide)
    rename_i hAp
    split
    · exact hstop 4 (by decide) (by decide)
    rename_i h50
    have h50' := hm.h50
    refine on_ok (m := { m with heap := m.heap ++ [⟨A, (fieldsR p 6 A).map valF⟩] }) ⟨?_, hm.f30, hm.s20, fun o hmem => ?_, hm.fr, hm.sd⟩ h1 hf _ (vs_one (val_ref _)) (by simp only [List.length_cons, List.length_nil]; omega)
    · simp only [List.length_append, List.length_singleton]
      omega
    · rcases List.mem_append.1 hmem with hmem | hmem
      · exact hm.ob o hmem
      · simp only [List.mem_singleton] at hmem
        subst hmem
        exact ⟨by simp only [List.length_map]; exact fields_24 hok (by omega), vs_flds _⟩
  rw [if_neg e14]
  by_cases e15 : op = 15
  · rw [if_pos e15]
    subst e15
    have hst : 1 ≤ f.stk.length ∧ f.stk.length - 1 + 1 ≤ 8 := hst
    split
    · exact hstop 6 (by decide) (by decide)
    split
    · exact hstop 3 (by decide) (by decide)
    split
    · exact hstop 6 (by decide) (by decide)
    split
    · exact hstop 6 (by decide) (by decide)
    rename_i v hv
    exact on_ok hm h1 hf _ (vs_one (ho _ v _ hv)) (by simp only [List.length_cons, List.length_nil]; omega)
  rw [if_neg e15]
  by_cases e16 : op = 16
  · rw [if_pos e16]
    subst e16
    have hst : 2 ≤ f.stk.length ∧ f.stk.length - 2 + 0 ≤ 8 := hst
    split
    · exact hstop 6 (by decide) (by decide)
    split
    · exact hstop 6 (by decide) (by decide)
    split
    · exact hstop 3 (by decide) (by decide)
    split
    · exact hstop 6 (by decide) (by decide)
    refine on_ok (m := ⟨m.heap.set _ _, m.frames, m.said, m.fin, m.code⟩) ⟨?_, hm.f30, hm.s20, fun o hmem => ?_, hm.fr, hm.sd⟩ h1 hf _ vs_nil (by simp only [List.length_nil]; omega)
    · simp only [List.length_set]
      exact hm.h50
    · rcases List.mem_or_eq_of_mem_set hmem with hmem | rfl
      · exact hm.ob o hmem
      · cases hn : m.heap[(nextV f.stk).2.toNat]? with
        | none => exact ⟨by simp [default], by simp [default]; exact vs_nil⟩
        | some o =>
          have := hm.ob o (List.mem_of_getElem? hn)
          refine ⟨by simp only [Option.getD_some, List.length_set]; exact this.1, ?_⟩
          simp only [Option.getD_some]
          exact vs_set this.2 (top_ok hf.sv (by omega)) _
  rw [if_neg e16]
  by_cases e17 : op = 17
  · rw [if_pos e17]
    subst e17
    have hst : 0 ≤ f.stk.length ∧ f.stk.length - 0 + 0 ≤ 8 := hst
    exact call_ok p hm h1 hf A B
  rw [if_neg e17]
  by_cases e18 : op = 18
  · rw [if_pos e18]
    subst e18
    have hst : 1 ≤ f.stk.length ∧ f.stk.length - 1 + 1 ≤ 8 := hst
    split
    · exact hstop 6 (by decide) (by decide)
    refine on_ok hm h1 hf _ (vs_one ?_) (by simp only [List.length_cons, List.length_nil]; omega)
    split <;> decide
  rw [if_neg e18]
  by_cases e19 : op = 19
  · rw [if_pos e19]
    subst e19
    have hst : 1 ≤ f.stk.length ∧ f.stk.length - 1 + 0 ≤ 8 := hst
    split
    · exact hstop 6 (by decide) (by decide)
    rename_i hc
    have hs := hm.s20
    refine on_ok (m := { m with said := m.said ++ [(topV f.stk).2] }) ⟨hm.h50, hm.f30, ?_, hm.ob, hm.fr, fun x hx => ?_⟩ h1 hf _ vs_nil (by simp only [List.length_nil]; omega)
    · simp only [List.length_append, List.length_singleton]
      omega
    · rcases List.mem_append.1 hx with hx | hx
      · exact hm.sd x hx
      · simp only [List.mem_singleton] at hx
        subst hx
        exact word_of (top_ok hf.sv (by omega)) (by omega)
  rw [if_neg e19]
  have e20 : op = 20 := by omega
  subst e20
  have hst : 1 ≤ f.stk.length := hst.1
  split
  · exact hstop 6 (by decide) (by decide)
  exact give_ok hm (top_ok hf.sv hst)
theorem meth_code {p : Prg} (hok : okP p = true) {c n : Int} {own : Meth} (h : methS p c n = some own) : Lay.codeOk own.code = true := by
  unfold methS at h
  split at h
  · simp at h
  split at h
  · simp at h
  rename_i k hk
  have hlt := (List.getElem?_eq_some_iff.1 hk).1
  have hc := okP_at hok hlt
  rw [okAt_of hk] at hc
  obtain ⟨j, hj, e⟩ := List.getElem_of_mem (List.mem_of_find?_eq_some h)
  have := okC_meth hc hj
  unfold okK at this
  rw [List.getElem?_eq_getElem hj, e] at this
  simp only [Bool.and_eq_true] at this
  have := this.1.1
  unfold okMB at this
  simp only [Bool.and_eq_true] at this
  exact this.2
theorem stepS_ok {p : Prg} (hok : okP p = true) {m : Mc} (hm : Core m) : StepOk (stepS p m) := by
  have hstop : ∀ e : Int, 1 ≤ e → e ≤ 6 → StepOk (m, e) := fun e => stop_ok hm
  unfold stepS
  split
  · exact hstop 6 (by decide) (by decide)
  rename_i f hl
  have hfm := List.mem_of_getLast? hl
  split
  · exact hstop 6 (by decide) (by decide)
  rename_i own how
  split
  · exact hstop 6 (by decide) (by decide)
  rename_i hpos
  have hco := meth_code (c := f.cls) (n := f.name) hok how
  have hlt : f.pos.toNat < own.code.length := by omega
  have hx := List.getElem?_eq_getElem hlt
  rw [hx]
  exact step_ok hok hm (List.length_pos_of_mem hfm) (hm.fr f hfm) own _ (Lay.ok_at hco hx)
/-- A right machine that has done a step is right. -/
theorem mach_step {p : Prg} (hok : okP p = true) {m : Mc} (hm : machB m = true) : machB { (stepS p m).1 with fin := (stepS p m).2 } = true := (stepS_ok hok ((mach_core m).1 hm).1).fin
end Pg
end Go.Proofs.YtinanjjhkddikaaGreat
