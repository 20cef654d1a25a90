/- Contracts: what is reached: both sides' Reached. -/
import Derived.Test.YtffkkhaiedhaiaaJMw0
import Derived.Test.YtffkkhaiedhaiaaJMa0
namespace Go.Proofs.Ytffkkhaiedhaiaa
namespace Pg
open Go.ChangeShapes Go.WideShapes Go.ChangeAt Go.RowKit St

theorem rise_sub : ∀ (r l : List Int), Rise l → Rise r → (∀ x ∈ l, x ∈ r) → l.Sublist r
  | _, [], _, _, _ => List.nil_sublist _
  | [], x :: l, _, _, h => absurd (h x List.mem_cons_self) (by simp)
  | y :: r, x :: l, hl, hr, h => by
    obtain ⟨a1, b1⟩ := List.pairwise_cons.1 hl
    obtain ⟨a2, b2⟩ := List.pairwise_cons.1 hr
    rcases List.mem_cons.1 (h x List.mem_cons_self) with e | e
    · subst e
      refine List.Sublist.cons_cons x (rise_sub r l b1 b2 fun z hz => ?_)
      rcases List.mem_cons.1 (h z (List.mem_cons_of_mem _ hz)) with e | e
      · have := a1 z hz; omega
      · exact e
    · have hyx := a2 x e
      refine (rise_sub r (x :: l) hl b2 fun z hz => ?_).cons y
      rcases List.mem_cons.1 (h z hz) with e' | e'
      · rcases List.mem_cons.1 hz with e2 | e2
        · omega
        · have := a1 z e2; omega
      · exact e'
theorem rise_len : ∀ (l : List Int) (a b : Int), Rise l → (∀ x ∈ l, a ≤ x ∧ x < b) → a ≤ b → (l.length : Int) ≤ b - a
  | [], a, b, _, _, hab => by simp; omega
  | x :: l, a, b, h, hx, _ => by
    obtain ⟨h1, h2⟩ := List.pairwise_cons.1 h
    have hxx := hx x List.mem_cons_self
    have := rise_len l (x + 1) b h2 (fun z hz => ⟨by have := h1 z hz; omega, (hx z (List.mem_cons_of_mem _ hz)).2⟩) (by omega)
    simp only [List.length_cons]
    omega
theorem put_take : ∀ {l : List Int} {n x : Int} {i : Nat}, Rise l → x ∈ (putL l n).take i → x ∈ l.take i ∨ (x = n ∧ n ∉ l)
  | [], n, x, i, _, h => by
    have := List.mem_of_mem_take h
    simp [putL] at this
    exact .inr ⟨this, by simp⟩
  | y :: l, n, x, 0, _, h => by simp at h
  | y :: l, n, x, i + 1, hr, h => by
    obtain ⟨h1, h2⟩ := List.pairwise_cons.1 hr
    unfold putL at h
    split at h
    · rename_i hy
      rw [List.take_succ_cons, List.mem_cons] at h
      rw [List.take_succ_cons, List.mem_cons, List.mem_cons]
      rcases h with h | h
      · exact .inl (.inl h)
      · rcases put_take h2 h with h | ⟨h, h'⟩
        · exact .inl (.inr h)
        · refine .inr ⟨h, fun e => ?_⟩
          rcases e with e | e
          · omega
          · exact h' e
    · split at h
      · exact .inl h
      · rename_i hy1 hy2
        rw [List.take_succ_cons, List.mem_cons] at h
        rcases h with h | h
        · refine .inr ⟨h, fun e => ?_⟩
          rcases List.mem_cons.1 e with e | e
          · omega
          · have := h1 n e; omega
        · exact .inl ((List.take_subset_take_left (y :: l) (Nat.le_succ i)) h)
theorem puts_take : ∀ (m : List Int) {l : List Int} {x : Int} {i : Nat}, Rise l → x ∈ (m.foldl putL l).take i → x ∈ l.take i ∨ x ∉ l
  | [], l, x, i, _, h => .inl h
  | n :: m, l, x, i, hr, h => by
    rw [List.foldl_cons] at h
    rcases puts_take m (putL_rise hr n) h with h | h
    · rcases put_take hr h with h | ⟨h, h'⟩
      · exact .inl h
      · rw [h]; exact .inr h'
    · exact .inr fun e => h (mem_putL.2 (.inl e))
/-- Where the specification stands: a list of some that are reached. -/
structure StR (code : List Tx.Ins) (out : List Int) : Prop where
  rise : Rise out
  zero : (0 : Int) ∈ out
  sub : ∀ x ∈ out, ∃ j : Nat, Rch code j ∧ x = (j : Int)
def ClosedL (code : List Tx.Ins) (out : List Int) : Prop := ∀ a : Nat, (a : Int) ∈ out → ∀ j, nxB code a j = true → (j : Int) ∈ out
structure MidR (code : List Tx.Ins) (o out : List Int) (i : Nat) : Prop where
  st : StR code out
  up : ∀ x ∈ o, x ∈ out
  done : ∀ a : Nat, (a : Int) ∈ o → (a : Int) ∈ out.take i → ∀ j, nxB code a j = true → (j : Int) ∈ out
theorem StR.len {code : List Tx.Ins} (hok : Lay.codeOk code = true) {out : List Int} (h : StR code out) : out.length ≤ code.length := by
  have := rise_len out 0 code.length h.rise (fun x hx => by
    obtain ⟨j, hj, rfl⟩ := h.sub x hx
    have := hj.lt (Lay.ok_len hok).1
    omega) (by omega)
  omega
theorem StR.start (code : List Tx.Ins) : StR code [0] := ⟨by simp, by simp, fun x hx => ⟨0, .zero, by simpa using hx⟩⟩
theorem MidR.start {code : List Tx.Ins} {out : List Int} (h : StR code out) : MidR code out out 0 := ⟨h, fun _ h => h, fun a _ h => by simp at h⟩
theorem MidR.step {code : List Tx.Ins} (hok : Lay.codeOk code = true) {o out : List Int} {i : Nat} (h : MidR code o out i) (hi : i < out.length) {c : Nat} (hc : out[i] = (c : Int)) :
    MidR code o ((nextsF code c).foldl putL out) (i + 1) := by
  have hcm : (c : Int) ∈ out := by rw [← hc]; exact List.getElem_mem hi
  obtain ⟨c', hrc, he⟩ := h.st.sub _ hcm
  obtain rfl : c = c' := by omega
  have hcl := hrc.lt (Lay.ok_len hok).1
  obtain ⟨hr, hm⟩ := foldl_put (nextsF code c) out h.st.rise
  refine ⟨⟨hr, (hm 0).2 (.inr h.st.zero), fun x hx => ?_⟩, fun x hx => (hm x).2 (.inr (h.up x hx)), fun a ha ht j hj => ?_⟩
  · rcases (hm x).1 hx with hx | hx
    · obtain ⟨j, h1, rfl⟩ := (nextsF_mem hok hcl x).1 hx
      exact ⟨j, .step hrc h1, rfl⟩
    · exact h.st.sub x hx
  · rcases puts_take _ h.st.rise ht with ht | ht
    · rw [List.take_succ_eq_append_getElem hi, List.mem_append, List.mem_singleton] at ht
      rcases ht with ht | ht
      · exact (hm _).2 (.inr (h.done a ha ht j hj))
      · rw [hc] at ht
        obtain rfl : a = c := by omega
        exact (hm _).2 (.inl ((nextsF_mem hok hcl _).2 ⟨j, hj, rfl⟩))
    · exact absurd (h.up _ ha) ht
theorem closed_all {code : List Tx.Ins} {out : List Int} (h : StR code out) (hc : ClosedL code out) {j : Nat} (hj : Rch code j) : (j : Int) ∈ out :=
  Rch.least (S := fun j => (j : Int) ∈ out) h.zero hc hj
/-- A round more. -/
theorem MidR.ends {code : List Tx.Ins} {o out : List Int} {i k : Nat} (h : MidR code o out i) (hi : ¬ i < out.length) (hs : StR code o) (hk : ClosedL code o ∨ k < o.length) : ClosedL code out ∨ k + 1 < out.length := by
  have hsub := rise_sub out o hs.rise h.st.rise h.up
  have hle := hsub.length_le
  have hdone : ∀ a : Nat, (a : Int) ∈ o → ∀ j, nxB code a j = true → (j : Int) ∈ out := fun a ha j hj => h.done a ha (by rw [List.take_of_length_le (by omega)]; exact h.up _ ha) j hj
  rcases Nat.lt_or_ge o.length out.length with hl | hl
  · rcases hk with hk | hk
    · left
      intro a ha j hj
      obtain ⟨a', hra, e⟩ := h.st.sub _ ha
      obtain rfl : a = a' := by omega
      exact h.up _ (closed_all hs hk (.step hra hj))
    · right; omega
  · have e := hsub.eq_of_length (by omega)
    left
    intro a ha
    exact hdone a (by rw [e]; exact ha)
theorem StR.ends {code : List Tx.Ins} (hok : Lay.codeOk code = true) {out : List Int} (h : StR code out) (hc : ClosedL code out ∨ code.length < out.length) : out = risL (rchB code) 40 := by
  have hl := Lay.ok_len hok
  have hcl : ClosedL code out := by
    rcases hc with hc | hc
    · exact hc
    · have := h.len hok; omega
  refine rise_ext h.rise (risL_rise _ _) fun x => ?_
  rw [risL_mem]
  constructor
  · intro hx
    obtain ⟨j, hj, rfl⟩ := h.sub x hx
    exact ⟨j, by have := hj.lt hl.1; omega, rchB_iff.2 hj, rfl⟩
  · rintro ⟨j, _, hj, rfl⟩
    exact closed_all h hcl (rchB_iff.1 hj)
end Pg
end Go.Proofs.Ytffkkhaiedhaiaa

/- A right machine stays right through a step, plainly. -/
namespace Go.Proofs.Ytffkkhaiedhaiaa
namespace Pg
open Go.ChangeShapes Go.WideShapes Go.ChangeAt Go.RowKit St Wd

def VsOk (l : List Vl) : Prop := ∀ v ∈ l, valB v = true
structure FrOk (f : Fr) : Prop where
  s8 : f.stk.length ≤ 8
  l8 : f.loc.length = 8
  sv : VsOk f.stk
  lv : VsOk f.loc
structure Core (m : Mc) : Prop where
  h50 : m.heap.length ≤ 50
  f30 : m.frames.length ≤ 30
  s20 : m.said.length ≤ 20000
  ob : ∀ o ∈ m.heap, o.flds.length ≤ 24 ∧ VsOk o.flds
  fr : ∀ f ∈ m.frames, FrOk f
  sd : ∀ x ∈ m.said, okB x = true
theorem frB_iff (f : Fr) : frB f = true ↔ FrOk f := by
  unfold frB
  simp only [Bool.and_eq_true, decide_eq_true_eq, List.all_eq_true]
  exact ⟨fun h => ⟨h.1.1.1, h.1.1.2, h.1.2, h.2⟩, fun h => ⟨⟨⟨h.s8, h.l8⟩, h.sv⟩, h.lv⟩⟩
theorem mach_core (m : Mc) : machB m = true ↔ Core m ∧ 0 ≤ m.fin ∧ m.fin ≤ 6 ∧ (m.fin = 0 → m.frames ≠ []) := by
  unfold machB obB
  simp only [Bool.and_eq_true, decide_eq_true_eq, List.all_eq_true, Bool.not_eq_true', Bool.and_eq_false_iff, decide_eq_false_iff_not, frB_iff]
  constructor
  · rintro ⟨⟨⟨⟨⟨⟨⟨⟨a, b⟩, c⟩, d⟩, e⟩, f⟩, g⟩, h⟩, i⟩
    exact ⟨⟨d, e, f, g, h, i⟩, a, b, fun h0 hn => c.elim (fun c => c h0) fun c => c (by rw [hn]; rfl)⟩
  · rintro ⟨⟨d, e, f, g, h, i⟩, a, b, c⟩
    refine ⟨⟨⟨⟨⟨⟨⟨⟨a, b⟩, ?_⟩, d⟩, e⟩, f⟩, g⟩, h⟩, i⟩
    by_cases h0 : m.fin = 0
    · exact .inr fun hn => c h0 (List.length_eq_zero_iff.1 hn)
    · exact .inl h0
/-- What a step leaves. -/
structure StepOk (r : Mc × Int) : Prop where
  core : Core r.1
  e0 : 0 ≤ r.2
  e6 : r.2 ≤ 6
  on : r.2 = 0 → r.1.frames ≠ []
theorem StepOk.fin {r : Mc × Int} (h : StepOk r) : machB { r.1 with fin := r.2 } = true :=
  (mach_core _).2 ⟨⟨h.core.h50, h.core.f30, h.core.s20, h.core.ob, h.core.fr, h.core.sd⟩, h.e0, h.e6, h.on⟩
theorem stop_ok {m : Mc} (hm : Core m) {e : Int} (h1 : 1 ≤ e) (h6 : e ≤ 6) : StepOk (m, e) := ⟨hm, by dsimp only; omega, h6, fun h => by dsimp only at h; omega⟩
theorem val_word {a : Int} (h1 : -2147483648 ≤ a) (h2 : a ≤ 2147483647) : valB (1, a) = true := by simp [valB, okB, h1, h2]
theorem val_wrap (a : Int) : valB (1, wrap32 a) = true := val_word (by unfold wrap32; omega) (by unfold wrap32; omega)
theorem val_null : valB (3, 0) = true := by decide
theorem val_ref (n : Nat) : valB (2, (n : Int)) = true := by simp [valB]
theorem word_of {v : Vl} (h : valB v = true) (h1 : v.1 = 1) : okB v.2 = true := by
  unfold valB at h
  rwa [if_pos h1] at h
theorem vs_take {l : List Vl} (h : VsOk l) (n : Nat) : VsOk (l.take n) := fun v hv => h v (List.mem_of_mem_take hv)
theorem vs_drop {l : List Vl} (h : VsOk l) (n : Nat) : VsOk (l.drop n) := fun v hv => h v (List.mem_of_mem_drop hv)
theorem vs_app {l k : List Vl} (h : VsOk l) (h' : VsOk k) : VsOk (l ++ k) := fun v hv => (List.mem_append.1 hv).elim (h v) (h' v)
theorem vs_nil : VsOk [] := fun _ h => by simp at h
theorem vs_one {v : Vl} (h : valB v = true) : VsOk [v] := fun x hx => by simp at hx; rw [hx]; exact h
theorem vs_two {v u : Vl} (h : valB v = true) (h' : valB u = true) : VsOk [v, u] := fun x hx => by
  simp at hx
  rcases hx with rfl | rfl
  · exact h
  · exact h'
theorem vs_at {l : List Vl} (h : VsOk l) {k : Nat} (hk : k < l.length) : valB ((l[k]?).getD (0, 0)) = true := by
  rw [List.getElem?_eq_getElem hk]
  exact h _ (List.getElem_mem hk)
theorem vs_set {l : List Vl} (h : VsOk l) {v : Vl} (hv : valB v = true) (k : Nat) : VsOk (l.set k v) := fun x hx => by
  rcases List.mem_or_eq_of_mem_set hx with hx | hx
  · exact h x hx
  · rw [hx]; exact hv
theorem vs_frm {l : List Vl} (h : VsOk l) : VsOk (frmV l) := vs_app h fun v hv => by
  rw [List.mem_replicate] at hv
  rw [hv.2]; decide
theorem topV_at (l : List Vl) : topV l = (l[l.length - 1]?).getD (0, 0) := by unfold topV; rw [List.getLast?_eq_getElem?]
theorem nextV_at {l : List Vl} (h : 2 ≤ l.length) : nextV l = (l[l.length - 2]?).getD (0, 0) := by
  unfold nextV
  rw [List.getLast?_eq_getElem?, List.length_dropLast, List.getElem?_dropLast, if_pos (by omega), show l.length - 1 - 1 = l.length - 2 by omega]
theorem top_ok {l : List Vl} (h : VsOk l) (h1 : 1 ≤ l.length) : valB (topV l) = true := by rw [topV_at]; exact vs_at h (by omega)
theorem next_ok {l : List Vl} (h : VsOk l) (h1 : 2 ≤ l.length) : valB (nextV l) = true := by rw [nextV_at h1]; exact vs_at h (by omega)
theorem on_ok {m : Mc} (hm : Core m) (h1 : 1 ≤ m.frames.length) {f : Fr} (hf : FrOk f) {take : Nat} {put : List Vl} (pos : Int) (hp : VsOk put) (hl : f.stk.length - take + put.length ≤ 8) : StepOk (onS m f take put pos) := by
  refine ⟨⟨hm.h50, ?_, hm.s20, hm.ob, fun g hg => ?_, hm.sd⟩, Int.le_refl 0, show (0 : Int) ≤ 6 by decide, fun _ hn => ?_⟩
  · have := hm.f30
    simp only [onS, withTop, List.length_append, List.length_dropLast, List.length_singleton]
    omega
  · simp only [onS, withTop, List.mem_append, List.mem_singleton] at hg
    rcases hg with hg | hg
    · exact hm.fr g ((List.dropLast_sublist _).subset hg)
    · subst hg
      refine ⟨?_, hf.l8, vs_app (vs_take hf.sv _) hp, hf.lv⟩
      simp only [List.length_append, List.length_take]
      omega
  · simp [onS, withTop] at hn
theorem give_ok {m : Mc} (hm : Core m) {v : Vl} (hv : valB v = true) : StepOk (giveS m v) := by
  unfold giveS
  split
  · refine ⟨⟨hm.h50, by simp, hm.s20, hm.ob, fun g hg => by simp at hg, hm.sd⟩, by simp, by simp, fun h => by simp at h⟩
  · rename_i b hb
    have hbm : b ∈ m.frames.dropLast := List.mem_of_getLast? hb
    have hfb := hm.fr b ((List.dropLast_sublist _).subset hbm)
    have hne : m.frames.dropLast.length ≠ 0 := fun h => by rw [List.length_eq_zero_iff.1 h] at hbm; simp at hbm
    rw [List.length_dropLast] at hne
    split
    · exact stop_ok hm (by decide) (by decide)
    · rename_i h8
      have := hfb.s8
      have h30 := hm.f30
      refine ⟨⟨hm.h50, ?_, hm.s20, hm.ob, fun g hg => ?_, hm.sd⟩, Int.le_refl 0, show (0 : Int) ≤ 6 by decide, fun _ hn => by simp at hn⟩
      · simp only [List.length_append, List.length_dropLast, List.length_singleton]
        omega
      · simp only [List.mem_append, List.mem_singleton] at hg
        rcases hg with hg | hg
        · exact hm.fr g ((List.dropLast_sublist _).subset ((List.dropLast_sublist _).subset hg))
        · subst hg
          refine ⟨?_, hfb.l8, vs_app hfb.sv (vs_one hv), hfb.lv⟩
          simp only [List.length_append, List.length_singleton]
          omega
theorem call_ok (p : Prg) {m : Mc} (hm : Core m) (h1 : 1 ≤ m.frames.length) {f : Fr} (hf : FrOk f) (A B : Int) : StepOk (callS p m f A B) := by
  have hstop : ∀ e : Int, 1 ≤ e → e ≤ 6 → StepOk (m, e) := fun e => stop_ok hm
  unfold callS
  split
  · exact hstop 6 (by decide) (by decide)
  · rename_i own ho
    dsimp only
    split
    · exact hstop 6 (by decide) (by decide)
    split
    · exact hstop 6 (by decide) (by decide)
    rename_i hlen
    split
    · exact hstop 6 (by decide) (by decide)
    split
    · exact hstop 3 (by decide) (by decide)
    split
    · exact hstop 6 (by decide) (by decide)
    split
    · exact hstop 5 (by decide) (by decide)
    rename_i h30
    have hs8 := hf.s8
    have hf30 := hm.f30
    refine ⟨⟨hm.h50, ?_, hm.s20, hm.ob, fun g hg => ?_, hm.sd⟩, Int.le_refl 0, show (0 : Int) ≤ 6 by decide, fun _ hn => by simp at hn⟩
    · simp only [List.length_append, List.length_dropLast, List.length_singleton]
      omega
    · simp only [List.mem_append, List.mem_singleton] at hg
      rcases hg with (hg | hg) | hg
      · exact hm.fr g ((List.dropLast_sublist _).subset hg)
      · subst hg
        refine ⟨?_, hf.l8, vs_take hf.sv _, hf.lv⟩
        simp only [List.length_take]
        omega
      · subst hg
        refine ⟨by simp, frmV_len ?_, vs_nil, vs_frm (vs_drop hf.sv _)⟩
        simp only [List.length_drop]
        omega
theorem fields_24 {p : Prg} (hok : okP p = true) {A : Int} (hA : A < (p.length : Int)) : (fieldsR p 6 A).length ≤ 24 :=
  fieldsR_len (okP_sup hok) (okP_len hok).2 (Nat.le_refl _) (okP_four hok) 6 A (by have := (okP_len hok).2; omega) hA
theorem vs_flds (l : List Int) : VsOk (l.map valF) := fun v hv => by
  obtain ⟨t, _, rfl⟩ := List.mem_map.1 hv
  unfold valF
  split <;> decide
theorem step_ok {p : Prg} (hok : okP p = true) {m : Mc} (hm : Core m) (h1 : 1 ≤ m.frames.length) {f : Fr} (hf : FrOk f) (own : Meth) (i : Tx.Ins) (hi : Tx.okI i.1 i.2.1 i.2.2 = true) : StepOk (stepI p m f own i) := by
  obtain ⟨op, A, B⟩ := i
  dsimp only at hi
  have hop := Tx.ok_op hi
  have hA := Tx.ok_a hi
  have hlo : op ≠ 1 → 0 ≤ A ∧ A < Tx.limA op := fun h => by
    unfold Tx.okI at hi
    rw [if_neg h] at hi
    simp only [Bool.and_eq_true, decide_eq_true_eq] at hi
    exact ⟨hi.1.1.1, hi.1.1.2⟩
  have hs8 := hf.s8
  have hstop : ∀ e : Int, 1 ≤ e → e ≤ 6 → StepOk (m, e) := fun e => stop_ok hm
  have ho : ∀ (n : Nat) (v : Vl) (k : Nat), ((m.heap[n]?).getD default).flds[k]? = some v → valB v = true := fun n v k h => by
    cases hn : m.heap[n]? with
    | none => rw [hn] at h; simp [default] at h
    | some o => rw [hn] at h; exact (hm.ob o (List.mem_of_getElem? hn)).2 v (List.mem_of_getElem? h)
  unfold stepI
  dsimp only
  by_cases hst : f.stk.length < takesS op ∨ 8 < f.stk.length - takesS op + putsS op
  · rw [if_pos hst]; exact hstop 6 (by decide) (by decide)
  rw [if_neg hst]
  have hst : takesS op ≤ f.stk.length ∧ f.stk.length - takesS op + putsS op ≤ 8 := by omega
  by_cases e1 : op = 1
  · rw [if_pos e1]
    subst e1
    have hst : 0 ≤ f.stk.length ∧ f.stk.length - 0 + 1 ≤ 8 := hst
    exact on_ok hm h1 hf _ (vs_one (val_word hA.1 hA.2)) (by simp only [List.length_cons, List.length_nil]; omega)
  rw [if_neg e1]
  by_cases e2 : op = 2
  · rw [if_pos e2]
    subst e2
    have hst : 0 ≤ f.stk.length ∧ f.stk.length - 0 + 1 ≤ 8 := hst
    have h8 : A.toNat < 8 := by
      have := hlo (by decide)
      unfold Tx.limA at this
      simp at this
      omega
    exact on_ok hm h1 hf _ (vs_one (vs_at hf.lv (by rw [hf.l8]; exact h8))) (by simp only [List.length_cons, List.length_nil]; omega)
  rw [if_neg e2]
  by_cases e3 : op = 3
  · rw [if_pos e3]
    subst e3
    have hst : 1 ≤ f.stk.length ∧ f.stk.length - 1 + 0 ≤ 8 := hst
    exact on_ok hm h1 (f := { f with loc := f.loc.set A.toNat (topV f.stk) }) ⟨hf.s8, by simp [hf.l8], hf.sv, vs_set hf.lv (top_ok hf.sv (by omega)) _⟩ _ vs_nil (by simp only [List.length_nil]; omega)
  rw [if_neg e3]
  by_cases e4 : op = 4 ∨ op = 5 ∨ op = 6 ∨ op = 7
  · rw [if_pos e4]
    have hst : 2 ≤ f.stk.length := by
      rcases e4 with rfl | rfl | rfl | rfl <;> exact hst.1
    split
    · exact hstop 6 (by decide) (by decide)
    split
    · exact hstop 2 (by decide) (by decide)
    refine on_ok hm h1 hf _ (vs_one ?_) (by simp only [List.length_cons, List.length_nil]; omega)
    unfold sumS
    split
    · exact val_wrap _
    split
    · exact val_wrap _
    split
    · exact val_wrap _
    · exact val_wrap _
  rw [if_neg e4]
  by_cases e8 : op = 8
  · rw [if_pos e8]
    subst e8
    have hst : 1 ≤ f.stk.length ∧ f.stk.length - 1 + 2 ≤ 8 := hst
    exact on_ok hm h1 hf _ (vs_two (top_ok hf.sv (by omega)) (top_ok hf.sv (by omega))) (by simp only [List.length_cons, List.length_nil]; omega)
  rw [if_neg e8]
  by_cases e9 : op = 9
  · rw [if_pos e9]
    subst e9
    have hst : 1 ≤ f.stk.length ∧ f.stk.length - 1 + 0 ≤ 8 := hst
    exact on_ok hm h1 hf _ vs_nil (by simp only [List.length_nil]; omega)
  rw [if_neg e9]
  by_cases e10 : op = 10
  · rw [if_pos e10]
    subst e10
    have hst : 2 ≤ f.stk.length ∧ f.stk.length - 2 + 2 ≤ 8 := hst
    exact on_ok hm h1 hf _ (vs_two (top_ok hf.sv (by omega)) (next_ok hf.sv (by omega))) (by simp only [List.length_cons, List.length_nil]; omega)
  rw [if_neg e10]
  by_cases e11 : op = 11
  · rw [if_pos e11]
    subst e11
    have hst : 0 ≤ f.stk.length ∧ f.stk.length - 0 + 0 ≤ 8 := hst
    exact on_ok hm h1 hf _ vs_nil (by simp only [List.length_nil]; omega)
  rw [if_neg e11]
  by_cases e12 : op = 12
  · rw [if_pos e12]
    subst e12
    have hst : 1 ≤ f.stk.length ∧ f.stk.length - 1 + 0 ≤ 8 := hst
    split
    · exact hstop 6 (by decide) (by decide)
    exact on_ok hm h1 hf _ vs_nil (by simp only [List.length_nil]; omega)
  rw [if_neg e12]
  by_cases e13 : op = 13
  · rw [if_pos e13]
    subst e13
    have hst : 0 ≤ f.stk.length ∧ f.stk.length - 0 + 1 ≤ 8 := hst
    exact on_ok hm h1 hf _ (vs_one val_null) (by simp only [List.length_cons, List.length_nil]; omega)
  rw [if_neg e13]
  by_cases e14 : op = 14
  · rw [if_pos e14]
    subst e14
    have hst : 0 ≤ f.stk.length ∧ f.stk.length - 0 + 1 ≤ 8 := hst
    split
    · exact hstop 6 (by decide) (by decide)
    rename_i hAp
    split
    · exact hstop 4 (by decide) (by decide)
    rename_i h50
    have h50' := hm.h50
    refine on_ok (m := { m with heap := m.heap ++ [⟨A, (fieldsR p 6 A).map valF⟩] }) ⟨?_, hm.f30, hm.s20, fun o hmem => ?_, hm.fr, hm.sd⟩ h1 hf _ (vs_one (val_ref _)) (by simp only [List.length_cons, List.length_nil]; omega)
    · simp only [List.length_append, List.length_singleton]
      omega
    · rcases List.mem_append.1 hmem with hmem | hmem
      · exact hm.ob o hmem
      · simp only [List.mem_singleton] at hmem
        subst hmem
        exact ⟨by simp only [List.length_map]; exact fields_24 hok (by omega), vs_flds _⟩
  rw [if_neg e14]
  by_cases e15 : op = 15
  · rw [if_pos e15]
    subst e15
    have hst : 1 ≤ f.stk.length ∧ f.stk.length - 1 + 1 ≤ 8 := hst
    split
    · exact hstop 6 (by decide) (by decide)
    split
    · exact hstop 3 (by decide) (by decide)
    split
    · exact hstop 6 (by decide) (by decide)
    split
    · exact hstop 6 (by decide) (by decide)
    rename_i v hv
    exact on_ok hm h1 hf _ (vs_one (ho _ v _ hv)) (by simp only [List.length_cons, List.length_nil]; omega)
  rw [if_neg e15]
  by_cases e16 : op = 16
  · rw [if_pos e16]
    subst e16
    have hst : 2 ≤ f.stk.length ∧ f.stk.length - 2 + 0 ≤ 8 := hst
    split
    · exact hstop 6 (by decide) (by decide)
    split
    · exact hstop 6 (by decide) (by decide)
    split
    · exact hstop 3 (by decide) (by decide)
    split
    · exact hstop 6 (by decide) (by decide)
    refine on_ok (m := ⟨m.heap.set _ _, m.frames, m.said, m.fin, m.code⟩) ⟨?_, hm.f30, hm.s20, fun o hmem => ?_, hm.fr, hm.sd⟩ h1 hf _ vs_nil (by simp only [List.length_nil]; omega)
    · simp only [List.length_set]
      exact hm.h50
    · rcases List.mem_or_eq_of_mem_set hmem with hmem | rfl
      · exact hm.ob o hmem
      · cases hn : m.heap[(nextV f.stk).2.toNat]? with
        | none => exact ⟨by simp [default], by simp [default]; exact vs_nil⟩
        | some o =>
          have := hm.ob o (List.mem_of_getElem? hn)
          refine ⟨by simp only [Option.getD_some, List.length_set]; exact this.1, ?_⟩
          simp only [Option.getD_some]
          exact vs_set this.2 (top_ok hf.sv (by omega)) _
  rw [if_neg e16]
  by_cases e17 : op = 17
  · rw [if_pos e17]
    subst e17
    have hst : 0 ≤ f.stk.length ∧ f.stk.length - 0 + 0 ≤ 8 := hst
    exact call_ok p hm h1 hf A B
  rw [if_neg e17]
  by_cases e18 : op = 18
  · rw [if_pos e18]
    subst e18
    have hst : 1 ≤ f.stk.length ∧ f.stk.length - 1 + 1 ≤ 8 := hst
    split
    · exact hstop 6 (by decide) (by decide)
    refine on_ok hm h1 hf _ (vs_one ?_) (by simp only [List.length_cons, List.length_nil]; omega)
    split <;> decide
  rw [if_neg e18]
  by_cases e19 : op = 19
  · rw [if_pos e19]
    subst e19
    have hst : 1 ≤ f.stk.length ∧ f.stk.length - 1 + 0 ≤ 8 := hst
    split
    · exact hstop 6 (by decide) (by decide)
    rename_i hc
    have hs := hm.s20
    refine on_ok (m := { m with said := m.said ++ [(topV f.stk).2] }) ⟨hm.h50, hm.f30, ?_, hm.ob, hm.fr, fun x hx => ?_⟩ h1 hf _ vs_nil (by simp only [List.length_nil]; omega)
    · simp only [List.length_append, List.length_singleton]
      omega
    · rcases List.mem_append.1 hx with hx | hx
      · exact hm.sd x hx
      · simp only [List.mem_singleton] at hx
        subst hx
        exact word_of (top_ok hf.sv (by omega)) (by omega)
  rw [if_neg e19]
  have e20 : op = 20 := by omega
  subst e20
  have hst : 1 ≤ f.stk.length := hst.1
  split
  · exact hstop 6 (by decide) (by decide)
  exact give_ok hm (top_ok hf.sv hst)
theorem meth_code {p : Prg} (hok : okP p = true) {c n : Int} {own : Meth} (h : methS p c n = some own) : Lay.codeOk own.code = true := by
  unfold methS at h
  split at h
  · simp at h
  split at h
  · simp at h
  rename_i k hk
  have hlt := (List.getElem?_eq_some_iff.1 hk).1
  have hc := okP_at hok hlt
  rw [okAt_of hk] at hc
  obtain ⟨j, hj, e⟩ := List.getElem_of_mem (List.mem_of_find?_eq_some h)
  have := okC_meth hc hj
  unfold okK at this
  rw [List.getElem?_eq_getElem hj, e] at this
  simp only [Bool.and_eq_true] at this
  have := this.1.1
  unfold okMB at this
  simp only [Bool.and_eq_true] at this
  exact this.2
theorem stepS_ok {p : Prg} (hok : okP p = true) {m : Mc} (hm : Core m) : StepOk (stepS p m) := by
  have hstop : ∀ e : Int, 1 ≤ e → e ≤ 6 → StepOk (m, e) := fun e => stop_ok hm
  unfold stepS
  split
  · exact hstop 6 (by decide) (by decide)
  rename_i f hl
  have hfm := List.mem_of_getLast? hl
  split
  · exact hstop 6 (by decide) (by decide)
  rename_i own how
  split
  · exact hstop 6 (by decide) (by decide)
  rename_i hpos
  have hco := meth_code (c := f.cls) (n := f.name) hok how
  have hlt : f.pos.toNat < own.code.length := by omega
  have hx := List.getElem?_eq_getElem hlt
  rw [hx]
  exact step_ok hok hm (List.length_pos_of_mem hfm) (hm.fr f hfm) own _ (Lay.ok_at hco hx)
/-- A right machine that has done a step is right. -/
theorem mach_step {p : Prg} (hok : okP p = true) {m : Mc} (hm : machB m = true) : machB { (stepS p m).1 with fin := (stepS p m).2 } = true := (stepS_ok hok ((mach_core m).1 hm).1).fin
end Pg
end Go.Proofs.Ytffkkhaiedhaiaa

/- Contracts of the laws' own counting of what there is in a program. -/
namespace Go.Proofs.Ytffkkhaiedhaiaa
namespace Pg
open Go.ChangeShapes Go.WideShapes Go.ChangeAt Go.RowKit St

theorem retI {p q : Int} (h : p = q) : Ending.returned (.int .i64 p) = .returned (.int .i64 q) := by rw [h]
end Pg
end Go.Proofs.Ytffkkhaiedhaiaa
