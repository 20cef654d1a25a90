/- What a program reaches, plainly: made classes, reached methods, classes that are needed; a search that changes nothing has come to them. -/
import Derived.Test.YtinanjjhkddikaaGreatJHi0
import Derived.Test.YtinanjjhkddikaaGreatJSf1
import Derived.Test.YtinanjjhkddikaaGreatJStep0
namespace Go.Proofs.YtinanjjhkddikaaGreat
namespace Pg
open Go.ChangeShapes Go.WideShapes Go.ChangeAt Go.RowKit St Wd

/-- A step that may run where the method of this class and name runs. -/
def Runs (p : Prg) (c : Nat) (n : Int) (i : Tx.Ins) : Prop := ∃ cl own k, p[c]? = some cl ∧ ownF cl n = some own ∧ k < own.code.length ∧ rchB own.code k = true ∧ i = insF own.code k
/-- What is reached: (false, c, 0) a made class, (true, c, n) a method. -/
inductive Rd (p : Prg) : Bool → Nat → Int → Prop
  | made : Rd p false 0 0
  | main : Rd p true 0 0
  | new {c : Nat} {n : Int} {i : Tx.Ins} {A : Nat} (h : Rd p true c n) (hi : Runs p c n i) (ho : i.1 = 14) (ha : i.2.1 = (A : Int)) (hl : A < p.length) : Rd p false A 0
  | call {c : Nat} {n : Int} {i : Tx.Ins} {A s : Nat} (h : Rd p true c n) (hi : Runs p c n i) (ho : i.1 = 17) (ha : i.2.1 = (A : Int)) (hl : A < p.length) (hs : selF p (A : Int) i.2.2 = (s : Int)) : Rd p true s i.2.2
  | meet {c : Nat} {n : Int} {i : Tx.Ins} {A d s : Nat} (h : Rd p true c n) (hi : Runs p c n i) (ho : i.1 = 17) (ha : i.2.1 = (A : Int)) (hl : A < p.length) (hd : Rd p false d 0) (hu : undB p (d : Int) (A : Int) = true) (hs : selF p (d : Int) i.2.2 = (s : Int)) : Rd p true s i.2.2
/-- Closed: what a found method's steps reach is found. -/
structure ClR (p : Prg) (M : Nat → Prop) (L : Nat → Int → Prop) : Prop where
  made : M 0
  main : L 0 0
  new : ∀ c n i A, L c n → Runs p c n i → i.1 = 14 → i.2.1 = ((A : Nat) : Int) → A < p.length → M A
  call : ∀ c n i A s, L c n → Runs p c n i → i.1 = 17 → i.2.1 = ((A : Nat) : Int) → A < p.length → selF p (A : Int) i.2.2 = ((s : Nat) : Int) → L s i.2.2
  meet : ∀ c n i A d s, L c n → Runs p c n i → i.1 = 17 → i.2.1 = ((A : Nat) : Int) → A < p.length → M d → undB p ((d : Nat) : Int) (A : Int) = true → selF p (d : Int) i.2.2 = ((s : Nat) : Int) → L s i.2.2
theorem rd_least {p : Prg} {M : Nat → Prop} {L : Nat → Int → Prop} (h : ClR p M L) : ∀ {b : Bool} {c : Nat} {n : Int}, Rd p b c n → (b = false → M c) ∧ (b = true → L c n) := by
  intro b c n hr
  induction hr with
  | made => exact ⟨fun _ => h.made, fun e => Bool.noConfusion e⟩
  | main => exact ⟨fun e => Bool.noConfusion e, fun _ => h.main⟩
  | new _ hi ho ha hl ih => exact ⟨fun _ => h.new _ _ _ _ (ih.2 rfl) hi ho ha hl, fun e => Bool.noConfusion e⟩
  | call _ hi ho ha hl hs ih => exact ⟨fun e => Bool.noConfusion e, fun _ => h.call _ _ _ _ _ (ih.2 rfl) hi ho ha hl hs⟩
  | meet _ hi ho ha hl _ hu hs ih1 ih2 => exact ⟨fun e => Bool.noConfusion e, fun _ => h.meet _ _ _ _ _ _ (ih1.2 rfl) hi ho ha hl (ih2.1 rfl) hu hs⟩
theorem rd_closed (p : Prg) : ClR p (fun c => Rd p false c 0) (fun c n => Rd p true c n) :=
  ⟨.made, .main, fun _ _ _ _ h hi ho ha hl => .new h hi ho ha hl, fun _ _ _ _ _ h hi ho ha hl hs => .call h hi ho ha hl hs, fun _ _ _ _ _ _ h hi ho ha hl hd hu hs => .meet h hi ho ha hl hd hu hs⟩
/-- The answers, as rows that rise. -/
noncomputable def madB (p : Prg) (c : Nat) : Bool := @decide (Rd p false c 0) (Classical.propDecidable _)
noncomputable def livB (p : Prg) (q : Nat) : Bool := @decide (Rd p true (q / 20) ((q % 20 : Nat) : Int)) (Classical.propDecidable _)
theorem madB_iff {p : Prg} {c : Nat} : madB p c = true ↔ Rd p false c 0 := by unfold madB; exact @decide_eq_true_iff _ (Classical.propDecidable _)
theorem livB_iff {p : Prg} {q : Nat} : livB p q = true ↔ Rd p true (q / 20) ((q % 20 : Nat) : Int) := by unfold livB; exact @decide_eq_true_iff _ (Classical.propDecidable _)
noncomputable def madL (p : Prg) : List Int := if okP p then risL (madB p) 6 else []
noncomputable def livR (p : Prg) : List Int := if okP p then risL (livB p) 120 else []
/-- What is needed. -/
inductive Nd (p : Prg) : Nat → Prop
  | made {c : Nat} (h : Rd p false c 0) : Nd p c
  | live {c : Nat} {n : Int} (h : Rd p true c n) : Nd p c
  | gives {c : Nat} {n : Int} {cl : Cls} {own : Meth} {t : Nat} (h : Rd p true c n) (hc : p[c]? = some cl) (ho : ownF cl n = some own) (ht : own.gives = (t : Int)) (hl : t < p.length) : Nd p t
  | args {c : Nat} {n : Int} {cl : Cls} {own : Meth} {t : Nat} (h : Rd p true c n) (hc : p[c]? = some cl) (ho : ownF cl n = some own) (ht : (t : Int) ∈ own.args) (hl : t < p.length) : Nd p t
  | step {c : Nat} {n : Int} {i : Tx.Ins} {A : Nat} (h : Rd p true c n) (hi : Runs p c n i) (ho : i.1 = 15 ∨ i.1 = 16 ∨ i.1 = 17) (ha : i.2.1 = (A : Int)) (hl : A < p.length) : Nd p A
  | sup {c s : Nat} {cl : Cls} (h : Nd p c) (hc : p[c]? = some cl) (hs : cl.super = (s : Int)) (hl : s < p.length) : Nd p s
  | field {c t : Nat} {cl : Cls} (h : Nd p c) (hc : p[c]? = some cl) (ht : (t : Int) ∈ cl.fields) (hl : t < p.length) : Nd p t
structure ClN (p : Prg) (D : Nat → Prop) : Prop where
  made : ∀ c, Rd p false c 0 → D c
  live : ∀ c n, Rd p true c n → D c
  gives : ∀ c n cl own t, Rd p true c n → p[c]? = some cl → ownF cl n = some own → own.gives = ((t : Nat) : Int) → t < p.length → D t
  args : ∀ c n cl own t, Rd p true c n → p[c]? = some cl → ownF cl n = some own → ((t : Nat) : Int) ∈ own.args → t < p.length → D t
  step : ∀ c n i A, Rd p true c n → Runs p c n i → (i.1 = 15 ∨ i.1 = 16 ∨ i.1 = 17) → i.2.1 = ((A : Nat) : Int) → A < p.length → D A
  sup : ∀ c s cl, D c → p[c]? = some cl → cl.super = ((s : Nat) : Int) → s < p.length → D s
  field : ∀ c t cl, D c → p[c]? = some cl → ((t : Nat) : Int) ∈ cl.fields → t < p.length → D t
theorem nd_least {p : Prg} {D : Nat → Prop} (h : ClN p D) : ∀ {c : Nat}, Nd p c → D c := by
  intro c hn
  induction hn with
  | made h1 => exact h.made _ h1
  | live h1 => exact h.live _ _ h1
  | gives h1 hc ho ht hl => exact h.gives _ _ _ _ _ h1 hc ho ht hl
  | args h1 hc ho ht hl => exact h.args _ _ _ _ _ h1 hc ho ht hl
  | step h1 hi ho ha hl => exact h.step _ _ _ _ h1 hi ho ha hl
  | sup _ hc hs hl ih => exact h.sup _ _ _ ih hc hs hl
  | field _ hc ht hl ih => exact h.field _ _ _ ih hc ht hl
theorem nd_closed (p : Prg) : ClN p (Nd p) :=
  ⟨fun _ h => .made h, fun _ _ h => .live h, fun _ _ _ _ _ h hc ho ht hl => .gives h hc ho ht hl, fun _ _ _ _ _ h hc ho ht hl => .args h hc ho ht hl, fun _ _ _ _ h hi ho ha hl => .step h hi ho ha hl, fun _ _ _ h hc hs hl => .sup h hc hs hl, fun _ _ _ h hc ht hl => .field h hc ht hl⟩
noncomputable def ndB (p : Prg) (c : Nat) : Bool := @decide (Nd p c) (Classical.propDecidable _)
theorem ndB_iff {p : Prg} {c : Nat} : ndB p c = true ↔ Nd p c := by unfold ndB; exact @decide_eq_true_iff _ (Classical.propDecidable _)
noncomputable def ndL (p : Prg) : List Int := if okP p then risL (ndB p) 6 else []

/-! What is reached is there. -/
theorem sel_there {p : Prg} {c n : Int} {s : Nat} (h : selF p c n = (s : Int)) : ∃ cl own, p[s]? = some cl ∧ ownF cl n = some own := by
  unfold selF at h
  cases hf : (upL p c).find? (hasM p n) with
  | none => rw [hf] at h; simp at h
  | some x =>
    rw [hf] at h
    simp only [Option.getD_some] at h
    subst h
    have hm := List.find?_some hf
    unfold hasM at hm
    rw [Int.toNat_natCast] at hm
    cases hc : p[s]? with
    | none => rw [hc] at hm; simp at hm
    | some cl =>
      rw [hc] at hm
      obtain ⟨own, ho⟩ := Option.isSome_iff_exists.1 hm
      exact ⟨cl, own, rfl, ho⟩
theorem main_there {p : Prg} (hok : okP p = true) : ∃ cl own, p[0]? = some cl ∧ ownF cl 0 = some own := by
  have hm : mainOk p = true := by unfold okP at hok; simp only [Bool.and_eq_true] at hok; exact hok.2
  unfold mainOk at hm
  cases hc : p[0]? with
  | none => rw [hc] at hm; simp at hm
  | some cl =>
    rw [hc] at hm
    dsimp only at hm
    cases ho : ownF cl 0 with
    | none => rw [ho] at hm; simp at hm
    | some own => exact ⟨cl, own, rfl, ho⟩
theorem rd_there {p : Prg} (hok : okP p = true) : ∀ {b : Bool} {c : Nat} {n : Int}, Rd p b c n → (b = false → c < p.length) ∧ (b = true → ∃ cl own, p[c]? = some cl ∧ ownF cl n = some own) := by
  intro b c n hr
  obtain ⟨cl, own, h1, h2⟩ := main_there hok
  have h0 : 0 < p.length := (List.getElem?_eq_some_iff.1 h1).1
  cases hr with
  | made => exact ⟨fun _ => h0, fun e => Bool.noConfusion e⟩
  | main => exact ⟨fun e => Bool.noConfusion e, fun _ => ⟨cl, own, h1, h2⟩⟩
  | new _ hi ho ha hl => exact ⟨fun _ => hl, fun e => Bool.noConfusion e⟩
  | call _ hi ho ha hl hs => exact ⟨fun e => Bool.noConfusion e, fun _ => sel_there hs⟩
  | meet _ hi ho ha hl _ hu hs => exact ⟨fun e => Bool.noConfusion e, fun _ => sel_there hs⟩
theorem nd_there {p : Prg} (hok : okP p = true) {c : Nat} (h : Nd p c) : c < p.length := by
  cases h with
  | made h => exact (rd_there hok h).1 rfl
  | live h => obtain ⟨_, _, h1, _⟩ := (rd_there hok h).2 rfl; exact (List.getElem?_eq_some_iff.1 h1).1
  | gives _ _ _ _ hl => exact hl
  | args _ _ _ _ hl => exact hl
  | step _ _ _ _ hl => exact hl
  | sup _ _ _ hl => exact hl
  | field _ _ _ hl => exact hl
end Pg
end Go.Proofs.YtinanjjhkddikaaGreat

/- The program's search for what is reached, plainly: what is found, what is still to do; where nothing is to do all is found, and no more. -/
namespace Go.Proofs.YtinanjjhkddikaaGreat
namespace Pg
open Go.ChangeShapes Go.WideShapes Go.ChangeAt Go.RowKit St Wd

/-- What a find alone brings (but for what made classes and calls bring together). -/
structure Done (p : Prg) (F : Fd → Prop) (w : Int) (c : Nat) (n : Int) : Prop where
  need : F (3, (c : Int), 0)
  gives : w = 1 → ∀ cl own t, p[c]? = some cl → ownF cl n = some own → own.gives = ((t : Nat) : Int) → t < p.length → F (3, (t : Int), 0)
  args : w = 1 → ∀ cl own t, p[c]? = some cl → ownF cl n = some own → ((t : Nat) : Int) ∈ own.args → t < p.length → F (3, (t : Int), 0)
  new : w = 1 → ∀ i A, Runs p c n i → i.1 = 14 → i.2.1 = ((A : Nat) : Int) → A < p.length → F (0, (A : Int), 0)
  fld : w = 1 → ∀ i A, Runs p c n i → (i.1 = 15 ∨ i.1 = 16) → i.2.1 = ((A : Nat) : Int) → A < p.length → F (3, (A : Int), 0)
  call : w = 1 → ∀ i A, Runs p c n i → i.1 = 17 → i.2.1 = ((A : Nat) : Int) → A < p.length → F (2, (A : Int), i.2.2)
  own : w = 2 → ∀ s, selF p (c : Int) n = ((s : Nat) : Int) → F (1, (s : Int), n)
  sup : w = 3 → ∀ cl s, p[c]? = some cl → cl.super = ((s : Nat) : Int) → s < p.length → F (3, (s : Int), 0)
  field : w = 3 → ∀ cl t, p[c]? = some cl → ((t : Nat) : Int) ∈ cl.fields → t < p.length → F (3, (t : Int), 0)
theorem Done.up {p : Prg} {F F' : Fd → Prop} (hF : ∀ f, F f → F' f) {w : Int} {c : Nat} {n : Int} (h : Done p F w c n) : Done p F' w c n :=
  ⟨hF _ h.need, fun e cl own t h1 h2 h3 h4 => hF _ (h.gives e cl own t h1 h2 h3 h4), fun e cl own t h1 h2 h3 h4 => hF _ (h.args e cl own t h1 h2 h3 h4), fun e i A h1 h2 h3 h4 => hF _ (h.new e i A h1 h2 h3 h4),
    fun e i A h1 h2 h3 h4 => hF _ (h.fld e i A h1 h2 h3 h4), fun e i A h1 h2 h3 h4 => hF _ (h.call e i A h1 h2 h3 h4), fun e s h1 => hF _ (h.own e s h1), fun e cl s h1 h2 h3 => hF _ (h.sup e cl s h1 h2 h3), fun e cl t h1 h2 h3 => hF _ (h.field e cl t h1 h2 h3)⟩
/-- What may be found. -/
structure SndF (p : Prg) (f : Fd) : Prop where
  at' : ∃ c : Nat, f.2.1 = (c : Int) ∧ c < p.length
  what : f.1 = 0 ∨ f.1 = 1 ∨ f.1 = 2 ∨ f.1 = 3
  made : f.1 = 0 → f.2.2 = 0 ∧ Rd p false f.2.1.toNat 0
  live : f.1 = 1 → Rd p true f.2.1.toNat f.2.2
  call : f.1 = 2 → ∃ c n i, Rd p true c n ∧ Runs p c n i ∧ i.1 = 17 ∧ i.2.1 = f.2.1 ∧ i.2.2 = f.2.2
  need : f.1 = 3 → f.2.2 = 0 ∧ Nd p f.2.1.toNat
structure SrI (p : Prg) (F T : Fd → Prop) : Prop where
  sub : ∀ f, T f → F f
  snd : ∀ f, F f → SndF p f
  made : F (0, 0, 0)
  main : F (1, 0, 0)
  done : ∀ w (c : Nat) n, F (w, (c : Int), n) → ¬ T (w, (c : Int), n) → Done p F w c n
  pair : ∀ (d A : Nat) B s, F (0, (d : Int), 0) → ¬ T (0, (d : Int), 0) → F (2, (A : Int), B) → ¬ T (2, (A : Int), B) → undB p (d : Int) (A : Int) = true → selF p (d : Int) B = ((s : Nat) : Int) → F (1, (s : Int), B)
/-- One find is followed: what it brings is found, what is new is to do. -/
theorem SrI.follow {p : Prg} {F T F' T' : Fd → Prop} (h : SrI p F T) {w : Int} {c : Nat} {n : Int} (hf : T (w, (c : Int), n)) (hF : ∀ f, F f → F' f) (hS : ∀ f, F' f → SndF p f)
    (hT1 : ∀ f, T' f → F' f) (hT2 : ∀ f, T f → f ≠ (w, (c : Int), n) → T' f) (hT3 : ∀ f, F' f → ¬ F f → T' f) (hD : Done p F' w c n)
    (hP1 : w = 0 → ∀ (A : Nat) B s, F (2, (A : Int), B) → undB p (c : Int) (A : Int) = true → selF p (c : Int) B = ((s : Nat) : Int) → F' (1, (s : Int), B))
    (hP2 : w = 2 → ∀ (d : Nat) s, F (0, (d : Int), 0) → undB p (d : Int) (c : Int) = true → selF p (d : Int) n = ((s : Nat) : Int) → F' (1, (s : Int), n)) : SrI p F' T' := by
  have old : ∀ f, F' f → ¬ T' f → F f := fun f h1 h2 => Classical.byContradiction fun h3 => h2 (hT3 f h1 h3)
  refine ⟨hT1, hS, hF _ h.made, hF _ h.main, fun w' c' n' h1 h2 => ?_, fun d A B s h1 h2 h3 h4 hu hs => ?_⟩
  · have h3 := old _ h1 h2
    by_cases e : ((w', (c' : Int), n') : Fd) = (w, (c : Int), n)
    · simp only [Prod.mk.injEq] at e
      obtain ⟨rfl, e2, rfl⟩ := e
      obtain rfl : c' = c := by omega
      exact hD
    · exact (h.done w' c' n' h3 fun ht => h2 (hT2 _ ht e)).up hF
  · have g1 := old _ h1 h2
    have g3 := old _ h3 h4
    by_cases e1 : ((0, (d : Int), 0) : Fd) = (w, (c : Int), n)
    · simp only [Prod.mk.injEq] at e1
      obtain ⟨rfl, e2, rfl⟩ := e1
      obtain rfl : d = c := by omega
      exact hP1 rfl A B s g3 hu hs
    · by_cases e2 : ((2, (A : Int), B) : Fd) = (w, (c : Int), n)
      · simp only [Prod.mk.injEq] at e2
        obtain ⟨rfl, e3, rfl⟩ := e2
        obtain rfl : A = c := by omega
        exact hP2 rfl d s g1 hu hs
      · exact hF _ (h.pair d A B s g1 (fun ht => h2 (hT2 _ ht e1)) g3 (fun ht => h4 (hT2 _ ht e2)) hu hs)
/-- Where nothing is to do, what is found is what is reached and needed. -/
theorem SrI.ends {p : Prg} {F T : Fd → Prop} (h : SrI p F T) (hT : ∀ f, ¬ T f) :
    (∀ c : Nat, F (0, (c : Int), 0) ↔ Rd p false c 0) ∧ (∀ (c : Nat) n, F (1, (c : Int), n) ↔ Rd p true c n) ∧ ∀ c : Nat, F (3, (c : Int), 0) ↔ Nd p c := by
  have hcl : ClR p (fun c => F (0, (c : Int), 0)) (fun c n => F (1, (c : Int), n)) := by
    refine ⟨h.made, h.main, fun c n i A hl hi ho ha hlt => (h.done 1 c n hl (hT _)).new rfl i A hi ho ha hlt, fun c n i A s hl hi ho ha hlt hs => ?_, fun c n i A d s hl hi ho ha hlt hd hu hs => ?_⟩
    · have hc := (h.done 1 c n hl (hT _)).call rfl i A hi ho ha hlt
      exact (h.done 2 A _ hc (hT _)).own rfl s hs
    · have hc := (h.done 1 c n hl (hT _)).call rfl i A hi ho ha hlt
      exact h.pair d A _ s hd (hT _) hc (hT _) hu hs
  have h0 : ∀ c : Nat, F (0, (c : Int), 0) ↔ Rd p false c 0 := fun c =>
    ⟨fun hf => by have := ((h.snd _ hf).made rfl).2; simpa using this, fun hr => (rd_least hcl hr).1 rfl⟩
  have h1 : ∀ (c : Nat) n, F (1, (c : Int), n) ↔ Rd p true c n := fun c n =>
    ⟨fun hf => by have := (h.snd _ hf).live rfl; simpa using this, fun hr => (rd_least hcl hr).2 rfl⟩
  refine ⟨h0, h1, fun c => ⟨fun hf => by have := ((h.snd _ hf).need rfl).2; simpa using this, fun hn => ?_⟩⟩
  refine nd_least (D := fun c => F (3, (c : Int), 0)) ⟨?_, ?_, ?_, ?_, ?_, ?_, ?_⟩ hn
  · exact fun c hr => (h.done 0 c 0 ((h0 c).2 hr) (hT _)).need
  · exact fun c n hr => (h.done 1 c n ((h1 c n).2 hr) (hT _)).need
  · exact fun c n cl own t hr hc ho ht hl => (h.done 1 c n ((h1 c n).2 hr) (hT _)).gives rfl cl own t hc ho ht hl
  · exact fun c n cl own t hr hc ho ht hl => (h.done 1 c n ((h1 c n).2 hr) (hT _)).args rfl cl own t hc ho ht hl
  · intro c n i A hr hi ho ha hl
    have hd := h.done 1 c n ((h1 c n).2 hr) (hT _)
    rcases ho with ho | ho | ho
    · exact hd.fld rfl i A hi (.inl ho) ha hl
    · exact hd.fld rfl i A hi (.inr ho) ha hl
    · exact (h.done 2 A _ (hd.call rfl i A hi ho ha hl) (hT _)).need
  · exact fun c s cl hd hc hs hl => (h.done 3 c 0 hd (hT _)).sup rfl cl s hc hs hl
  · exact fun c t cl hd hc ht hl => (h.done 3 c 0 hd (hT _)).field rfl cl t hc ht hl
/-- How the search begins. -/
theorem SrI.start {p : Prg} (h0 : 0 < p.length) : SrI p (fun f => f = (0, 0, 0) ∨ f = (1, 0, 0)) (fun f => f = (0, 0, 0) ∨ f = (1, 0, 0)) := by
  refine ⟨fun _ h => h, fun f hf => ?_, .inl rfl, .inr rfl, fun w c n h1 h2 => absurd h1 h2, fun d A B s h1 h2 => absurd h1 h2⟩
  rcases hf with rfl | rfl
  · exact ⟨⟨0, rfl, h0⟩, .inl rfl, fun _ => ⟨rfl, .made⟩, fun e => by simp at e, fun e => by simp at e, fun e => by simp at e⟩
  · exact ⟨⟨0, rfl, h0⟩, .inr (.inl rfl), fun e => by simp at e, fun _ => .main, fun e => by simp at e, fun e => by simp at e⟩
end Pg
end Go.Proofs.YtinanjjhkddikaaGreat

/- Machines as plain data: what a right one is, how one begins; the fields of a class. -/
namespace Go.Proofs.YtinanjjhkddikaaGreat
namespace Pg
open Go.ChangeShapes Go.WideShapes Go.ChangeAt Go.RowKit St Wd

abbrev Vl := Int × Int
structure Ob where
  cls : Int
  flds : List Vl
structure Fr where
  cls : Int
  name : Int
  pos : Int
  stk : List Vl
  loc : List Vl
structure Mc where
  heap : List Ob
  frames : List Fr
  said : List Int
  fin : Int
  code : Int
instance : Inhabited Ob := ⟨⟨0, []⟩⟩
instance : Inhabited Fr := ⟨⟨0, 0, 0, [], []⟩⟩

/-- The fields of a class, from the highest above it on. -/
def fieldsR (p : Prg) : Nat → Int → List Int
  | 0, _ => []
  | f + 1, up => if up < 0 then [] else match p[up.toNat]? with | none => [] | some c => fieldsR p f c.super ++ c.fields
def fieldsF (p : Prg) (t : Int) : List Int := if okP p && (decide (0 ≤ t) && decide (t < (p.length : Int))) then fieldsR p 6 t else []
theorem fieldsR_neg (p : Prg) (f : Nat) {up : Int} (h : up < 0) : fieldsR p f up = [] := by
  cases f with
  | zero => rfl
  | succ f => simp [fieldsR, h]
theorem fieldsR_fuel {p : Prg} {n : Nat} (hs : SupOk p n) : ∀ (f g : Nat) (up : Int), up < (n : Int) → up < (f : Int) → up < (g : Int) → fieldsR p f up = fieldsR p g up := by
  intro f
  induction f with
  | zero => intro g up _ h1 _; rw [fieldsR_neg _ _ (by omega), fieldsR_neg _ _ (by omega)]
  | succ f ih =>
    intro g up hn h1 h2
    by_cases h0 : up < 0
    · rw [fieldsR_neg _ _ h0, fieldsR_neg _ _ h0]
    · cases g with
      | zero => omega
      | succ g =>
        simp only [fieldsR, h0, if_false]
        cases hc : p[up.toNat]? with
        | none => rfl
        | some c =>
          have := hs up.toNat c (by omega) hc
          simp only []
          rw [ih g c.super (by omega) (by omega) (by omega)]
theorem fieldsR_step {p : Prg} {n : Nat} (hs : SupOk p n) {u : Nat} (hu : u < n) (h6 : u < 6) {c : Cls} (hc : p[u]? = some c) : fieldsR p 6 (u : Int) = fieldsR p 6 c.super ++ c.fields := by
  have h0 : ¬ (u : Int) < 0 := by omega
  have := hs u c hu hc
  have e : fieldsR p 5 c.super = fieldsR p 6 c.super := fieldsR_fuel hs 5 6 c.super (by omega) (by omega) (by omega)
  show (if (u : Int) < 0 then [] else match p[(u : Int).toNat]? with | none => [] | some c => fieldsR p 5 c.super ++ c.fields) = _
  rw [if_neg h0, Int.toNat_natCast, hc]
  simp only []
  rw [e]
theorem fieldsR_len {p : Prg} {n : Nat} (hs : SupOk p n) (h6 : n ≤ 6) (hn : n ≤ p.length) (h4 : ∀ j c, j < n → p[j]? = some c → c.fields.length ≤ 4) : ∀ (k : Nat) (up : Int), up < (k : Int) → up < (n : Int) → (fieldsR p 6 up).length ≤ 4 * k := by
  intro k
  induction k with
  | zero => intro up h _; rw [fieldsR_neg _ _ (by omega)]; simp
  | succ k ih =>
    intro up hk hu
    by_cases h0 : up < 0
    · rw [fieldsR_neg _ _ h0]; simp
    · obtain ⟨u, rfl⟩ := Int.eq_ofNat_of_zero_le (show 0 ≤ up by omega)
      have hc := List.getElem?_eq_getElem (show u < p.length by omega)
      have h1 := hs u _ (by omega) hc
      have h2 := h4 u _ (by omega) hc
      rw [fieldsR_step hs (by omega) (by omega) hc, List.length_append]
      have := ih p[u].super (by omega) (by omega)
      omega
theorem okP_sup {p : Prg} (h : okP p = true) : SupOk p p.length := SupOk.of fun _ hi => okP_at h hi
theorem okP_four {p : Prg} (h : okP p = true) : ∀ j c, j < p.length → p[j]? = some c → c.fields.length ≤ 4 := fun _ _ hj hc => (okC_few (by rw [← okAt_of hc]; exact okP_at h hj)).1

def frmV (l : List Vl) : List Vl := l ++ List.replicate (8 - l.length) (1, 0)
theorem frmV_len {l : List Vl} (h : l.length ≤ 8) : (frmV l).length = 8 := by simp [frmV]; omega
def valF (t : Int) : Vl := if t = -1 then (1, 0) else (3, 0)
def startM (p : Prg) : Mc := ⟨[⟨0, (fieldsR p 6 0).map valF⟩], [⟨0, 0, 0, [], frmV [(2, 0)]⟩], [], 0, 0⟩
def valB (x : Vl) : Bool := if x.1 = 1 then okB x.2 else if x.1 = 2 then decide (0 ≤ x.2) else decide (x.1 = 3) && decide (x.2 = 0)
def obB (x : Ob) : Bool := decide (x.flds.length ≤ 24) && x.flds.all valB
def frB (x : Fr) : Bool := decide (x.stk.length ≤ 8) && decide (x.loc.length = 8) && x.stk.all valB && x.loc.all valB
def machB (m : Mc) : Bool := decide (0 ≤ m.fin) && decide (m.fin ≤ 6) && !(decide (m.fin = 0) && decide (m.frames.length = 0)) && decide (m.heap.length ≤ 50) && decide (m.frames.length ≤ 30) && decide (m.said.length ≤ 20000) && m.heap.all obB && m.frames.all frB && m.said.all okB
def zeroM : Mc := ⟨[], [], [], 0, 0⟩
def startF (p : Prg) : Mc × Bool := if okP p then (startM p, true) else (zeroM, false)
end Pg
end Go.Proofs.YtinanjjhkddikaaGreat

/- What comes out of two numbers, as the specification tells it. -/
namespace Go.Proofs.YtinanjjhkddikaaGreat
namespace Pg
open Go.ChangeShapes Go.WideShapes Go.ChangeAt Go.RowKit Wd

def sumS (op a b : Int) : Int := if op = 4 then wrap32 (a + b) else if op = 5 then wrap32 (a - b) else if op = 6 then wrap32 (a * b) else wrap32 (a.tdiv b)
end Pg
end Go.Proofs.YtinanjjhkddikaaGreat
