/- What the law of liveness wants, plainly: two machines that differ in what is not live alone, side by side. -/
import Derived.Test.YtffkkhaiedhaiaaJNx7
import Derived.Test.YtffkkhaiedhaiaaJRn0
import Derived.Test.YtffkkhaiedhaiaaRows
import Derived.WalkKit
import Derived.ProofKit
import Derived.Below
import Derived.Laws.Bits128
import Derived.WalkLawsBesides
import Derived.WalkSpells
import Derived.BigQuiet
import Derived.Deep.QuietTactic
namespace Go.Proofs.Ytffkkhaiedhaiaa
namespace Pg
open Go.ChangeShapes Go.WideShapes Go.ChangeAt Go.RowKit St Wd

theorem ran_way {a : List Tx.Ins} (hok : Lay.codeOk a = true) : ∀ (n : Nat) (m : Mc), (m.fin = 0 → m.frames ≠ []) → machB m = true → (m.fin = 0 → WayI a m ∧ PosI a m) → ((ranS (mainP a) n m).1.fin = 0 → WayI a (ranS (mainP a) n m).1 ∧ PosI a (ranS (mainP a) n m).1)
  | 0, m, _, _, h => h
  | n + 1, m, hne, hm, h => by
    by_cases hf : m.fin = 0
    · rw [ran_step hf]
      have hm' := mach_step (mainP_ok hok) hm
      refine ran_way hok n _ ((mach_core _).1 hm').2.2.2 hm' fun h0 => ?_
      obtain ⟨h1, h2⟩ := h hf
      obtain ⟨f, hl⟩ : ∃ f, m.frames.getLast? = some f := ⟨m.frames.getLast (hne hf), List.getLast?_eq_some_getLast (hne hf)⟩
      obtain ⟨g1, _⟩ := way_step hok h1 hl h0
      exact ⟨⟨g1.all, g1.low⟩, pos_step hok h1 h2 hl h0⟩
    · rw [ran_end hf]; exact h
theorem Sim.locals {a : List Tx.Ins} {m : Mc} {f : Fr} (hm : m.frames = [f]) {l : List Vl} (hl : l.length = 8) (h8 : f.loc.length = 8) (hlive : ∀ v, v < 8 → lvB a f.pos.toNat v = true → l[v]? = f.loc[v]?) : Sim a m { m with frames := [{ f with loc := l }] } := by
  refine ⟨rfl, rfl, rfl, rfl, by rw [hm]; rfl, fun i x y hx hy => ?_⟩
  rw [hm] at hx
  cases i with
  | zero =>
    simp only [List.getElem?_cons_zero, Option.some.injEq] at hx hy
    subst hx hy
    exact ⟨rfl, h8, hl, fun v hv _ _ hlv => (hlive v hv hlv).symm⟩
  | succ i => simp at hx
theorem sim_stepped {a : List Tx.Ins} (hok : Lay.codeOk a = true) {x y : Mc} (hw : x.fin = 0 → WayI a x) (hmx : machB x = true) (hmy : machB y = true) (hs : Sim a x y) : Sim a (steppedS (mainP a) x) (steppedS (mainP a) y) := by
  unfold steppedS
  rw [mainP_ok hok, hmx, hmy, if_pos (show (true && true) = true from rfl), if_pos (show (true && true) = true from rfl)]
  by_cases hf : x.fin = 0
  · obtain ⟨h1, h2⟩ := sim_step hok (hw hf) hmx hs
    rw [if_pos hf, if_pos (by rw [hs.fin]; exact hf)]
    exact ⟨h2.heap, h2.said, h1.symm, h2.code, h2.len, h2.fr⟩
  · rw [if_neg hf, if_neg (by rw [hs.fin]; exact hf)]
    exact hs
theorem Sim.pos {a : List Tx.Ins} {x y : Mc} (hs : Sim a x y) (h : ∀ f ∈ x.frames, 0 ≤ f.pos ∧ f.pos ≤ 1000) : ∀ f ∈ y.frames, 0 ≤ f.pos ∧ f.pos ≤ 1000 := fun g hg => by
  obtain ⟨i, hi, rfl⟩ := List.getElem_of_mem hg
  have hlx : i < x.frames.length := by rw [hs.len]; exact hi
  have := hs.fr i _ _ (List.getElem?_eq_getElem hlx) (List.getElem?_eq_getElem hi)
  have hp : y.frames[i].pos = x.frames[i].pos := by rw [this.eq]
  rw [hp]
  exact h _ (List.getElem_mem hlx)
theorem mach_locals {m : Mc} (h : machB m = true) {f : Fr} (hm : m.frames = [f]) {l : List Vl} (hl : l.length = 8) (hv : VsOk l) : machB { m with frames := [{ f with loc := l }] } = true := by
  obtain ⟨hc, h1, h2, h3⟩ := (mach_core m).1 h
  have hf := hc.fr f (by rw [hm]; simp)
  refine (mach_core _).2 ⟨⟨hc.h50, by simp, hc.s20, hc.ob, fun g hg => ?_, hc.sd⟩, h1, h2, fun _ => by simp⟩
  simp only [List.mem_singleton] at hg
  subst hg
  exact ⟨hf.s8, hl, hf.sv, hv⟩
theorem way_stepped {a : List Tx.Ins} (hok : Lay.codeOk a = true) {x : Mc} (hm : machB x = true) (h : x.fin = 0 → WayI a x ∧ PosI a x) : (steppedS (mainP a) x).fin = 0 → WayI a (steppedS (mainP a) x) ∧ PosI a (steppedS (mainP a) x) := by
  unfold steppedS
  rw [mainP_ok hok, hm, if_pos (show (true && true) = true from rfl)]
  by_cases hf : x.fin = 0
  · rw [if_pos hf]
    intro h0
    obtain ⟨h1, h2⟩ := h hf
    have hne := ((mach_core x).1 hm).2.2.2 hf
    have hl : x.frames.getLast? = some (x.frames.getLast hne) := List.getLast?_eq_some_getLast hne
    obtain ⟨g1, _⟩ := way_step hok h1 hl h0
    exact ⟨⟨g1.all, g1.low⟩, pos_step hok h1 h2 hl h0⟩
  · rw [if_neg hf]
    exact h
theorem mach_stepped {a : List Tx.Ins} (hok : Lay.codeOk a = true) {x : Mc} (hm : machB x = true) : machB (steppedS (mainP a) x) = true := by
  unfold steppedS
  rw [mainP_ok hok, hm, if_pos (show (true && true) = true from rfl)]
  by_cases hf : x.fin = 0
  · rw [if_pos hf]; exact mach_step (mainP_ok hok) hm
  · rw [if_neg hf]; exact hm
/-- Where a step ends, the frames are as they were, or all gone. -/
theorem stop_give (m : Mc) (v : Vl) : (giveS m v).2 ≠ 0 → (giveS m v).1.frames = m.frames ∨ (giveS m v).1.frames = [] := by
  unfold giveS
  split
  · exact fun _ => .inr rfl
  · split
    · exact fun _ => .inl rfl
    · exact fun h => absurd rfl h
theorem stop_call (p : Prg) (m : Mc) (f : Fr) (A B : Int) : (callS p m f A B).2 ≠ 0 → (callS p m f A B).1.frames = m.frames ∨ (callS p m f A B).1.frames = [] := by
  unfold callS
  split
  · exact fun _ => .inl rfl
  · split
    · exact fun _ => .inl rfl
    · split
      · exact fun _ => .inl rfl
      · dsimp only
        split
        · exact fun _ => .inl rfl
        · split
          · exact fun _ => .inl rfl
          · split
            · exact fun _ => .inl rfl
            · split
              · exact fun _ => .inl rfl
              · exact fun h => absurd rfl h
theorem stop_on (m m' : Mc) (f : Fr) (t : Nat) (put : List Vl) (q : Int) : (onS m' f t put q).2 ≠ 0 → (onS m' f t put q).1.frames = m.frames ∨ (onS m' f t put q).1.frames = [] := fun h => absurd rfl h
theorem stop_same (m : Mc) (e : Int) : ((m, e) : Mc × Int).2 ≠ 0 → ((m, e) : Mc × Int).1.frames = m.frames ∨ ((m, e) : Mc × Int).1.frames = [] := fun _ => .inl rfl
theorem stop_stepI (p : Prg) (m : Mc) (f : Fr) (own : Meth) (i : Tx.Ins) : (stepI p m f own i).2 ≠ 0 → (stepI p m f own i).1.frames = m.frames ∨ (stepI p m f own i).1.frames = [] := by
  unfold stepI
  dsimp only
  by_cases hst : f.stk.length < takesS i.1 ∨ 8 < f.stk.length - takesS i.1 + putsS i.1
  · rw [if_pos hst]; exact stop_same _ _
  rw [if_neg hst]
  by_cases e1 : i.1 = 1
  · rw [if_pos e1]; exact stop_on _ _ _ _ _ _
  rw [if_neg e1]
  by_cases e2 : i.1 = 2
  · rw [if_pos e2]; exact stop_on _ _ _ _ _ _
  rw [if_neg e2]
  by_cases e3 : i.1 = 3
  · rw [if_pos e3]; exact stop_on _ _ _ _ _ _
  rw [if_neg e3]
  by_cases e4 : i.1 = 4 ∨ i.1 = 5 ∨ i.1 = 6 ∨ i.1 = 7
  · rw [if_pos e4]
    split
    · exact stop_same _ _
    · split
      · exact stop_same _ _
      · exact stop_on _ _ _ _ _ _
  rw [if_neg e4]
  by_cases e8 : i.1 = 8
  · rw [if_pos e8]; exact stop_on _ _ _ _ _ _
  rw [if_neg e8]
  by_cases e9 : i.1 = 9
  · rw [if_pos e9]; exact stop_on _ _ _ _ _ _
  rw [if_neg e9]
  by_cases e10 : i.1 = 10
  · rw [if_pos e10]; exact stop_on _ _ _ _ _ _
  rw [if_neg e10]
  by_cases e11 : i.1 = 11
  · rw [if_pos e11]; exact stop_on _ _ _ _ _ _
  rw [if_neg e11]
  by_cases e12 : i.1 = 12
  · rw [if_pos e12]
    split
    · exact stop_same _ _
    · exact stop_on _ _ _ _ _ _
  rw [if_neg e12]
  by_cases e13 : i.1 = 13
  · rw [if_pos e13]; exact stop_on _ _ _ _ _ _
  rw [if_neg e13]
  by_cases e14 : i.1 = 14
  · rw [if_pos e14]
    split
    · exact stop_same _ _
    · split
      · exact stop_same _ _
      · exact stop_on _ _ _ _ _ _
  rw [if_neg e14]
  by_cases e15 : i.1 = 15
  · rw [if_pos e15]
    split
    · exact stop_same _ _
    · split
      · exact stop_same _ _
      · split
        · exact stop_same _ _
        · split
          · exact stop_same _ _
          · exact stop_on _ _ _ _ _ _
  rw [if_neg e15]
  by_cases e16 : i.1 = 16
  · rw [if_pos e16]
    split
    · exact stop_same _ _
    · split
      · exact stop_same _ _
      · split
        · exact stop_same _ _
        · split
          · exact stop_same _ _
          · exact stop_on _ _ _ _ _ _
  rw [if_neg e16]
  by_cases e17 : i.1 = 17
  · rw [if_pos e17]; exact stop_call _ _ _ _ _
  rw [if_neg e17]
  by_cases e18 : i.1 = 18
  · rw [if_pos e18]
    split
    · exact stop_same _ _
    · exact stop_on _ _ _ _ _ _
  rw [if_neg e18]
  by_cases e19 : i.1 = 19
  · rw [if_pos e19]
    split
    · exact stop_same _ _
    · exact stop_on _ _ _ _ _ _
  rw [if_neg e19]
  split
  · exact stop_same _ _
  · exact stop_give _ _
theorem stop_frames (p : Prg) (m : Mc) (h : (stepS p m).2 ≠ 0) : (stepS p m).1.frames = m.frames ∨ (stepS p m).1.frames = [] := by
  revert h
  unfold stepS
  split
  · exact stop_same _ _
  · split
    · exact stop_same _ _
    · split
      · exact stop_same _ _
      · exact stop_stepI _ _ _ _ _
def PosT (m : Mc) : Prop := ∀ f ∈ m.frames, 0 ≤ f.pos ∧ f.pos ≤ 1000
theorem pos_way {a : List Tx.Ins} (h40 : a.length ≤ 40) {m : Mc} (h : WayI a m) (hp : PosI a m) : PosT m := fun f hf => by
  have h1 := (h.all f hf).2.2.1
  have h2 := hp f hf
  omega
theorem pos_stepped {a : List Tx.Ins} (hok : Lay.codeOk a = true) {x : Mc} (hm : machB x = true) (h : x.fin = 0 → WayI a x ∧ PosI a x) (hp : PosT x) : PosT (steppedS (mainP a) x) := by
  have hw := way_stepped hok hm h
  revert hw
  unfold steppedS
  rw [mainP_ok hok, hm, if_pos (show (true && true) = true from rfl)]
  by_cases hf : x.fin = 0
  · rw [if_pos hf]
    intro hw
    by_cases h0 : (stepS (mainP a) x).2 = 0
    · obtain ⟨h1, h2⟩ := hw h0
      exact pos_way (Lay.ok_len hok).2 h1 h2
    · intro f hf'
      rcases stop_frames (mainP a) x h0 with e | e
      · exact hp f (by rw [← e]; exact hf')
      · have : f ∈ (stepS (mainP a) x).1.frames := hf'
        rw [e] at this
        simp at this
  · rw [if_neg hf]
    exact fun _ => hp
end Pg
end Go.Proofs.Ytffkkhaiedhaiaa

/- The cursor over the drawn bytes: what it is, and the plain facts on it. -/
namespace Go.Proofs.Ytffkkhaiedhaiaa
namespace Cu
open Go.ChangeShapes Go.WideShapes Go.ChangeAt Go.RowKit

theorem and255 (n : Int) : bits .and .i64 n 255 = n % 256 := by
  have h255 : (BitVec.ofInt 64 255).toNat = 2 ^ 8 - 1 := by decide
  have key : (BitVec.ofInt 64 n &&& BitVec.ofInt 64 255).toNat = (n % ((2 ^ 64 : Nat) : Int)).toNat % 2 ^ 8 := by
    rw [BitVec.toNat_and, BitVec.toNat_ofInt, h255, Nat.and_two_pow_sub_one_eq_mod]
  show IntKind.i64.wrap ((BitVec.ofInt 64 n &&& BitVec.ofInt 64 255).toNat : Nat) = n % 256
  rw [key, IntKind.wrap_i64]
  omega
theorem and30 (n : Int) : bits .and .i64 n 1073741823 = n % 1073741824 := by
  have h30 : (BitVec.ofInt 64 1073741823).toNat = 2 ^ 30 - 1 := by decide
  have key : (BitVec.ofInt 64 n &&& BitVec.ofInt 64 1073741823).toNat = (n % ((2 ^ 64 : Nat) : Int)).toNat % 2 ^ 30 := by
    rw [BitVec.toNat_and, BitVec.toNat_ofInt, h30, Nat.and_two_pow_sub_one_eq_mod]
  show IntKind.i64.wrap ((BitVec.ofInt 64 n &&& BitVec.ofInt 64 1073741823).toNat : Nat) = n % 1073741824
  rw [key, IntKind.wrap_i64]
  omega
theorem and255_bd (n : Int) : 0 ≤ bits .and .i64 n 255 ∧ bits .and .i64 n 255 ≤ 255 := by
  rw [and255]; omega
theorem and30_bd (n : Int) : 0 ≤ bits .and .i64 n 1073741823 ∧ bits .and .i64 n 1073741823 ≤ 1073741823 := by
  rw [and30]; omega

/-- The bytes that came in: a row of at most 4096 cells below block B. -/
def Bytes (B : Nat) (w : World) (a : Option Addr) (len : Nat) : Prop :=
  len ≤ 4096 ∧ ∀ j, j < len → ∃ b off : Nat, ∃ z : Int, a = some ⟨b, off, none⟩ ∧ b < B ∧ w.cell? ⟨b, off + j, none⟩ = some (.int .u8 z) ∧ 0 ≤ z ∧ z ≤ 255

theorem Bytes.below {B : Nat} {w w' : World} {a : Option Addr} {len : Nat} (h : Bytes B w a len) (hb : Below B w w') : Bytes B w' a len :=
  ⟨h.1, fun j hj => by
    obtain ⟨b, off, z, ha, hB, hc, h0, h1⟩ := h.2 j hj
    exact ⟨b, off, z, ha, hB, (hb.cell (p := ⟨b, off + j, none⟩) hB).trans hc, h0, h1⟩⟩

/-- A cursor in block c, not below B, over bytes that lie below B. -/
def Cur (B : Nat) (w : World) (c : Nat) (a : Option Addr) (len cap : Nat) : Prop :=
  B ≤ c ∧ c < w.heap.size ∧ w.cell? ⟨c, 0, none⟩ = some (.slice a len cap) ∧
  (∃ i : Nat, i ≤ len ∧ w.cell? ⟨c, 1, none⟩ = some (.int .i64 i)) ∧
  (∃ h : Int, w.cell? ⟨c, 2, none⟩ = some (.int .i64 h)) ∧
  w.frozen? ⟨c, 1, none⟩ = false ∧ w.frozen? ⟨c, 2, none⟩ = false ∧ Bytes B w a len

/-- No block but c has turned, and none has gone. -/
structure Touch (c : Nat) (w w' : World) : Prop where
  os : w'.os = w.os
  tape : w'.tape = w.tape
  output : w'.output = w.output
  size : w.heap.size ≤ w'.heap.size
  block : ∀ k, k < w.heap.size → k ≠ c → w'.heap[k]? = w.heap[k]?
theorem Touch.refl (c : Nat) (w : World) : Touch c w w := ⟨rfl, rfl, rfl, Nat.le_refl _, fun _ _ _ => rfl⟩
theorem Touch.trans {c : Nat} {u v w : World} (h : Touch c u v) (k : Touch c v w) : Touch c u w :=
  ⟨k.os.trans h.os, k.tape.trans h.tape, k.output.trans h.output, Nat.le_trans h.size k.size, fun i hi hc => (k.block i (Nat.lt_of_lt_of_le hi h.size) hc).trans (h.block i hi hc)⟩
theorem Touch.drewN {c : Nat} {u w : World} (h : Touch c u w) (n : Nat) : Touch c u (w.drewN n) := ⟨h.os, h.tape, h.output, h.size, h.block⟩
theorem Touch.drew {c : Nat} {u w : World} (h : Touch c u w) : Touch c u w.drew := ⟨h.os, h.tape, h.output, h.size, h.block⟩
theorem Touch.setCell {c : Nat} {u w : World} (h : Touch c u w) (o : Nat) (v : Value) : Touch c u (w.setCell ⟨c, o, none⟩ v) := by
  have hb := (Below.refl c w).setCell (p := ⟨c, o, none⟩) (Nat.le_refl c) v
  exact h.trans ⟨hb.os, hb.tape, hb.output, hb.size, fun k _ hc => Below.heap_setCell w _ _ k hc⟩
theorem Touch.alloc {c : Nat} {u w : World} (h : Touch c u w) (o : Obj) : Touch c u (w.alloc o) := by
  have hb := (Below.refl w.heap.size w).alloc (Nat.le_refl _) o
  exact h.trans ⟨hb.os, hb.tape, hb.output, hb.size, fun k hk _ => hb.block k hk⟩
theorem Touch.below {c B : Nat} {u w : World} (h : Touch c u w) (hc : B ≤ c) (hs : B ≤ u.heap.size) : Below B u w :=
  ⟨h.os, h.tape, h.output, h.size, fun k hk => h.block k (by omega) (by omega)⟩
theorem Touch.cell {c : Nat} {u w : World} (h : Touch c u w) {p : Addr} (hp : p.block < u.heap.size) (hc : p.block ≠ c) : w.cell? p = u.cell? p := World.cell?_of_block (w := u) (h.block p.block hp hc)

/-- What lies below the cursor's own block, and the cursor's block itself, is as it was. -/
theorem Cur.later {B c : Nat} {w w' : World} {a : Option Addr} {len cap : Nat} (h : Cur B w c a len cap) {B' : Nat} (hb : Below B' w w') (hB : c < B') : Cur B w' c a len cap := by
  obtain ⟨h0, h1, h2, ⟨i, hi, h3⟩, ⟨g, h4⟩, h5, h6, h7⟩ := h
  have cc := fun o => hb.cell (p := ⟨c, o, none⟩) hB
  have ff := fun o => hb.frozen (p := ⟨c, o, none⟩) hB
  exact ⟨h0, Nat.lt_of_lt_of_le h1 hb.size, (cc 0).trans h2, ⟨i, hi, (cc 1).trans h3⟩, ⟨g, (cc 2).trans h4⟩, (ff 1).trans h5, (ff 2).trans h6, h7.below (hb.mono (by omega))⟩
theorem Cur.alloc {B c : Nat} {w : World} {a : Option Addr} {len cap : Nat} (h : Cur B w c a len cap) (o : Obj) : Cur B (w.alloc o) c a len cap :=
  h.later ((Below.refl w.heap.size w).alloc (Nat.le_refl _) o) h.2.1
theorem Cur.set2 {B c : Nat} {w : World} {a : Option Addr} {len cap : Nat} (h : Cur B w c a len cap) (g : Int) : Cur B (w.setCell ⟨c, 2, none⟩ (.int .i64 g)) c a len cap := by
  obtain ⟨h0, h1, h2, ⟨i, hi, h3⟩, ⟨g0, h4⟩, h5, h6, h7⟩ := h
  have hb : Below B w (w.setCell ⟨c, 2, none⟩ (.int .i64 g)) := (Below.refl B w).setCell (p := ⟨c, 2, none⟩) h0 _
  exact ⟨h0, Nat.lt_of_lt_of_le h1 hb.size, by simp [go_sem, h2], ⟨i, hi, by simp [go_sem, h3]⟩, ⟨g, by simp [go_sem, h4]⟩, by simp [go_sem, h5], by simp [go_sem, h6], h7.below hb⟩
theorem Cur.set1 {B c : Nat} {w : World} {a : Option Addr} {len cap : Nat} (h : Cur B w c a len cap) (k : Nat) (hk : k ≤ len) (v : Int) (hv : v = (k : Int)) : Cur B (w.setCell ⟨c, 1, none⟩ (.int .i64 v)) c a len cap := by
  subst hv
  obtain ⟨h0, h1, h2, ⟨i, hi, h3⟩, ⟨g0, h4⟩, h5, h6, h7⟩ := h
  have hb : Below B w (w.setCell ⟨c, 1, none⟩ (.int .i64 k)) := (Below.refl B w).setCell (p := ⟨c, 1, none⟩) h0 _
  exact ⟨h0, Nat.lt_of_lt_of_le h1 hb.size, by simp [go_sem, h2], ⟨k, hk, by simp [go_sem, h3]⟩, ⟨g0, by simp [go_sem, h4]⟩, by simp [go_sem, h5], by simp [go_sem, h6], h7.below hb⟩
theorem Cur.drewN {B c : Nat} {w : World} {a : Option Addr} {len cap : Nat} (h : Cur B w c a len cap) (n : Nat) : Cur B (w.drewN n) c a len cap := h
end Cu
end Go.Proofs.Ytffkkhaiedhaiaa

/- The contract of the cursor's next byte. -/
namespace Go.Proofs.Ytffkkhaiedhaiaa
namespace Cu
open Go.ChangeShapes Go.WideShapes Go.ChangeAt Go.RowKit

set_option maxHeartbeats 400000 in
theorem byte_any (B c : Nat) (w : World) (a : Option Addr) (len cap : Nat) (hcur : Cur B w c a len cap) :
    Calls Try.prog 99 #[.pointer (some ⟨c, 0, none⟩)] w fun e w' => ∃ r : Int, e = .returned (.int .i64 r) ∧ 0 ≤ r ∧ r ≤ 255 ∧ Touch c w w' ∧ Cur B w' c a len cap := by
  have HC : Hid (Cur B w c a len cap) := hcur
  obtain ⟨h0, h1, h2, ⟨i, hi, h3⟩, ⟨g, h4⟩, h5, h6, hB⟩ := hcur
  by_cases hlt : i < len
  · obtain ⟨b, off, z, rfl, hbB, hcz, hz0, hz1⟩ := hB.2 i hlt
    have hlt' : (i : Int) < (len : Int) := by omega
    have hl := hB.1
    go_enter Try.func99, Try.ntmps99
    go_wp2
    go_quiet (fail)
    go_wp2
    go_quiet (fail)
    go_wp2
    go_quiet (fail)
    go_wp2
    go_ret
    refine ⟨_, rfl, ?_, ?_, ?_, ?_⟩
    · exact (and255_bd _).1
    · exact (and255_bd _).2
    · exact (((Touch.refl c w).setCell 2 _).drewN _).setCell 1 _
    · exact ((HC.out.set2 _).drewN _).set1 (i + 1) (by omega) _ (by omega)
  · have hlt' : ¬ (i : Int) < (len : Int) := by omega
    go_enter Try.func99, Try.ntmps99
    go_wp2
    go_quiet (fail)
    go_wp2
    go_quiet (fail)
    go_wp2
    go_ret
    refine ⟨_, rfl, ?_, ?_, ?_, ?_⟩
    · exact (and255_bd _).1
    · exact (and255_bd _).2
    · exact (((Touch.refl c w).setCell 2 _).drewN _).drewN _
    · exact ((HC.out.set2 _).drewN _).drewN _
end Cu
end Go.Proofs.Ytffkkhaiedhaiaa
