/- What a copy of a program and the leaving out of methods go through. -/
import Derived.Test.YtjchmpdobghhnaaJZb0
import Derived.Deep.RegionHeld3
import Derived.Deep.CutRange
import Derived.Deep.DeepCutAuto
import Derived.Test.YtjchmpdobghhnaaJLay
import Derived.Test.YtjchmpdobghhnaaJZa1
import Derived.Deep.RegionWith
import Derived.BigQuiet
namespace Go.Proofs.Ytjchmpdobghhnaa
namespace Pg
open Go.ChangeShapes Go.WideShapes Go.ChangeAt Go.RowKit St

/-- A class's rows lie as they should; a method's. -/
def QC (L _M : Nat) (u : World) (x : Cls × Value × Value) : Prop := CV front L u x.2.1 x.2.2 x.1
def QM (L _M : Nat) (u : World) (x : Meth × Value × Value) : Prop := MV front L u x.2.1 x.2.2 x.1
theorem CV.zw {L : Nat} {w : World} {vf vm : Value} {c : Cls} (h : CV front L w vf vm c) : Zw L w.heap.size (fun u => QC L w.heap.size u (c, vf, vm)) w :=
  ⟨Nat.le_refl _, fun _ hs hk => CV.on h ⟨hs, fun k a b => hk k a b⟩⟩
theorem MV.zw {L : Nat} {w : World} {va vc : Value} {m : Meth} (h : MV front L w va vc m) : Zw L w.heap.size (fun u => QM L w.heap.size u (m, va, vc)) w :=
  ⟨Nat.le_refl _, fun _ hs hk => MV.on h ⟨hs, fun k a b => hk k a b⟩⟩
/-- The three boxes of the copy: what came in, the result's, what is made. -/
structure LC (w : World) (s : Nat) (par v : Value) (X : World) : Prop where
  lo : Below s w X
  c0 : Cells X s [par]
  c1 : Cells X (s + 1) [.slice none 0 0]
  c2 : Cells X (s + 1 + 1) [v]
  sz : s + 1 + 1 < X.heap.size
theorem zcells {u w : World} {k : Nat} {vs : List Value} (h : Cells u k vs) (hb : w.heap[k]? = u.heap[k]?) : Cells w k vs := fun i x hx => by
  obtain ⟨h1, h2⟩ := h i x hx
  exact ⟨(World.cell?_of_block (w := u) hb).trans h1, (World.frozen?_of_block (w := u) hb).trans h2⟩
theorem LC.low {w X Y : World} {s S : Nat} {par v : Value} (h : LC w s par v X) (hb : Below S X Y) (hS : s + 1 + 1 < S) : LC w s par v Y :=
  ⟨h.lo.trans (hb.mono (by omega)), zcells h.c0 (hb.block _ (by omega)), zcells h.c1 (hb.block _ (by omega)), zcells h.c2 (hb.block _ hS), Nat.lt_of_lt_of_le h.sz hb.size⟩
theorem LC.on {w X Y : World} {s : Nat} {par v : Value} (h : LC w s par v X) (hb : Below X.heap.size X Y) : LC w s par v Y := h.low hb h.sz
theorem LC.box {w X : World} {s : Nat} {par v : Value} (h : LC w s par v X) (v' : Value) : LC w s par v' (X.setCell ⟨s + 1 + 1, 0, none⟩ v') :=
  ⟨h.lo.setCell (p := ⟨s + 1 + 1, 0, none⟩) (by show s ≤ s + 1 + 1; omega) _, h.c0.far _ _ (by show s + 1 + 1 ≠ s; omega), h.c1.far _ _ (by show s + 1 + 1 ≠ s + 1; omega), h.c2.s0 _, by have := h.sz; simpa using this⟩
/-- A row of numbers ahead of block S' that stands whatever the box turns to. -/
def Fz (S S' kb : Nat) (u : World) (v : Value) (l : List Int) : Prop := Grow S u v l ∧ v.ownBlock ≠ some kb ∧ ∀ g, v.ownBlock = some g → g < S'
theorem Fz.on {S S' kb : Nat} {u w : World} {v : Value} {l : List Int} (h : Fz S S' kb u v l) (hs : ∀ k, S ≤ k → k < S' → k ≠ kb → w.heap[k]? = u.heap[k]?) : Fz S S' kb w v l :=
  ⟨⟨zown_on h.1.1 (fun g hg => by have := h.1.1.lt g hg; exact hs g this.1 (h.2.2 g hg) (fun e => h.2.1 (by rw [hg, e]))), h.1.2⟩, h.2⟩
theorem zset_block (u : World) {b i k : Nat} (hk : k ≠ b) (x : Value) : (u.setCell ⟨b, i, none⟩ x).heap[k]? = u.heap[k]? := Below.heap_setCell u ⟨b, i, none⟩ x k (fun e => hk e)

theorem cell_three (w : World) (a b c : Value) (t : TypeId) : ∀ (j : Nat) (u : Value), [a, b, c][j]? = some u → (w.alloc (.cells #[a, b, c] t)).cell? ((⟨w.heap.size, 0, none⟩ : Addr).add j) = some u := by
  intro j u hu
  rw [Go.WideShapes.add_plain, Nat.zero_add]
  have := (Cells.new w _ rfl [a, b, c] t) j u hu
  exact this.1
theorem copy_step {W0 wr u2 w3 : World} {S T2 kb : Nat} {a0 vf vm va vc v3 : Value} {fl : List Int} {lm : List (Meth × Value × Value)} {m : Meth} {ob : Obj}
    (hK : Cells wr kb [a0, vf, vm]) (hF : Fz W0.heap.size S kb wr vf fl) (hQ : MQ QM S T2 wr vm lm) (hT2 : T2 ≤ wr.heap.size) (hS : S ≤ wr.heap.size) (hkb : W0.heap.size ≤ kb) (hkl : kb < S) (hb : Below W0.heap.size W0 wr)
    (hb2 : Below wr.heap.size wr u2) (hmv : MV front wr.heap.size u2 va vc m)
    (hown : w3.ownsRow S 50 4 v3 (lm.length + 1) (flatM lm ++ [.int .i64 m.name, va, .int .i64 m.gives, vc])) (hg : (u2.alloc ob).grownBy w3 vm.ownBlock) (hat : v3.ownBlock = vm.ownBlock ∨ v3.ownBlock = some (u2.alloc ob).heap.size) :
    Cells w3 kb [a0, vf, vm] ∧ Cells (w3.setCell ⟨kb, 2, none⟩ v3) kb [a0, vf, v3] ∧ Fz W0.heap.size S kb (w3.setCell ⟨kb, 2, none⟩ v3) vf fl ∧ MQ QM S u2.heap.size (w3.setCell ⟨kb, 2, none⟩ v3) v3 (lm ++ [(m, va, vc)]) ∧ u2.heap.size ≤ (w3.setCell ⟨kb, 2, none⟩ v3).heap.size ∧ S ≤ (w3.setCell ⟨kb, 2, none⟩ v3).heap.size ∧ Below W0.heap.size W0 (w3.setCell ⟨kb, 2, none⟩ v3) ∧ ∃ a d, v3 = .slice a (lm.length + 1) d := by
  have hvo : ∀ g, vm.ownBlock = some g → S ≤ g ∧ g < wr.heap.size := fun g hg' => hQ.1.lt g hg'
  have hz2 := hb2.size
  have hba : Below u2.heap.size u2 (u2.alloc ob) := (Below.refl _ _).alloc (Nat.le_refl _) _
  have hbA : Below wr.heap.size wr (u2.alloc ob) := hb2.trans (hba.mono hz2)
  have hza : u2.heap.size ≤ (u2.alloc ob).heap.size := hba.size
  have hz3 := hg.size
  have hsame : ∀ k, k < S → w3.heap[k]? = wr.heap[k]? := fun k hk => (hg.block k (by omega) (fun e => by have := hvo k e.symm; omega)).trans (hbA.block k (by omega))
  have hK3 : Cells w3 kb [a0, vf, vm] := zcells hK (hsame kb hkl)
  have hQA : MQ QM S T2 (u2.alloc ob) vm lm := hQ.on hbA
  have hQ3 : MQ QM S u2.heap.size w3 v3 (lm ++ [(m, va, vc)]) := hQA.snoc (x := (m, va, vc)) (L := wr.heap.size) (M := u2.heap.size) hS hT2 hz2 ((MV.zw hmv).on hba) (fun g hg' => .inl (hvo g hg').2) hown hg hat
  have hzs : (w3.setCell ⟨kb, 2, none⟩ v3).heap.size = w3.heap.size := by simp
  refine ⟨hK3, hK3.s2 v3, hF.on (fun k h1 h2 h3 => (zset_block w3 h3 v3).trans (hsame k h2)), hQ3.set hkl v3, by omega, by omega, ?_, ?_⟩
  · exact ((hb.trans (hbA.mono (by have := hb.size; omega))).grown hg (by have := hb.size; omega) (fun g hg' => by have := hvo g hg'; omega)).setCell (p := ⟨kb, 2, none⟩) hkb _
  · have h := hQ3.form
    simpa using h

end Pg
end Go.Proofs.Ytjchmpdobghhnaa

/- Contracts of the two sides' small functions on the layout: which step is a jump, and its bytes. -/
namespace Go.Proofs.Ytjchmpdobghhnaa
namespace St
open Go.ChangeShapes Go.WideShapes Go.ChangeAt Go.RowKit

theorem jump_cases (op : Int) : (op = 11 ∧ Lay.jumpB op = true) ∨ (op = 12 ∧ Lay.jumpB op = true) ∨ (¬ op = 11 ∧ ¬ op = 12 ∧ Lay.jumpB op = false) := by
  unfold Lay.jumpB
  by_cases h1 : op = 11
  · simp [h1]
  · by_cases h2 : op = 12
    · simp [h2]
    · simp [h1, h2]
theorem boxC {w w1 : World} {x y z : Value} {t : TypeId} (hb : Below (w.alloc (.cells #[x, y, z] t)).heap.size (w.alloc (.cells #[x, y, z] t)) w1) :
    w1.cell? ⟨w.heap.size, 0, none⟩ = some x ∧ w1.cell? ⟨w.heap.size, 1, none⟩ = some y ∧ w1.cell? ⟨w.heap.size, 2, none⟩ = some z :=
  ⟨(hb.cell (by simp)).trans (by simp), (hb.cell (by simp)).trans (by simp), (hb.cell (by simp)).trans (by simp)⟩
theorem allocC (w : World) (x y z : Value) (t : TypeId) : (w.alloc (.cells #[x, y, z] t)).cell? ⟨w.heap.size, 0, none⟩ = some x ∧ (w.alloc (.cells #[x, y, z] t)).cell? ⟨w.heap.size, 1, none⟩ = some y ∧ (w.alloc (.cells #[x, y, z] t)).cell? ⟨w.heap.size, 2, none⟩ = some z := ⟨by simp, by simp, by simp⟩
theorem retI {a b : Int} (h : a = b) : Ending.returned (.int .i64 a) = .returned (.int .i64 b) := by rw [h]

set_option maxHeartbeats 800000 in
theorem isJump (op a b : Int) (w : World) :
    Calls Try.prog 78 #[.agg #[.int .i64 op, .int .i64 a, .int .i64 b]] w fun e w' => e = .returned (.bool (Lay.jumpB op)) ∧ Below w.heap.size w w' := by
  by_cases h : op = 11
  · subst h
    go_enter Try.func78, Try.ntmps78
    go_wp2
    go_ret
    exact ⟨rfl, by go_grown⟩
  · go_enter Try.func78, Try.ntmps78
    go_wp2
    go_ret
    exact ⟨rfl, by go_grown⟩
theorem l3Jump (op : Int) (w : World) :
    Calls Try.prog 66 #[.int .i64 op] w fun e w' => e = .returned (.bool (Lay.jumpB op)) ∧ w = w' := by
  by_cases h : op = 11
  · subst h
    go_enter Try.func66, Try.ntmps66
    go_wp2
    go_ret
    exact ⟨rfl, rfl⟩
  · go_enter Try.func66, Try.ntmps66
    go_wp2
    go_ret
    exact ⟨rfl, rfl⟩
end St
end Go.Proofs.Ytjchmpdobghhnaa

/- Contracts of the two sides' tests whether code is right. -/
namespace Go.Proofs.Ytjchmpdobghhnaa
namespace St
open Go.ChangeShapes Go.WideShapes Go.ChangeAt Go.RowKit

def good (n : Int) (x : Tx.Ins) : Bool := Tx.okT x && (!(Lay.jumpB x.1) || decide (x.2.1 < n))
theorem all_and {α : Type} (p q : α → Bool) (l : List α) : (l.all p && l.all q) = l.all fun x => p x && q x := by
  induction l with
  | nil => rfl
  | cons x l ih => simp only [List.all_cons, ← ih]; cases p x <;> cases q x <;> cases l.all p <;> simp
theorem codeOk_good (l : List Tx.Ins) : Lay.codeOk l = (decide (0 < l.length) && decide (l.length ≤ 40) && l.all (good l.length)) := by
  unfold Lay.codeOk Tx.okC good
  rw [← all_and]
  simp only [Bool.and_assoc]
theorem take_all {α : Type} {p : α → Bool} {l : List α} {k : Nat} (hk : k < l.length) (h : (l.take k).all p = true) (hx : p l[k] = true) : (l.take (k + 1)).all p = true := by
  rw [List.take_succ_eq_append_getElem hk, List.all_append, h]; simp [hx]
theorem all_no {α : Type} {p : α → Bool} {l : List α} {k : Nat} (hk : k < l.length) (hx : p l[k] = false) : l.all p = false := by
  cases hh : l.all p
  · rfl
  · have := List.all_eq_true.1 hh _ (List.getElem_mem hk)
    rw [hx] at this; simp at this
theorem code_no {l : List Tx.Ins} {k : Nat} (hk : k < l.length) (hx : good l.length l[k] = false) : Lay.codeOk l = false := by
  rw [codeOk_good, all_no hk hx]; simp
theorem jump_nonneg {op a b : Int} (h : Tx.okI op a b = true) (hj : Lay.jumpB op = true) : 0 ≤ a := by
  unfold Tx.okI at h
  unfold Lay.jumpB at hj
  have e : ¬ op = 1 := by
    intro e; rw [e] at hj; simp at hj
  rw [if_neg e] at h
  simp only [Bool.and_eq_true, decide_eq_true_eq] at h
  exact h.1.1.1

set_option maxRecDepth 100000 in
set_option maxHeartbeats 1000000 in
theorem implCodeOk (g cap : Nat) (l : List Tx.Ins) (hl : l.length ≤ 1048576) (w : World) (hr : Row w g 0 l) :
    Calls Try.prog 70 #[.slice (some ⟨g, 0, none⟩) l.length cap] w fun e w' => e = .returned (.bool (Lay.codeOk l)) ∧ Below w.heap.size w w' := by
  have HR : Hid (Row w g 0 l) := hr
  clear hr
  by_cases h0 : l.length = 0
  · have HN : Hid (Lay.codeOk l = false) := by
      show Lay.codeOk l = false
      rw [codeOk_good, h0]; rfl
    have h0i : (l.length : Int) = 0 := by omega
    go_enter Try.func70, Try.ntmps70
    go_wp2
    go_ret
    exact ⟨retB HN.out.symm, Below.refl _ _⟩
  · have h0i : ¬ (l.length : Int) = 0 := by omega
    by_cases hbig : (40 : Int) < (l.length : Int)
    · have HN : Hid (Lay.codeOk l = false) := by
        show Lay.codeOk l = false
        rw [codeOk_good]
        have : decide (l.length ≤ 40) = false := by simp; omega
        rw [this]; simp
      go_enter Try.func70, Try.ntmps70
      go_wp2
      go_ret
      exact ⟨retB HN.out.symm, Below.refl _ _⟩
    · go_enter Try.func70, Try.ntmps70
      go_wp2
      go_loopw [15] (fun i wr => ∃ k : Nat, k ≤ l.length ∧ i = .int .i64 k ∧ Hid ((l.take k).all (good l.length) = true) ∧ Below w.heap.size w wr) (fun i _ => l.length - (intOf i).toNat)
      case atStart => exact ⟨0, Nat.zero_le _, rfl, rfl, Below.refl _ _⟩
      case round =>
        obtain ⟨k, hk, rfl, hall, hb⟩ := hrel
        by_cases hlt : k < l.length
        · obtain ⟨d0, d1, d2⟩ := HR.out.below hb (cell_lt (HR.out k _ (List.getElem?_eq_getElem hlt)).1) k _ (List.getElem?_eq_getElem hlt)
          have HNO : Hid (good l.length l[k] = false → Lay.codeOk l = false) := code_no hlt
          have HYES : Hid (good l.length l[k] = true → (l.take (k + 1)).all (good l.length) = true) := take_all hlt hall.out
          generalize l[k] = x at *
          obtain ⟨op, a, b⟩ := x
          have hki : (k : Int) < (l.length : Int) := by omega
          simp only [Nat.zero_add] at d0 d1 d2
          go_wp2_with fail
          refine (implOk op a b _).mono ?_
          rintro e w1 ⟨rfl, hb1⟩
          have hw1 : Below w.heap.size w w1 := below_over (hb.alloc hb.size _) hb1
          have BX := boxC hb1
          obtain ⟨c0, c1, c2⟩ := BX
          clear hb1 d0 d1 d2
          cases hok : Tx.okI op a b
          · have HN : Hid (Lay.codeOk l = false) := HNO.out (by simp [good, Tx.okT, hok])
            go_wp2
            go_ret
            exact ⟨retB HN.out.symm, hw1⟩
          · go_wp2_with fail
            refine (isJump op a b _).mono ?_
            rintro e w2 ⟨rfl, hb2⟩
            have hw2 : Below w.heap.size w w2 := below_over hw1 hb2
            have c0' := (hb2.cell (cell_lt c0)).trans c0
            have c1' := (hb2.cell (cell_lt c1)).trans c1
            have c2' := (hb2.cell (cell_lt c2)).trans c2
            clear hb2 c0 c1 c2
            cases hj : Lay.jumpB op
            · have HY : Hid ((l.take (k + 1)).all (good l.length) = true) := HYES.out (by simp [good, Tx.okT, hok, hj])
              go_wp2
              go_roundw
              case rel => exact ⟨k + 1, by omega, by go_num, HY.out, hw2⟩
              case measure => simp [intOf]; omega
            · have hnn := jump_nonneg hok hj
              go_wp2_with fail
              refine (isBelow a l.length _).mono ?_
              rintro e w3 ⟨rfl, rfl⟩
              have hda : decide (0 ≤ a) = true := by simp [hnn]
              rw [hda, Bool.true_and]
              cases hq : decide (a < (l.length : Int))
              · have HN : Hid (Lay.codeOk l = false) := HNO.out (by simp only [good, Tx.okT, hok, hj, hq]; rfl)
                clear hq hda
                go_wp2
                go_ret
                exact ⟨retB HN.out.symm, hw2⟩
              · have HY : Hid ((l.take (k + 1)).all (good l.length) = true) := HYES.out (by simp only [good, Tx.okT, hok, hj, hq]; rfl)
                clear hq hda
                go_wp2
                go_roundw
                case rel => exact ⟨k + 1, by omega, by go_num, HY.out, hw2⟩
                case measure => simp [intOf]; omega
        · have HN : Hid (Lay.codeOk l = true) := by
            show Lay.codeOk l = true
            have e : l.take k = l := List.take_of_length_le (by omega)
            have := hall.out
            rw [e] at this
            rw [codeOk_good, this]
            simp; omega
          go_wp2
          go_ret
          exact ⟨retB HN.out.symm, hb⟩
theorem okC_all {l : List Tx.Ins} (h : Tx.okC l = true) : l.length ≤ 40 ∧ l.all Tx.okT = true := by
  unfold Tx.okC at h
  simpa using h
set_option maxRecDepth 100000 in
set_option maxHeartbeats 1000000 in
theorem specCodeOk (g cap : Nat) (l : List Tx.Ins) (hl : l.length ≤ 1048576) (w : World) (hr : Row w g 0 l) :
    Calls Try.prog 48 #[.slice (some ⟨g, 0, none⟩) l.length cap] w fun e w' => e = .returned (.bool (Lay.codeOk l)) ∧ Below w.heap.size w w' := by
  have HR : Hid (Row w g 0 l) := hr
  clear hr
  by_cases h0 : l.length = 0
  · have HN : Hid (Lay.codeOk l = false) := by
      show Lay.codeOk l = false
      rw [codeOk_good, h0]; rfl
    have h0i : (l.length : Int) < 1 := by omega
    go_enter Try.func48, Try.ntmps48
    go_wp2
    go_ret
    exact ⟨retB HN.out.symm, Below.refl _ _⟩
  · have h0i : ¬ (l.length : Int) < 1 := by omega
    cases hok : Tx.okC l
    · have HN : Hid (Lay.codeOk l = false) := by
        show Lay.codeOk l = false
        unfold Lay.codeOk; rw [hok]; simp
      go_enter Try.func48, Try.ntmps48
      go_wp2_with fail
      refine (each_at g cap l hl _ HR.out).mono ?_
      rw [hok]
      rintro e w1 ⟨rfl, hb1⟩
      go_wp2
      go_ret
      exact ⟨retB HN.out.symm, hb1⟩
    · have HA : Hid (l.length ≤ 40 ∧ l.all Tx.okT = true) := okC_all hok
      go_enter Try.func48, Try.ntmps48
      go_wp2_with fail
      refine (each_at g cap l hl _ HR.out).mono ?_
      rw [hok]
      rintro e w1 ⟨rfl, hb1⟩
      go_wp2
      go_loopw [3] (fun i wr => ∃ k : Nat, k ≤ l.length ∧ i = .int .i64 k ∧ Hid ((l.take k).all (good l.length) = true) ∧ Below w.heap.size w wr) (fun i _ => l.length - (intOf i).toNat)
      case atStart => exact ⟨0, Nat.zero_le _, rfl, rfl, hb1⟩
      case round =>
        obtain ⟨k, hk, rfl, hall, hb⟩ := hrel
        by_cases hlt : k < l.length
        · obtain ⟨d0, d1, d2⟩ := HR.out.below hb (cell_lt (HR.out k _ (List.getElem?_eq_getElem hlt)).1) k _ (List.getElem?_eq_getElem hlt)
          have hko : Tx.okT l[k] = true := List.all_eq_true.1 HA.out.2 _ (List.getElem_mem hlt)
          have HNO : Hid (good l.length l[k] = false → Lay.codeOk l = false) := code_no hlt
          have HYES : Hid (good l.length l[k] = true → (l.take (k + 1)).all (good l.length) = true) := take_all hlt hall.out
          generalize l[k] = x at *
          obtain ⟨op, a, b⟩ := x
          have HKO : Hid (Tx.okT (op, a, b) = true) := hko
          clear hko
          have hki : (k : Int) < (l.length : Int) := by omega
          simp only [Nat.zero_add] at d0 d1 d2
          go_wp2_with fail
          refine (l3Jump op _).mono ?_
          rintro e w2 ⟨rfl, rfl⟩
          cases hj : Lay.jumpB op
          · have HY : Hid ((l.take (k + 1)).all (good l.length) = true) := HYES.out (by simp only [good, HKO.out, hj]; rfl)
            go_wp2
            go_roundw
            case rel => exact ⟨k + 1, by omega, by go_num, HY.out, hb⟩
            case measure => simp [intOf]; omega
          · by_cases hq : a < (l.length : Int)
            · have HY : Hid ((l.take (k + 1)).all (good l.length) = true) := HYES.out (by simp only [good, HKO.out, hj]; simp [hq])
              go_wp2
              go_roundw
              case rel => exact ⟨k + 1, by omega, by go_num, HY.out, hb⟩
              case measure => simp [intOf]; omega
            · have HN : Hid (Lay.codeOk l = false) := HNO.out (by simp only [good, HKO.out, hj]; simp; omega)
              go_wp2
              go_ret
              exact ⟨retB HN.out.symm, hb⟩
        · have HN : Hid (Lay.codeOk l = true) := by
            show Lay.codeOk l = true
            have e : l.take k = l := List.take_of_length_le (by omega)
            have := hall.out
            rw [e] at this
            have := HA.out.1
            rw [codeOk_good, ‹l.all _ = true›]
            simp; omega
          go_wp2
          go_ret
          exact ⟨retB HN.out.symm, hb⟩
end St
end Go.Proofs.Ytjchmpdobghhnaa

/- Contracts of the program's own small functions on programs. -/
namespace Go.Proofs.Ytjchmpdobghhnaa
namespace Pg
open Go.ChangeShapes Go.WideShapes Go.ChangeAt Go.RowKit St

set_option maxHeartbeats 400000 in
theorem hasClass (a : Option Addr) (n cap : Nat) (t : Int) (w : World) :
    Calls Try.prog 68 #[.agg #[.slice a n cap], .int .i64 t] w fun e w' => e = .returned (.bool (decide (0 ≤ t) && decide (t < (n : Int)))) ∧ Below w.heap.size w w' := by
  go_enter Try.func68, Try.ntmps68
  go_wp2_with fail
  refine (isBelow t n _).mono ?_
  rintro e w1 ⟨rfl, rfl⟩
  go_wp2
  go_ret
  exact ⟨rfl, (Below.refl _ _).alloc (Nat.le_refl _) _⟩

set_option maxHeartbeats 800000 in
theorem areTypesOf {f : Bool} (B : Nat) (a a' : Option Addr) (n cap cap' : Nat) (l : List Int) (hl : l.length ≤ 1048576) (w : World) (hi : SI f B w (.slice a' l.length cap') l) :
    Calls Try.prog 54 #[.agg #[.slice a n cap], .slice a' l.length cap'] w fun e w' => e = .returned (.bool (l.all (tyB n))) ∧ Below w.heap.size w w' := by
  have HI : Hid (SI f B (w.alloc (.cells #[.slice a n cap] 28)) (.slice a' l.length cap') l) := SI.on hi (Keep.of ((Below.refl _ _).alloc (Nat.le_refl _) _))
  have C0 : Hid (Cells (w.alloc (.cells #[.slice a n cap] 28)) w.heap.size [.slice a n cap]) := Cells.new w _ rfl _ _
  clear hi
  go_enter Try.func54, Try.ntmps54
  go_wp2
  generalize hW : w.alloc (.cells #[.slice a n cap] 28) = W at *
  have hwW : Below w.heap.size w W := by rw [← hW]; exact (Below.refl _ _).alloc (Nat.le_refl _) _
  clear hW
  go_loopw [9] (fun i wr => ∃ k : Nat, k ≤ l.length ∧ i = .int .i64 k ∧ Hid ((l.take k).all (tyB n) = true) ∧ Below W.heap.size W wr) (fun i _ => l.length - (intOf i).toNat)
  case atStart => exact ⟨0, Nat.zero_le _, rfl, rfl, Below.refl _ _⟩
  case round =>
    obtain ⟨k, hk, rfl, hall, hb⟩ := hrel
    by_cases hlt : k < l.length
    · obtain ⟨b, o, rfl, _, c1⟩ := (SI.on HI.out (Keep.of hb)).get hlt
      unfold IntAt at c1
      rw [Nat.mul_one] at c1
      have c0 := (C0.out.on hb).g0.1
      have HT : Hid (tyB n l[k] = true → (l.take (k + 1)).all (tyB n) = true) := fun h => take_all hlt hall.out h
      have HF : Hid (tyB n l[k] = false → l.all (tyB n) = false) := fun h => all_no hlt h
      generalize l[k] = t at *
      have hki : (k : Int) < (l.length : Int) := by omega
      have hw1 : Below w.heap.size w wr := below_over hwW hb
      by_cases ht : t = -1
      · subst ht
        have HA := HT.out (by simp [tyB])
        have HAA : Hid ((l.take (k + 1)).all (tyB n) = true) := HA
        clear HA HT HF hall
        go_wp2
        go_roundw
        case rel => exact ⟨k + 1, by omega, by go_num, HAA.out, hb⟩
        case measure => simp [intOf]; omega
      · have htb : (t != -1) = true := by simpa using ht
        go_wp2_with fail
        refine (hasClass a n cap t _).mono ?_
        rintro e w1 ⟨rfl, hb1⟩
        have hw2 : Below W.heap.size W w1 := below_over hb hb1
        clear hb1 hb c0 c1
        cases hq : (decide (0 ≤ t) && decide (t < (n : Int)))
        · have HA : Hid (l.all (tyB n) = false) := HF.out (by unfold tyB; rw [hq]; simp [ht])
          go_wp2
          go_ret
          exact ⟨retB HA.out.symm, below_over hwW hw2⟩
        · have HA : Hid ((l.take (k + 1)).all (tyB n) = true) := HT.out (by unfold tyB; rw [hq]; simp)
          clear HT HF hall
          go_wp2
          go_roundw
          case rel => exact ⟨k + 1, by omega, by go_num, HA.out, hw2⟩
          case measure => simp [intOf]; omega
    · have HN : Hid (l.all (tyB n) = true) := by
        show _ = _
        have e : l.take k = l := List.take_of_length_le (by omega)
        have := hall.out
        rw [e] at this
        exact this
      go_wp2
      go_ret
      exact ⟨retB HN.out.symm, below_over hwW hb⟩

theorem diff_no {l r : List Int} {k : Nat} (h1 : k < l.length) (h2 : k < r.length) (h : l[k] ≠ r[k]) : decide (l = r) = false := by
  simp only [decide_eq_false_iff_not]
  intro e
  subst e
  exact h rfl
theorem same_take {l r : List Int} {k : Nat} (h1 : k < l.length) (h2 : k < r.length) (h : l.take k = r.take k) (he : l[k] = r[k]) : l.take (k + 1) = r.take (k + 1) := by
  rw [List.take_succ_eq_append_getElem h1, List.take_succ_eq_append_getElem h2, h, he]

set_option maxHeartbeats 1000000 in
theorem slicesEqual {f f' : Bool} (B B' : Nat) (a a' : Option Addr) (cap cap' : Nat) (l r : List Int) (hl : l.length ≤ 1048576) (w : World) (h1 : SI f B w (.slice a l.length cap) l) (h2 : SI f' B' w (.slice a' r.length cap') r) :
    Calls Try.prog 71 #[.slice a l.length cap, .slice a' r.length cap'] w fun e w' => e = .returned (.bool (decide (l = r))) ∧ Below w.heap.size w w' := by
  have H1 : Hid (SI f B w (.slice a l.length cap) l) := h1
  have H2 : Hid (SI f' B' w (.slice a' r.length cap') r) := h2
  clear h1 h2
  by_cases hlen : l.length = r.length
  · have HLEN : Hid (l.length = r.length) := hlen
    rw [← hlen]
    clear hlen
    go_enter Try.func71, Try.ntmps71
    go_wp2
    go_loopw [13] (fun i wr => ∃ k : Nat, k ≤ l.length ∧ i = .int .i64 k ∧ Hid (l.take k = r.take k) ∧ Below w.heap.size w wr) (fun i _ => l.length - (intOf i).toNat)
    case atStart => exact ⟨0, Nat.zero_le _, rfl, rfl, Below.refl _ _⟩
    case round =>
      obtain ⟨k, hk, rfl, hsame, hb⟩ := hrel
      by_cases hlt : k < l.length
      · have hlr : k < r.length := by rw [← HLEN.out]; exact hlt
        obtain ⟨b, o, rfl, _, a0⟩ := (SI.on H1.out (Keep.of hb)).get hlt
        obtain ⟨b', o', rfl, _, b0⟩ := (SI.on H2.out (Keep.of hb)).get hlr
        unfold IntAt at a0 b0
        rw [Nat.mul_one] at a0 b0
        have HT : Hid (l[k] = r[k] → l.take (k + 1) = r.take (k + 1)) := fun h => same_take hlt hlr hsame.out h
        have HF : Hid (l[k] ≠ r[k] → decide (l = r) = false) := fun h => diff_no hlt hlr h
        generalize l[k] = x at *
        generalize r[k] = y at *
        clear hlr hsame
        have hki : (k : Int) < (l.length : Int) := by omega
        have hki0 : (0 : Int) ≤ (k : Int) := by omega
        have r0 := cell_regrown a0
        have s0 := cell_regrown b0
        by_cases hxy : x = y
        · subst hxy
          have HS : Hid (l.take (k + 1) = r.take (k + 1)) := HT.out rfl
          clear HT HF
          go_wp2_with fail
          refine wp_region_quiet_below (by kernel_rfl) (by kernel_rfl) ?_
          repeat (quiet_step (fail))
          refine wpQuiet_nil ?_
          intro _ hw'
          obtain ⟨⟨dq, osq⟩, hw''⟩ := hw'
          subst hw''
          have hw1 : Below w.heap.size w (Sort.grow (redrawn wr dq) osq) := below_over hb (below_regrown wr dq osq)
          clear a0 b0 r0 s0 hb
          generalize Sort.grow (redrawn wr dq) osq = w1 at *
          go_wp2
          go_roundw
          case rel => exact ⟨k + 1, by omega, by go_num, HS.out, hw1⟩
          case measure => simp [intOf]; omega
        · have HS : Hid (decide (l = r) = false) := HF.out hxy
          have hxb : (x != y) = true := by simpa using hxy
          clear HT HF
          go_wp2_with fail
          refine wp_region_quiet_below (by kernel_rfl) (by kernel_rfl) ?_
          repeat (quiet_step (fail))
          refine wpQuiet_nil ?_
          intro _ hw'
          obtain ⟨⟨dq, osq⟩, hw''⟩ := hw'
          subst hw''
          have hw1 : Below w.heap.size w (Sort.grow (redrawn wr dq) osq) := below_over hb (below_regrown wr dq osq)
          clear a0 b0 r0 s0 hb
          generalize Sort.grow (redrawn wr dq) osq = w1 at *
          go_wp2
          go_ret
          exact ⟨retB HS.out.symm, hw1⟩
      · have HN : Hid (decide (l = r) = true) := by
          show _ = _
          have h := hsame.out
          rw [List.take_of_length_le (by omega), List.take_of_length_le (by have := HLEN.out; omega)] at h
          simpa using h
        go_wp2
        go_ret
        exact ⟨retB HN.out.symm, hb⟩
  · have HN : Hid (decide (l = r) = false) := by
      show _ = _
      simp only [decide_eq_false_iff_not]
      intro e; exact hlen (by rw [e])
    have hnb : ((l.length : Int) != (r.length : Int)) = true := by
      have : ¬ (l.length : Int) = (r.length : Int) := by omega
      simpa using this
    go_enter Try.func71, Try.ntmps71
    go_wp2
    go_ret
    exact ⟨retB HN.out.symm, Below.refl _ _⟩

/-- What looking for a class's own method answers. -/
def OwnPost (B : Nat) (c : Cls) (name : Int) (w0 w : World) (e : Ending) (w' : World) : Prop :=
  ((∃ m va vc, ownF c name = some m ∧ m ∈ c.meths ∧ e = .returned (.tuple #[.agg #[.int .i64 m.name, va, .int .i64 m.gives, vc], .bool true]) ∧ MV front B w0 va vc m) ∨
   (ownF c name = none ∧ e = .returned (.tuple #[.agg #[.int .i64 0, .slice none 0 0, .int .i64 0, .slice none 0 0], .bool false]))) ∧ Below w.heap.size w w'

set_option maxRecDepth 100000 in
set_option maxHeartbeats 1000000 in
theorem ownMethod (B : Nat) (c : Cls) (q a : Option Addr) (cap af cf : Nat) (name : Int) (hn : c.meths.length ≤ 1048576) (w0 w : World) (hb0 : Below w0.heap.size w0 w) (hm : SM front B w0 (.slice a c.meths.length cap) c.meths) :
    Calls Try.prog 35 #[.agg #[.int .i64 c.super, .slice q af cf, .slice a c.meths.length cap], .int .i64 name] w fun e w' => OwnPost B c name w0 w e w' := by
  obtain ⟨W, hW⟩ : ∃ W, W = (w.alloc (.cells #[.int .i64 c.super, .slice q af cf, .slice a c.meths.length cap] 42)).alloc (.cells #[.int .i64 0, .slice none 0 0, .int .i64 0, .slice none 0 0] 50) := ⟨_, rfl⟩
  have hwW : Below w.heap.size w W := by rw [hW]; exact ((Below.refl _ _).alloc (Nat.le_refl _) _).alloc (by simp) _
  have HM : Hid (SM front B w0 (.slice a c.meths.length cap) c.meths) := hm
  have R0 : Hid (Cells W (w.heap.size + 1) [.int .i64 0, .slice none 0 0, .int .i64 0, .slice none 0 0]) := by rw [hW]; exact Cells.new (w.alloc _) _ (by simp) _ _
  clear hm
  go_enter Try.func35, Try.ntmps35
  go_wp2
  rw [← hW]
  clear hW
  go_loopw [11] (fun i wr => ∃ k : Nat, k ≤ c.meths.length ∧ i = .int .i64 k ∧ Hid (∀ j, j < k → ∀ m, c.meths[j]? = some m → m.name ≠ name) ∧ Below W.heap.size W wr) (fun i _ => c.meths.length - (intOf i).toNat)
  case atStart => exact ⟨0, Nat.zero_le _, rfl, fun j h => absurd h (Nat.not_lt_zero _), Below.refl _ _⟩
  case round =>
    obtain ⟨k, hk, rfl, hno, hb⟩ := hrel
    have hwr : Below w.heap.size w wr := below_over hwW hb
    by_cases hlt : k < c.meths.length
    · obtain ⟨b, o, rfl, _, va, vc, d0, d1, d2, d3, hmv⟩ := HM.out.get hlt
      obtain ⟨x1, y1, rfl⟩ := hmv.1.form
      obtain ⟨x2, y2, rfl⟩ := front.form hmv.2
      have l0 : b < w0.heap.size := cell_lt d0
      have hw0 : Below w0.heap.size w0 wr := below_over hb0 hwr
      have c0 := (hw0.cell l0).trans d0
      have c1 := (hw0.cell l0).trans d1
      have c2 := (hw0.cell l0).trans d2
      have c3 := (hw0.cell l0).trans d3
      clear hw0
      have HK : Hid (c.meths[k].name = name → ownF c name = some c.meths[k]) := fun h => find_at hno.out (List.getElem?_eq_getElem hlt) h
      have HKN : Hid (c.meths[k].name ≠ name → ∀ j, j < k + 1 → ∀ m, c.meths[j]? = some m → m.name ≠ name) := fun h j hj m hm => by
        by_cases e : j = k
        · subst e
          rw [List.getElem?_eq_getElem hlt] at hm
          simp at hm
          subst hm
          exact h
        · exact hno.out j (by omega) m hm
      have HMEM : Hid (c.meths[k] ∈ c.meths) := List.getElem_mem hlt
      have HMV : Hid (MV front B w0 (.slice x1 c.meths[k].args.length y1) (.slice x2 c.meths[k].code.length y2) c.meths[k]) := hmv
      clear hmv hno d0 d1 d2 d3
      generalize c.meths[k] = m at *
      have hki : (k : Int) < (c.meths.length : Int) := by omega
      by_cases hnm : m.name = name
      · have HO : Hid (ownF c name = some m) := HK.out hnm
        have RA := (R0.out.on hb).alloc (.cells #[.int .i64 m.name, .slice x1 m.args.length y1, .int .i64 m.gives, .slice x2 m.code.length y2] 50)
        obtain ⟨r0, q0⟩ := RA.g0
        obtain ⟨r1, q1⟩ := RA.g1
        obtain ⟨r2, q2⟩ := RA.g2
        obtain ⟨r3, q3⟩ := RA.g3
        have R5 := (((RA.s0 (.int .i64 m.name)).s1 (.slice x1 m.args.length y1)).s2 (.int .i64 m.gives)).s3 (.slice x2 m.code.length y2)
        obtain ⟨e0, _⟩ := R5.g0
        obtain ⟨e1, _⟩ := R5.g1
        obtain ⟨e2, _⟩ := R5.g2
        obtain ⟨e3, _⟩ := R5.g3
        have HWR : Hid (Below w.heap.size w ((((((wr.alloc (.cells #[.int .i64 m.name, .slice x1 m.args.length y1, .int .i64 m.gives, .slice x2 m.code.length y2] 50)).setCell ⟨w.heap.size + 1, 0, none⟩ (.int .i64 m.name)).setCell ⟨w.heap.size + 1, 1, none⟩ (.slice x1 m.args.length y1)).setCell ⟨w.heap.size + 1, 2, none⟩ (.int .i64 m.gives)).setCell ⟨w.heap.size + 1, 3, none⟩ (.slice x2 m.code.length y2)))) := ((((hwr.alloc hwr.size _).setCell (p := ⟨w.heap.size + 1, 0, none⟩) (by simp) _).setCell (p := ⟨w.heap.size + 1, 1, none⟩) (by simp) _).setCell (p := ⟨w.heap.size + 1, 2, none⟩) (by simp) _).setCell (p := ⟨w.heap.size + 1, 3, none⟩) (by simp) _
        have hnb : (m.name == name) = true := by simpa using hnm
        clear R5 RA HK HKN hb hwr hnm
        go_wp2
        refine bodyPost_ret (v := .tuple #[.agg #[.int .i64 m.name, .slice x1 m.args.length y1, .int .i64 m.gives, .slice x2 m.code.length y2], .bool true]) (by simp [results, Try.results35, go_sem, e0, e1, e2, e3]) rfl ?_
        exact ⟨.inl ⟨m, _, _, HO.out, HMEM.out, rfl, HMV.out⟩, HWR.out⟩
      · have HN : Hid (∀ j, j < k + 1 → ∀ m, c.meths[j]? = some m → m.name ≠ name) := HKN.out hnm
        have hnb : (m.name == name) = false := by simpa using hnm
        have HBB : Hid (Below W.heap.size W (wr.alloc (.cells #[.int .i64 m.name, .slice x1 m.args.length y1, .int .i64 m.gives, .slice x2 m.code.length y2] 50))) := hb.alloc hb.size _
        clear HK HKN hb hwr hnm
        go_wp2
        go_roundw
        case rel => exact ⟨k + 1, by omega, by go_num, HN.out, HBB.out⟩
        case measure => simp [intOf]; omega
    · have HN : Hid (ownF c name = none) := find_none (fun j hj m hm => hno.out j (by omega) m hm)
      have RA := R0.out.on hb
      obtain ⟨r0, q0⟩ := RA.g0
      obtain ⟨r1, q1⟩ := RA.g1
      obtain ⟨r2, q2⟩ := RA.g2
      obtain ⟨r3, q3⟩ := RA.g3
      have R5 := (((RA.s0 (.int .i64 0)).s1 (.slice none 0 0)).s2 (.int .i64 0)).s3 (.slice none 0 0)
      obtain ⟨e0, _⟩ := R5.g0
      obtain ⟨e1, _⟩ := R5.g1
      obtain ⟨e2, _⟩ := R5.g2
      obtain ⟨e3, _⟩ := R5.g3
      have HWR : Hid (Below w.heap.size w ((((wr.setCell ⟨w.heap.size + 1, 0, none⟩ (.int .i64 0)).setCell ⟨w.heap.size + 1, 1, none⟩ (.slice none 0 0)).setCell ⟨w.heap.size + 1, 2, none⟩ (.int .i64 0)).setCell ⟨w.heap.size + 1, 3, none⟩ (.slice none 0 0))) := (((hwr.setCell (p := ⟨w.heap.size + 1, 0, none⟩) (by simp) _).setCell (p := ⟨w.heap.size + 1, 1, none⟩) (by simp) _).setCell (p := ⟨w.heap.size + 1, 2, none⟩) (by simp) _).setCell (p := ⟨w.heap.size + 1, 3, none⟩) (by simp) _
      clear R5 RA hb hwr hno
      go_wp2
      refine bodyPost_ret (v := .tuple #[.agg #[.int .i64 0, .slice none 0 0, .int .i64 0, .slice none 0 0], .bool false]) (by simp [results, Try.results35, go_sem, e0, e1, e2, e3]) rfl ?_
      exact ⟨.inr ⟨HN.out, rfl⟩, HWR.out⟩

set_option maxHeartbeats 1000000 in
theorem isMethodOf (B : Nat) (m : Meth) (a : Option Addr) (n cap : Nat) (va vc : Value) (hs : SmallM m) (w : World) (hv : MV front B w va vc m) :
    Calls Try.prog 55 #[.agg #[.slice a n cap], .agg #[.int .i64 m.name, va, .int .i64 m.gives, vc]] w fun e w' => e = .returned (.bool (okMB n m)) ∧ Below w.heap.size w w' := by
  obtain ⟨x1, y1, rfl⟩ := hv.1.form
  obtain ⟨gc, y2, rfl, _, _, hrow, _⟩ := hv.2
  have HI : Hid (SI true B w (.slice x1 m.args.length y1) m.args) := hv.1
  have HR : Hid (Row w gc 0 m.code) := hrow
  have hs1 := hs.1
  have hs2 := hs.2
  clear hv hrow hs
  obtain ⟨W, hW⟩ : ∃ W, W = (w.alloc (.cells #[.slice a n cap] 28)).alloc (.cells #[.int .i64 m.name, .slice x1 m.args.length y1, .int .i64 m.gives, .slice (some ⟨gc, 0, none⟩) m.code.length y2] 50) := ⟨_, rfl⟩
  have hwW : Below w.heap.size w W := by rw [hW]; exact ((Below.refl _ _).alloc (Nat.le_refl _) _).alloc (by simp) _
  have P0 : Hid (Cells W w.heap.size [.slice a n cap]) := by rw [hW]; exact (Cells.new w _ rfl _ _).alloc _
  have M0 : Hid (Cells W (w.heap.size + 1) [.int .i64 m.name, .slice x1 m.args.length y1, .int .i64 m.gives, .slice (some ⟨gc, 0, none⟩) m.code.length y2]) := by rw [hW]; exact Cells.new (w.alloc _) _ (by simp) _ _
  obtain ⟨nm, hnm⟩ : ∃ nm, nm = (decide (0 ≤ m.name) && decide (m.name < 20)) := ⟨_, rfl⟩
  obtain ⟨p0, _⟩ := P0.out.g0
  obtain ⟨m0, _⟩ := M0.out.g0
  obtain ⟨m1, _⟩ := M0.out.g1
  have HOK : Hid (okMB n m = (nm && decide (m.args.length ≤ 3) && m.args.all (tyB n) && tyB n m.gives && Lay.codeOk m.code)) := by
    show _ = _
    unfold okMB
    rw [hnm]
    have e : decide (m.name < 20) = decide (m.name ≤ 19) := by rw [Bool.eq_iff_iff]; simp; omega
    rw [e]
  go_enter Try.func55, Try.ntmps55
  go_wp2_with fail
  rw [← hW]
  clear hW
  refine (isBelow m.name 20 _).mono ?_
  rw [← hnm]
  rintro e w1 ⟨rfl, rfl⟩
  clear hnm
  cases nm
  · have HF : Hid (okMB n m = false) := by show _ = _; rw [HOK.out]; simp
    go_wp2
    go_ret
    exact ⟨retB HF.out.symm, hwW⟩
  · by_cases h3 : m.args.length ≤ 3
    · have h3i : ¬ (3 : Int) < (m.args.length : Int) := by omega
      go_wp2_with fail
      refine (areTypesOf B a x1 n cap y1 m.args hs1 _ (SI.on HI.out (Keep.of hwW))).mono ?_
      rintro e w2 ⟨rfl, hb2⟩
      have hw2 : Below w.heap.size w w2 := below_over hwW hb2
      obtain ⟨p2, _⟩ := (P0.out.on hb2).g0
      obtain ⟨n2, _⟩ := (M0.out.on hb2).g2
      cases ht : m.args.all (tyB n)
      · have HF : Hid (okMB n m = false) := by show _ = _; rw [HOK.out, ht]; simp
        go_wp2
        go_ret
        exact ⟨retB HF.out.symm, hw2⟩
      · have M2 : Hid (Cells w2 (w.heap.size + 1) [.int .i64 m.name, .slice x1 m.args.length y1, .int .i64 m.gives, .slice (some ⟨gc, 0, none⟩) m.code.length y2]) := M0.out.on hb2
        clear hb2
        go_wp2_with fail
        have hsi : SI false w2.heap.size (w2.alloc (.cells #[.int .i64 m.gives] 2)) (.slice (some ⟨w2.heap.size, 0, none⟩) [m.gives].length 1) [m.gives] :=
          SI.row (Nat.le_refl _) (by simp) (fun j x hj => by
            match j, hj with
            | 0, hj => simp at hj; subst hj; simp) (fun j hj => by
            match j, hj with
            | 0, _ => exact ⟨⟨.int .i64 m.gives, by simp⟩, by simp⟩)
        refine (areTypesOf w2.heap.size a (some ⟨w2.heap.size, 0, none⟩) n cap 1 [m.gives] (by simp) _ hsi).mono ?_
        rintro e w3 ⟨rfl, hb3⟩
        have hw3 : Below w.heap.size w w3 := below_over (hw2.alloc hw2.size _) hb3
        have eg : [m.gives].all (tyB n) = tyB n m.gives := by simp
        rw [eg]
        clear hsi eg
        obtain ⟨n3, _⟩ := ((M2.out.alloc (.cells #[.int .i64 m.gives] 2)).on hb3).g3
        clear hb3
        cases hg : tyB n m.gives
        · have HF : Hid (okMB n m = false) := by show _ = _; rw [HOK.out, hg]; simp
          go_wp2
          go_ret
          exact ⟨retB HF.out.symm, hw3⟩
        · go_wp2_with fail
          refine (implCodeOk gc y2 m.code hs2 _ (HR.out.on hw3)).mono ?_
          rintro e w4 ⟨rfl, hb4⟩
          have hw4 : Below w.heap.size w w4 := below_over hw3 hb4
          have HF : Hid (okMB n m = Lay.codeOk m.code) := by show _ = _; rw [HOK.out, ht, hg]; simp [h3]
          clear hb4
          go_wp2
          go_ret
          exact ⟨retB HF.out.symm, hw4⟩
    · have HF : Hid (okMB n m = false) := by show _ = _; rw [HOK.out]; simp [h3]
      have h3i : (3 : Int) < (m.args.length : Int) := by omega
      go_wp2
      go_ret
      exact ⟨retB HF.out.symm, hwW⟩
end Pg
end Go.Proofs.Ytjchmpdobghhnaa

/- Contracts of the program's own account of what a method above must agree with. -/
namespace Go.Proofs.Ytjchmpdobghhnaa
namespace Pg
open Go.ChangeShapes Go.WideShapes Go.ChangeAt Go.RowKit St

/-- The same, in one form. -/
def OwnR (B : Nat) (c : Cls) (name : Int) (w0 : World) (n : Int) (x1 : Option Addr) (l1 y1 : Nat) (g : Int) (x2 : Option Addr) (l2 y2 : Nat) (q : Bool) : Prop :=
  (q = true ∧ ∃ m, ownF c name = some m ∧ n = m.name ∧ l1 = m.args.length ∧ g = m.gives ∧ l2 = m.code.length ∧ MV front B w0 (.slice x1 l1 y1) (.slice x2 l2 y2) m) ∨ (q = false ∧ ownF c name = none)
theorem ownMethodR (B : Nat) (c : Cls) (q a : Option Addr) (cap af cf : Nat) (name : Int) (hn : c.meths.length ≤ 1048576) (w0 w : World) (hb0 : Below w0.heap.size w0 w) (hm : SM front B w0 (.slice a c.meths.length cap) c.meths) :
    Calls Try.prog 35 #[.agg #[.int .i64 c.super, .slice q af cf, .slice a c.meths.length cap], .int .i64 name] w fun e w' => ∃ n x1 l1 y1 g x2 l2 y2 q, e = .returned (.tuple #[.agg #[.int .i64 n, .slice x1 l1 y1, .int .i64 g, .slice x2 l2 y2], .bool q]) ∧ Hid (OwnR B c name w0 n x1 l1 y1 g x2 l2 y2 q) ∧ Below w.heap.size w w' := by
  refine (ownMethod B c q a cap af cf name hn w0 w hb0 hm).mono ?_
  rintro e w' ⟨⟨m, va, vc, h1, _, rfl, hv⟩ | ⟨h1, rfl⟩, hb⟩
  · obtain ⟨x1, y1, rfl⟩ := hv.1.form
    obtain ⟨x2, y2, rfl⟩ := front.form hv.2
    exact ⟨_, _, _, _, _, _, _, _, _, rfl, .inl ⟨rfl, m, h1, rfl, rfl, rfl, rfl, hv⟩, hb⟩
  · exact ⟨_, _, _, _, _, _, _, _, _, rfl, .inr ⟨rfl, h1⟩, hb⟩
theorem own_mem {c : Cls} {name : Int} {m : Meth} (h : ownF c name = some m) : m ∈ c.meths := List.mem_of_find?_eq_some h

theorem Cells.newD (w : World) (vs : List Value) (t : TypeId) : Cells (w.alloc (.cells vs.toArray t)).drew w.heap.size vs := fun i x hx => Cells.new w _ rfl vs t i x hx
set_option maxRecDepth 100000 in
set_option maxHeartbeats 2000000 in
theorem agreesAbove (B B' : Nat) (p : Prg) (m : Meth) (i : Nat) (a : Option Addr) (cap : Nat) (va vc : Value) (up : Int) (h6 : p.length ≤ 6) (hi : i ≤ p.length) (hsup : SupOk p i) (hu0 : -1 ≤ up) (hu1 : up < (i : Int)) (hsp : SmallP p) (hs : SmallM m) (w : World) (hp : SK front B w (.slice a p.length cap) p) (hv : MV front B' w va vc m) :
    Calls Try.prog 56 #[.agg #[.slice a p.length cap], .int .i64 up, .agg #[.int .i64 m.name, va, .int .i64 m.gives, vc]] w fun e w' => e = .returned (.bool (agreeF p m 6 up)) ∧ Below w.heap.size w w' := by
  obtain ⟨x1, y1, rfl⟩ := hv.1.form
  obtain ⟨x2, y2, rfl⟩ := front.form hv.2
  have HP : Hid (SK front B w (.slice a p.length cap) p) := hp
  have HI : Hid (SI true B' w (.slice x1 m.args.length y1) m.args) := hv.1
  have HSUP : Hid (SupOk p i) := hsup
  have HSP : Hid (SmallP p) := hsp
  have hs1 := hs.1
  clear hp hv hsup hsp hs
  obtain ⟨W, hW⟩ : ∃ W, W = (w.alloc (.cells #[.slice a p.length cap] 28)).alloc (.cells #[.int .i64 m.name, .slice x1 m.args.length y1, .int .i64 m.gives, .slice x2 m.code.length y2] 50) := ⟨_, rfl⟩
  have hwW : Below w.heap.size w W := by rw [hW]; exact ((Below.refl _ _).alloc (Nat.le_refl _) _).alloc (by simp) _
  have P0 : Hid (Cells W w.heap.size [.slice a p.length cap]) := by rw [hW]; exact (Cells.new w _ rfl _ _).alloc _
  have M0 : Hid (Cells W (w.heap.size + 1) [.int .i64 m.name, .slice x1 m.args.length y1, .int .i64 m.gives, .slice x2 m.code.length y2]) := by rw [hW]; exact Cells.new (w.alloc _) _ (by simp) _ _
  go_enter Try.func56, Try.ntmps56
  go_wp2
  rw [← hW]
  clear hW
  go_loopw [1] (fun v wr => ∃ u : Int, v = .int .i64 u ∧ -1 ≤ u ∧ u < (i : Int) ∧ Hid (agreeF p m 6 up = agreeF p m 6 u) ∧ Below W.heap.size W wr) (fun v _ => (intOf v + 1).toNat)
  case atStart => exact ⟨up, rfl, hu0, hu1, rfl, Below.refl _ _⟩
  case round =>
    clear hu0 hu1
    obtain ⟨u, rfl, hu0, hu1, hag, hb⟩ := hrel
    have hwr : Below w.heap.size w wr := below_over hwW hb
    by_cases hneg : u = -1
    · have HT : Hid (agreeF p m 6 up = true) := by
        show _ = _
        rw [hag.out]
        exact agreeF_neg p m 6 (by omega)
      subst hneg
      go_wp2
      go_ret
      exact ⟨retB HT.out.symm, hwr⟩
    · obtain ⟨j, rfl⟩ := Int.eq_ofNat_of_zero_le (show 0 ≤ u by omega)
      have hjp : j < p.length := by omega
      have hji : (j : Int) < (p.length : Int) := by omega
      have hj0 : (0 : Int) ≤ (j : Int) := by omega
      have hnb : ((j : Int) != -1) = true := by simp
      obtain ⟨b, o, rfl, _, vf, vm, d0, d1, d2, hcv⟩ := HP.out.get hjp
      obtain ⟨z1, t1, rfl⟩ := hcv.1.form
      obtain ⟨z2, t2, rfl⟩ := hcv.2.form
      have l0 : b < w.heap.size := cell_lt d0
      have c0 := (hwr.cell l0).trans d0
      have c1 := (hwr.cell l0).trans d1
      have c2 := (hwr.cell l0).trans d2
      have HSM : Hid (SM front B w (.slice z2 p[j].meths.length t2) p[j].meths) := hcv.2
      have hsm := HSP.out.2 _ (List.getElem_mem hjp)
      have HSMM : Hid (∀ m ∈ p[j].meths, SmallM m) := hsm.2.2
      have hsl := hsm.2.1
      have HST : Hid (agreeF p m 6 (j : Int) = (agree1 p[j] m && agreeF p m 6 p[j].super)) := agreeF_step HSUP.out m (by omega) (by omega) (List.getElem?_eq_getElem hjp)
      have hsu := HSUP.out j _ (by omega) (List.getElem?_eq_getElem hjp)
      generalize p[j] = c at *
      have hsu1 := hsu.1
      have hsu2 := hsu.2
      clear hcv hsm hsu d0 d1 d2 hneg
      obtain ⟨p0, _⟩ := (P0.out.on hb).g0
      obtain ⟨m0, _⟩ := (M0.out.on hb).g0
      have PR : Hid (Cells wr w.heap.size [.slice (some ⟨b, o, none⟩) p.length cap]) := P0.out.on hb
      have MR : Hid (Cells wr (w.heap.size + 1) [.int .i64 m.name, .slice x1 m.args.length y1, .int .i64 m.gives, .slice x2 m.code.length y2]) := M0.out.on hb
      have lb : b < wr.heap.size := Nat.lt_of_lt_of_le l0 hwr.size
      have hbA : Below wr.heap.size wr (wr.alloc (.cells #[.int .i64 0, .slice none 0 0, .int .i64 0, .slice none 0 0] 50)) := (Below.refl _ _).alloc (Nat.le_refl _) _
      have ls : w.heap.size < wr.heap.size := cell_lt p0
      have ls1 : w.heap.size + 1 < wr.heap.size := cell_lt m0
      have p0a := (hbA.cell ls).trans p0
      have m0a := (hbA.cell ls1).trans m0
      have c0a := (hbA.cell lb).trans c0
      have c1a := (hbA.cell lb).trans c1
      have c2a := (hbA.cell lb).trans c2
      clear hbA
      go_wp2_with fail
      go_region_with (go_at_call 35; refine (ownMethodR B c z1 z2 t2 c.fields.length t1 m.name hsl w _ ?hx HSM.out).mono ?_; (case hx => first | exact hwr.drew | exact (hwr.alloc hwr.size _).drew); rintro e w1 ⟨n, f1, l1, g1, gv, f2, l2, g2, q, rfl, hor, hb1⟩; first | (have BX := Cells.on (Cells.newD wr [.int .i64 0, .slice none 0 0, .int .i64 0, .slice none 0 0] 50) hb1; obtain ⟨b0, e0⟩ := BX.g0; obtain ⟨b1, e1⟩ := BX.g1; obtain ⟨b2, e2⟩ := BX.g2; obtain ⟨b3, e3⟩ := BX.g3) | skip)
      all_goals
        first
        | (have hF : Below wr.heap.size wr (w1.alloc (.cells #[.int .i64 n, .slice f1 l1 g1, .int .i64 gv, .slice f2 l2 g2] 50)) := (below_over (Below.refl _ _).drew hb1).alloc (below_over (Below.refl _ _).drew hb1).size _
           have OX : Hid (Cells (w1.alloc (.cells #[.int .i64 n, .slice f1 l1 g1, .int .i64 gv, .slice f2 l2 g2] 50)) w1.heap.size [.int .i64 n, .slice f1 l1 g1, .int .i64 gv, .slice f2 l2 g2]) := Cells.new w1 _ rfl _ _
           clear hb1
           generalize w1.alloc (.cells #[.int .i64 n, .slice f1 l1 g1, .int .i64 gv, .slice f2 l2 g2] 50) = wF at *)
        | (have hb1' : Below wr.heap.size wr w1 := below_over ((Below.refl _ _).alloc (Nat.le_refl _) _).drew hb1
           have OX : Hid (Cells ((((w1.setCell ⟨wr.heap.size, 0, none⟩ (.int .i64 n)).setCell ⟨wr.heap.size, 1, none⟩ (.slice f1 l1 g1)).setCell ⟨wr.heap.size, 2, none⟩ (.int .i64 gv)).setCell ⟨wr.heap.size, 3, none⟩ (.slice f2 l2 g2)) wr.heap.size [.int .i64 n, .slice f1 l1 g1, .int .i64 gv, .slice f2 l2 g2]) := (((BX.s0 _).s1 _).s2 _).s3 _
           have hF : Below wr.heap.size wr ((((w1.setCell ⟨wr.heap.size, 0, none⟩ (.int .i64 n)).setCell ⟨wr.heap.size, 1, none⟩ (.slice f1 l1 g1)).setCell ⟨wr.heap.size, 2, none⟩ (.int .i64 gv)).setCell ⟨wr.heap.size, 3, none⟩ (.slice f2 l2 g2)) := (((hb1'.setCell (p := ⟨wr.heap.size, 0, none⟩) (by simp) _).setCell (p := ⟨wr.heap.size, 1, none⟩) (by simp) _).setCell (p := ⟨wr.heap.size, 2, none⟩) (by simp) _).setCell (p := ⟨wr.heap.size, 3, none⟩) (by simp) _
           clear hb1 hb1' BX b0 b1 b2 b3 e0 e1 e2 e3
           generalize (((w1.setCell ⟨wr.heap.size, 0, none⟩ (.int .i64 n)).setCell ⟨wr.heap.size, 1, none⟩ (.slice f1 l1 g1)).setCell ⟨wr.heap.size, 2, none⟩ (.int .i64 gv)).setCell ⟨wr.heap.size, 3, none⟩ (.slice f2 l2 g2) = wF at *)
        have hwF : Below w.heap.size w wF := below_over hwr hF
        have hWF : Below W.heap.size W wF := below_over hb hF
        obtain ⟨o1, _⟩ := OX.out.g1
        obtain ⟨o2, _⟩ := OX.out.g2
        obtain ⟨mF1, _⟩ := (MR.out.on hF).g1
        obtain ⟨mF2, _⟩ := (MR.out.on hF).g2
        obtain ⟨pF, _⟩ := (PR.out.on hF).g0
        have cF := (hF.cell lb).trans c0
        have PF : Hid (Cells wF w.heap.size [.slice (some ⟨b, o, none⟩) p.length cap]) := PR.out.on hF
        have lbF : b < wF.heap.size := Nat.lt_of_lt_of_le lb hF.size
        clear OX hF hwr hb p0 m0 p0a m0a c0a c1a c2a c0 c1 c2 PR MR ls ls1
        rcases hor.out with ⟨rfl, x, hox, rfl, rfl, rfl, rfl, hxv⟩ | ⟨rfl, hox⟩
        · have HAX : Hid (agree1 c m = (decide (x.args = m.args) && decide (x.gives = m.gives))) := by show _ = _; simp [agree1, hox]
          have hxs := (HSMM.out x (own_mem hox)).1
          have HXI : Hid (SI true B w (.slice f1 x.args.length g1) x.args) := hxv.1
          clear hor hox hxv
          by_cases hgv : x.gives = m.gives
          · rw [hgv] at o2
            have hgb : (m.gives != m.gives) = false := by simp
            go_wp2_with fail
            refine (slicesEqual B B' f1 x1 g1 y1 x.args m.args hxs _ (SI.on HXI.out (Keep.of hwF)) (SI.on HI.out (Keep.of hwF))).mono ?_
            rintro e w2 ⟨rfl, hb2⟩
            have hw2 : Below w.heap.size w w2 := below_over hwF hb2
            have hW2 : Below W.heap.size W w2 := below_over hWF hb2
            obtain ⟨p2, _⟩ := (PF.out.on hb2).g0
            have c2' := (hb2.cell lbF).trans cF
            clear hb2 pF cF PF mF1 mF2 o1 o2
            cases hq : decide (x.args = m.args)
            · have HT : Hid (agreeF p m 6 up = false) := by
                show _ = _
                rw [hag.out, HST.out, HAX.out, hq]; simp
              go_wp2
              go_ret
              exact ⟨retB HT.out.symm, hw2⟩
            · have HT : Hid (agreeF p m 6 up = agreeF p m 6 c.super) := by
                show _ = _
                rw [hag.out, HST.out, HAX.out, hq]; simp [hgv]
              clear hag HST HAX
              go_wp2
              go_roundw
              case rel => exact ⟨c.super, rfl, hsu1, by omega, HT.out, hW2⟩
              case measure => simp [intOf]; omega
          · have hgb : (x.gives != m.gives) = true := by simpa using hgv
            have HT : Hid (agreeF p m 6 up = false) := by
              show _ = _
              rw [hag.out, HST.out, HAX.out]; simp [hgv]
            go_wp2
            go_ret
            exact ⟨retB HT.out.symm, hwF⟩
        · have HT : Hid (agreeF p m 6 up = agreeF p m 6 c.super) := by
            show _ = _
            rw [hag.out, HST.out]; simp [agree1, hox]
          clear hag HST hor hox
          go_wp2
          go_roundw
          case rel => exact ⟨c.super, rfl, hsu1, by omega, HT.out, hWF⟩
          case measure => simp [intOf]; omega
end Pg
end Go.Proofs.Ytjchmpdobghhnaa

/- Contracts of the program's own account of which classes and which programs are right. -/
namespace Go.Proofs.Ytjchmpdobghhnaa
namespace Pg
open Go.ChangeShapes Go.WideShapes Go.ChangeAt Go.RowKit St

theorem okC_split (p : Prg) (i : Nat) (c : Cls) : okCB p i c = (decide (-1 ≤ c.super) && decide (c.super < (i : Int)) && decide (c.fields.length ≤ 4) && c.fields.all (tyB p.length) && decide (c.meths.length ≤ 4) && (List.range c.meths.length).all (okK p c)) := rfl
theorem okK_zero {p : Prg} {c : Cls} {m : Meth} (h : c.meths[0]? = some m) : okK p c 0 = (okMB p.length m && agreeF p m 6 c.super) := by simp [okK, h]
theorem okK_succ {p : Prg} {c : Cls} {j : Nat} {m q : Meth} (h : c.meths[j + 1]? = some m) (hq : c.meths[j]? = some q) : okK p c (j + 1) = (okMB p.length m && decide (q.name < m.name) && agreeF p m 6 c.super) := by simp [okK, h, hq]
theorem okC_done {p : Prg} {i : Nat} {c : Cls} (h1 : -1 ≤ c.super) (h2 : c.super < (i : Int)) (h3 : c.fields.length ≤ 4) (h4 : c.fields.all (tyB p.length) = true) (h5 : c.meths.length ≤ 4) (h : ∀ j, j < c.meths.length → okK p c j = true) : okCB p i c = true := by
  have : (List.range c.meths.length).all (okK p c) = true := List.all_eq_true.2 fun j hj => h j (List.mem_range.1 hj)
  rw [okC_split, this, h4]
  simp [h1, h2, h3, h5]

set_option maxRecDepth 100000 in
set_option maxHeartbeats 4000000 in
theorem isClassOf (B : Nat) (p : Prg) (i : Nat) (a : Option Addr) (cap : Nat) (hi : i < p.length) (h6 : p.length ≤ 6) (hsup : SupOk p i) (hsp : SmallP p) (w : World) (hp : SK front B w (.slice a p.length cap) p) :
    Calls Try.prog 34 #[.agg #[.slice a p.length cap], .int .i64 i] w fun e w' => e = .returned (.bool (okAt p i)) ∧ Below w.heap.size w w' := by
  obtain ⟨b, o, rfl, _, vf, vm, c0, c1, c2, hcv⟩ := hp.get hi
  obtain ⟨z1, t1, rfl⟩ := hcv.1.form
  obtain ⟨z2, t2, rfl⟩ := hcv.2.form
  have HP : Hid (SK front B w (.slice (some ⟨b, o, none⟩) p.length cap) p) := hp
  have HF : Hid (SI true B w (.slice z1 p[i].fields.length t1) p[i].fields) := hcv.1
  have HM : Hid (SM front B w (.slice z2 p[i].meths.length t2) p[i].meths) := hcv.2
  have HSUP : Hid (SupOk p i) := hsup
  have HSP : Hid (SmallP p) := hsp
  have hsc := hsp.2 _ (List.getElem_mem hi)
  have HSMM : Hid (∀ m ∈ p[i].meths, SmallM m) := hsc.2.2
  have hsf := hsc.1
  have hsm := hsc.2.1
  have HAT : Hid (okAt p i = okCB p i p[i]) := okAt_of (List.getElem?_eq_getElem hi)
  generalize p[i] = c at *
  clear hp hcv hsup hsp hsc
  have hii : (i : Int) < (p.length : Int) := by omega
  have hi0 : (0 : Int) ≤ (i : Int) := by omega
  obtain ⟨W, hW⟩ : ∃ W, W = (w.alloc (.cells #[.slice (some ⟨b, o, none⟩) p.length cap] 28)).alloc (.cells #[.int .i64 c.super, .slice z1 c.fields.length t1, .slice z2 c.meths.length t2] 42) := ⟨_, rfl⟩
  have hwW : Below w.heap.size w W := by rw [hW]; exact ((Below.refl _ _).alloc (Nat.le_refl _) _).alloc (by simp) _
  have P0 : Hid (Cells W w.heap.size [.slice (some ⟨b, o, none⟩) p.length cap]) := by rw [hW]; exact (Cells.new w _ rfl _ _).alloc _
  have C0 : Hid (Cells W (w.heap.size + 1) [.int .i64 c.super, .slice z1 c.fields.length t1, .slice z2 c.meths.length t2]) := by rw [hW]; exact Cells.new (w.alloc _) _ (by simp) _ _
  have lc : b < w.heap.size := cell_lt c0
  have hbP : Below w.heap.size w (w.alloc (.cells #[.slice (some ⟨b, o, none⟩) p.length cap] 28)) := (Below.refl _ _).alloc (Nat.le_refl _) _
  have c0 := (hbP.cell lc).trans c0
  have c1 := (hbP.cell lc).trans c1
  have c2 := (hbP.cell lc).trans c2
  clear hbP
  by_cases hs : -1 ≤ c.super ∧ c.super < (i : Int)
  · obtain ⟨hs1, hs2⟩ := hs
    have hs1' : ¬ c.super < -1 := by omega
    by_cases h4 : c.fields.length ≤ 4
    · have h4i : ¬ (4 : Int) < (c.fields.length : Int) := by omega
      go_enter Try.func34, Try.ntmps34
      go_wp2_with fail
      rw [← hW]
      clear hW
      refine (areTypesOf B (some ⟨b, o, none⟩) z1 p.length cap t1 c.fields hsf _ (SI.on HF.out (Keep.of hwW))).mono ?_
      rintro e w1 ⟨rfl, hb1⟩
      have hw1 : Below w.heap.size w w1 := below_over hwW hb1
      obtain ⟨q2, _⟩ := (C0.out.on hb1).g2
      have hW1 : Below W.heap.size W w1 := hb1
      clear hb1
      cases hty : c.fields.all (tyB p.length)
      · have HN : Hid (okAt p i = false) := by show _ = _; rw [HAT.out, okC_split, hty]; simp
        go_wp2
        go_ret
        exact ⟨retB HN.out.symm, hw1⟩
      · by_cases h4m : c.meths.length ≤ 4
        · have h4j : ¬ (4 : Int) < (c.meths.length : Int) := by omega
          have HTY : Hid (c.fields.all (tyB p.length) = true) := hty
          clear hty
          go_wp2
          go_loopw [42] (fun v wr => ∃ k : Nat, k ≤ c.meths.length ∧ v = .int .i64 k ∧ Hid (∀ j, j < k → okK p c j = true) ∧ Below W.heap.size W wr) (fun v _ => c.meths.length - (intOf v).toNat)
          case atStart => exact ⟨0, Nat.zero_le _, rfl, fun j h => absurd h (Nat.not_lt_zero _), hW1⟩
          case round =>
            clear q2 hW1 hw1
            obtain ⟨k, hk, rfl, hall, hb⟩ := hrel
            have hwr : Below w.heap.size w wr := below_over hwW hb
            by_cases hlt : k < c.meths.length
            · have hki : (k : Int) < (c.meths.length : Int) := by omega
              have hki0 : (0 : Int) ≤ (k : Int) := by omega
              obtain ⟨bm, om, rfl, _, va, vc, d0, d1, d2, d3, hmv⟩ := HM.out.get hlt
              obtain ⟨x1, y1, rfl⟩ := hmv.1.form
              obtain ⟨x2, y2, rfl⟩ := front.form hmv.2
              have l0 : bm < w.heap.size := cell_lt d0
              have m0 := (hwr.cell l0).trans d0
              have m1 := (hwr.cell l0).trans d1
              have m2 := (hwr.cell l0).trans d2
              have m3 := (hwr.cell l0).trans d3
              have HMV : Hid (MV front B w (.slice x1 c.meths[k].args.length y1) (.slice x2 c.meths[k].code.length y2) c.meths[k]) := hmv
              have HSM : Hid (SmallM c.meths[k]) := HSMM.out _ (List.getElem_mem hlt)
              have HNO : Hid (okK p c k = false → okAt p i = false) := fun h => by rw [HAT.out]; exact okC_no hlt h
              have HYES : Hid (okK p c k = true → ∀ j, j < k + 1 → okK p c j = true) := fun h j hj => by
                by_cases e : j = k
                · rw [e]; exact h
                · exact hall.out j (by omega)
              clear hmv d0 d1 d2 d3 hall
              obtain ⟨WM, hWM⟩ : ∃ WM, WM = wr.alloc (.cells #[.int .i64 c.meths[k].name, .slice x1 c.meths[k].args.length y1, .int .i64 c.meths[k].gives, .slice x2 c.meths[k].code.length y2] 50) := ⟨_, rfl⟩
              have hbM : Below wr.heap.size wr WM := by rw [hWM]; exact (Below.refl _ _).alloc (Nat.le_refl _) _
              have MB : Hid (Cells WM wr.heap.size [.int .i64 c.meths[k].name, .slice x1 c.meths[k].args.length y1, .int .i64 c.meths[k].gives, .slice x2 c.meths[k].code.length y2]) := by rw [hWM]; exact Cells.new wr _ rfl _ _
              have CB := (C0.out.on hb).on hbM
              have PB : Hid (Cells WM w.heap.size [.slice (some ⟨b, o, none⟩) p.length cap]) := (P0.out.on hb).on hbM
              have mb0 := MB.out.g0.1
              have cb2 := CB.g2.1
              have CBH : Hid (Cells WM (w.heap.size + 1) [.int .i64 c.super, .slice z1 c.fields.length t1, .slice (some ⟨bm, om, none⟩) c.meths.length t2]) := CB
              have hWM' : Below W.heap.size W WM := below_over hb hbM
              clear CB
              cases k with
              | zero =>
                have HK : Hid (okK p c 0 = (okMB p.length c.meths[0] && agreeF p c.meths[0] 6 c.super)) := okK_zero (List.getElem?_eq_getElem hlt)
                generalize c.meths[0] = m at *
                simp only [Nat.zero_mul, Nat.add_zero] at m0 m1 m2 m3
                go_wp2_with fail
                rw [← hWM]
                clear hWM m0 m1 m2 m3
                have r0 := cell_regrown mb0
                have r2 := cell_regrown cb2
                refine wp_region_quiet_below (by kernel_rfl) (by kernel_rfl) ?_
                repeat (go_big_quiet_step (fail))
                refine wpQuiet_nil ?_
                intro _ hw'
                obtain ⟨⟨dq, osq⟩, hw''⟩ := hw'
                subst hw''
                have hbV := below_regrown WM dq osq
                clear r0 r2 mb0 cb2
                generalize Sort.grow (redrawn WM dq) osq = V at *
                have hwV : Below w.heap.size w V := below_over (below_over hwr hbM) hbV
                have hWV : Below W.heap.size W V := below_over hWM' hbV
                have MV' : Hid (Cells V wr.heap.size [.int .i64 m.name, .slice x1 m.args.length y1, .int .i64 m.gives, .slice x2 m.code.length y2]) := MB.out.on hbV
                have PV' : Hid (Cells V w.heap.size [.slice (some ⟨b, o, none⟩) p.length cap]) := PB.out.on hbV
                have CV' : Hid (Cells V (w.heap.size + 1) [.int .i64 c.super, .slice z1 c.fields.length t1, .slice (some ⟨bm, om, none⟩) c.meths.length t2]) := CBH.out.on hbV
                obtain ⟨p0, _⟩ := PV'.out.g0
                obtain ⟨n0, _⟩ := MV'.out.g0
                obtain ⟨n1, _⟩ := MV'.out.g1
                obtain ⟨n2, _⟩ := MV'.out.g2
                obtain ⟨n3, _⟩ := MV'.out.g3
                clear hbV hbM hb hwr MB PB CBH hWM'
                go_wp2_with fail
                refine (isMethodOf B m (some ⟨b, o, none⟩) p.length cap _ _ HSM.out _ (HMV.out.on (Keep.of hwV))).mono ?_
                rintro e w2 ⟨rfl, hb2⟩
                have hw2 : Below w.heap.size w w2 := below_over hwV hb2
                have hW2 : Below W.heap.size W w2 := below_over hWV hb2
                have M2 := MV'.out.on hb2
                obtain ⟨p2, _⟩ := (PV'.out.on hb2).g0
                obtain ⟨c20, _⟩ := (CV'.out.on hb2).g0
                obtain ⟨k0, _⟩ := M2.g0
                obtain ⟨k1, _⟩ := M2.g1
                obtain ⟨k2, _⟩ := M2.g2
                obtain ⟨k3, _⟩ := M2.g3
                clear hb2 p0 n0 n1 n2 n3 M2 MV' PV' CV'
                cases hmo : okMB p.length m
                · have HN : Hid (okAt p i = false) := HNO.out (by rw [HK.out, hmo]; simp)
                  go_wp2
                  go_ret
                  exact ⟨retB HN.out.symm, hw2⟩
                · go_wp2_with fail
                  refine (agreesAbove B B p m i (some ⟨b, o, none⟩) cap _ _ c.super h6 (by omega) HSUP.out hs1 hs2 HSP.out HSM.out _ (SK.on HP.out (Keep.of hw2)) (HMV.out.on (Keep.of hw2))).mono ?_
                  rintro e w3 ⟨rfl, hb3⟩
                  have hw3 : Below w.heap.size w w3 := below_over hw2 hb3
                  have hW3 : Below W.heap.size W w3 := below_over hW2 hb3
                  clear hb3 p2 c20 k0 k1 k2 k3
                  cases hga : agreeF p m 6 c.super
                  · have HN : Hid (okAt p i = false) := HNO.out (by rw [HK.out, hga]; simp)
                    go_wp2
                    go_ret
                    exact ⟨retB HN.out.symm, hw3⟩
                  · have HY : Hid (∀ j, j < 0 + 1 → okK p c j = true) := HYES.out (by rw [HK.out, hmo, hga]; rfl)
                    clear HNO HYES HK
                    go_wp2
                    go_roundw
                    case rel => exact ⟨0 + 1, by omega, by go_num, HY.out, hW3⟩
                    case measure => simp [intOf]; omega
              | succ j =>
                have hj : j < c.meths.length := by omega
                have HK : Hid (okK p c (j + 1) = (okMB p.length c.meths[j + 1] && decide (c.meths[j].name < c.meths[j + 1].name) && agreeF p c.meths[j + 1] 6 c.super)) := okK_succ (List.getElem?_eq_getElem hlt) (List.getElem?_eq_getElem hj)
                obtain ⟨b', o', hb', _, va', vc', g0, _⟩ := HM.out.get hj
                simp at hb'
                obtain ⟨rfl, rfl⟩ := hb'
                have v0 := (below_over hwr hbM).cell (p := ⟨bm, om + j * 4, none⟩) l0 |>.trans g0
                clear g0
                generalize c.meths[j + 1] = m at *
                generalize c.meths[j] = pv at *
                have hwj : IntKind.i64.wrap (j : Int) = (j : Int) := by simp [IntKind.wrap, IntKind.signed, IntKind.bits]; omega
                have hji : (j : Int) < (c.meths.length : Int) := by omega
                have hj1 : (0 : Int) < (j : Int) + 1 := by omega
                have hcast : ((j + 1 : Nat) : Int) = (j : Int) + 1 := by omega
                go_wp2_with fail
                rw [← hWM]
                clear hWM m0 m1 m2 m3
                have r0 := cell_regrown mb0
                have r2 := cell_regrown cb2
                have r3 := cell_regrown v0
                by_cases hle : m.name ≤ pv.name
                · have HN : Hid (okAt p i = false) := HNO.out (by rw [HK.out]; simp; intro _ h; omega)
                  refine wp_region_quiet_below (by kernel_rfl) (by kernel_rfl) ?_
                  repeat (go_big_quiet_step (fail))
                  refine wpQuiet_nil ?_
                  intro _ hw'
                  obtain ⟨⟨dq, osq⟩, hw''⟩ := hw'
                  subst hw''
                  have hbV := below_regrown WM dq osq
                  clear r0 r2 mb0 cb2 v0 r3
                  generalize Sort.grow (redrawn WM dq) osq = V at *
                  have hwV : Below w.heap.size w V := below_over (below_over hwr hbM) hbV
                  go_wp2
                  go_ret
                  exact ⟨retB HN.out.symm, hwV⟩
                · refine wp_region_quiet_below (by kernel_rfl) (by kernel_rfl) ?_
                  repeat (go_big_quiet_step (fail))
                  refine wpQuiet_nil ?_
                  intro _ hw'
                  obtain ⟨⟨dq, osq⟩, hw''⟩ := hw'
                  subst hw''
                  have hbV := below_regrown WM dq osq
                  have HK : Hid (okK p c (j + 1) = (okMB p.length m && agreeF p m 6 c.super)) := by
                    show _ = _
                    rw [HK.out]
                    have : decide (pv.name < m.name) = true := by simp; omega
                    rw [this, Bool.and_true]
                  clear r0 r2 mb0 cb2 v0 r3 hle hwj
                  generalize Sort.grow (redrawn WM dq) osq = V at *
                  have hwV : Below w.heap.size w V := below_over (below_over hwr hbM) hbV
                  have hWV : Below W.heap.size W V := below_over hWM' hbV
                  have MV' : Hid (Cells V wr.heap.size [.int .i64 m.name, .slice x1 m.args.length y1, .int .i64 m.gives, .slice x2 m.code.length y2]) := MB.out.on hbV
                  have PV' : Hid (Cells V w.heap.size [.slice (some ⟨b, o, none⟩) p.length cap]) := PB.out.on hbV
                  have CV' : Hid (Cells V (w.heap.size + 1) [.int .i64 c.super, .slice z1 c.fields.length t1, .slice (some ⟨bm, om, none⟩) c.meths.length t2]) := CBH.out.on hbV
                  obtain ⟨p0, _⟩ := PV'.out.g0
                  obtain ⟨n0, _⟩ := MV'.out.g0
                  obtain ⟨n1, _⟩ := MV'.out.g1
                  obtain ⟨n2, _⟩ := MV'.out.g2
                  obtain ⟨n3, _⟩ := MV'.out.g3
                  clear hbV hbM hb hwr MB PB CBH hWM'
                  go_wp2_with fail
                  refine (isMethodOf B m (some ⟨b, o, none⟩) p.length cap _ _ HSM.out _ (HMV.out.on (Keep.of hwV))).mono ?_
                  rintro e w2 ⟨rfl, hb2⟩
                  have hw2 : Below w.heap.size w w2 := below_over hwV hb2
                  have hW2 : Below W.heap.size W w2 := below_over hWV hb2
                  have M2 := MV'.out.on hb2
                  obtain ⟨p2, _⟩ := (PV'.out.on hb2).g0
                  obtain ⟨c20, _⟩ := (CV'.out.on hb2).g0
                  obtain ⟨k0, _⟩ := M2.g0
                  obtain ⟨k1, _⟩ := M2.g1
                  obtain ⟨k2, _⟩ := M2.g2
                  obtain ⟨k3, _⟩ := M2.g3
                  clear hb2 p0 n0 n1 n2 n3 M2 MV' PV' CV'
                  cases hmo : okMB p.length m
                  · have HN : Hid (okAt p i = false) := HNO.out (by rw [HK.out, hmo]; simp)
                    go_wp2
                    go_ret
                    exact ⟨retB HN.out.symm, hw2⟩
                  · go_wp2_with fail
                    refine (agreesAbove B B p m i (some ⟨b, o, none⟩) cap _ _ c.super h6 (by omega) HSUP.out hs1 hs2 HSP.out HSM.out _ (SK.on HP.out (Keep.of hw2)) (HMV.out.on (Keep.of hw2))).mono ?_
                    rintro e w3 ⟨rfl, hb3⟩
                    have hw3 : Below w.heap.size w w3 := below_over hw2 hb3
                    have hW3 : Below W.heap.size W w3 := below_over hW2 hb3
                    clear hb3 p2 c20 k0 k1 k2 k3
                    cases hga : agreeF p m 6 c.super
                    · have HN : Hid (okAt p i = false) := HNO.out (by rw [HK.out, hga]; simp)
                      go_wp2
                      go_ret
                      exact ⟨retB HN.out.symm, hw3⟩
                    · have HY : Hid (∀ jj, jj < (j + 1) + 1 → okK p c jj = true) := HYES.out (by rw [HK.out, hmo, hga]; rfl)
                      clear HNO HYES HK
                      go_wp2
                      go_roundw
                      case rel => exact ⟨(j + 1) + 1, by omega, by go_num, HY.out, hW3⟩
                      case measure => simp [intOf]; omega
            · have HN : Hid (okAt p i = true) := by
                show _ = _
                rw [HAT.out]
                exact okC_done hs1 hs2 h4 HTY.out h4m (fun j hj => hall.out j (by omega))
              go_wp2
              go_ret
              exact ⟨retB HN.out.symm, hwr⟩
        · have h4j : (4 : Int) < (c.meths.length : Int) := by omega
          have HN : Hid (okAt p i = false) := by show _ = _; rw [HAT.out, okC_split]; simp [h4m]
          go_wp2
          go_ret
          exact ⟨retB HN.out.symm, hw1⟩
    · have h4i : (4 : Int) < (c.fields.length : Int) := by omega
      have HN : Hid (okAt p i = false) := by show _ = _; rw [HAT.out, okC_split]; simp [h4]
      go_enter Try.func34, Try.ntmps34
      go_wp2
      go_ret
      rw [← hW]
      exact ⟨retB HN.out.symm, hwW⟩
  · have HN : Hid (okAt p i = false) := by show _ = _; rw [HAT.out, okC_split]; simp; intro h1 h2; exact absurd ⟨h1, h2⟩ hs
    by_cases hs1 : c.super < -1
    · go_enter Try.func34, Try.ntmps34
      go_wp2
      go_ret
      rw [← hW]
      exact ⟨retB HN.out.symm, hwW⟩
    · have hs2 : (i : Int) ≤ c.super := by omega
      go_enter Try.func34, Try.ntmps34
      go_wp2
      go_ret
      rw [← hW]
      exact ⟨retB HN.out.symm, hwW⟩
end Pg
end Go.Proofs.Ytjchmpdobghhnaa
