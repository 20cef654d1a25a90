/- When a program is right, as a plain function. -/
import Derived.Test.YtogbkdhejdcpeaaDoorJPg0
namespace Go.Proofs.YtogbkdhejdcpeaaDoor
namespace Pg
open Go.ChangeShapes Go.WideShapes Go.ChangeAt Go.RowKit St

def tyB (n t : Int) : Bool := decide (t = -1) || (decide (0 ≤ t) && decide (t < n))
def okMB (n : Int) (m : Meth) : Bool := decide (0 ≤ m.name) && decide (m.name ≤ 19) && decide (m.args.length ≤ 3) && m.args.all (tyB n) && tyB n m.gives && Lay.codeOk m.code
def ownF (c : Cls) (name : Int) : Option Meth := c.meths.find? fun m => decide (m.name = name)
def agree1 (c : Cls) (m : Meth) : Bool := match ownF c m.name with | none => true | some x => decide (x.args = m.args) && decide (x.gives = m.gives)
def agreeF (p : Prg) (m : Meth) : Nat → Int → Bool
  | 0, _ => true
  | f + 1, up => if up < 0 then true else match p[up.toNat]? with | none => true | some c => agree1 c m && agreeF p m f c.super
def okK (p : Prg) (c : Cls) (k : Nat) : Bool := match c.meths[k]? with
  | none => true
  | some m => okMB p.length m && (match k with | 0 => true | j + 1 => match c.meths[j]? with | none => true | some q => decide (q.name < m.name)) && agreeF p m 6 c.super
def okCB (p : Prg) (i : Nat) (c : Cls) : Bool := decide (-1 ≤ c.super) && decide (c.super < (i : Int)) && decide (c.fields.length ≤ 4) && c.fields.all (tyB p.length) && decide (c.meths.length ≤ 4) && (List.range c.meths.length).all (okK p c)
def okAt (p : Prg) (i : Nat) : Bool := match p[i]? with | none => true | some c => okCB p i c
def mainOk (p : Prg) : Bool := match p[0]? with | none => false | some c => match ownF c 0 with | none => false | some m => decide (m.args.length = 0) && decide (m.gives = -1)
def okP (p : Prg) : Bool := decide (1 ≤ p.length) && decide (p.length ≤ 6) && (List.range p.length).all (okAt p) && mainOk p

theorem okP_len {p : Prg} (h : okP p = true) : 1 ≤ p.length ∧ p.length ≤ 6 := by
  unfold okP at h
  simp only [Bool.and_eq_true, decide_eq_true_eq] at h
  exact ⟨h.1.1.1, h.1.1.2⟩
theorem okP_at {p : Prg} (h : okP p = true) {i : Nat} (hi : i < p.length) : okAt p i = true := by
  unfold okP at h
  simp only [Bool.and_eq_true] at h
  exact List.all_eq_true.1 h.1.2 i (List.mem_range.2 hi)
theorem okP_few {p : Prg} (h : p.length < 1) : okP p = false := by simp [okP]; omega
theorem okP_many {p : Prg} (h : 6 < p.length) : okP p = false := by
  cases hh : okP p
  · rfl
  · have := okP_len hh; omega
theorem okP_no {p : Prg} {i : Nat} (hi : i < p.length) (h : okAt p i = false) : okP p = false := by
  cases hh : okP p
  · rfl
  · rw [okP_at hh hi] at h; simp at h
theorem okP_main {p : Prg} (h1 : 1 ≤ p.length) (h2 : p.length ≤ 6) (h : ∀ i, i < p.length → okAt p i = true) : okP p = mainOk p := by
  have : (List.range p.length).all (okAt p) = true := List.all_eq_true.2 fun i hi => h i (List.mem_range.1 hi)
  simp [okP, this, h1, h2]
theorem okAt_of {p : Prg} {i : Nat} {c : Cls} (h : p[i]? = some c) : okAt p i = okCB p i c := by simp [okAt, h]
theorem okC_super {p : Prg} {i : Nat} {c : Cls} (h : okCB p i c = true) : -1 ≤ c.super ∧ c.super < (i : Int) := by
  unfold okCB at h
  simp only [Bool.and_eq_true, decide_eq_true_eq] at h
  exact ⟨h.1.1.1.1.1, h.1.1.1.1.2⟩
theorem okC_few {p : Prg} {i : Nat} {c : Cls} (h : okCB p i c = true) : c.fields.length ≤ 4 ∧ c.meths.length ≤ 4 := by
  unfold okCB at h
  simp only [Bool.and_eq_true, decide_eq_true_eq] at h
  exact ⟨h.1.1.1.2, h.1.2⟩
theorem okC_meth {p : Prg} {i : Nat} {c : Cls} (h : okCB p i c = true) {k : Nat} (hk : k < c.meths.length) : okK p c k = true := by
  unfold okCB at h
  simp only [Bool.and_eq_true] at h
  exact List.all_eq_true.1 h.2 k (List.mem_range.2 hk)
theorem okC_no {p : Prg} {i : Nat} {c : Cls} {k : Nat} (hk : k < c.meths.length) (h : okK p c k = false) : okCB p i c = false := by
  cases hh : okCB p i c
  · rfl
  · rw [okC_meth hh hk] at h; simp at h
/-- All classes before this one have a lesser Super. -/
def SupOk (p : Prg) (n : Nat) : Prop := ∀ j c, j < n → p[j]? = some c → -1 ≤ c.super ∧ c.super < (j : Int)
theorem SupOk.of {p : Prg} {n : Nat} (h : ∀ i, i < n → okAt p i = true) : SupOk p n := fun j c hj hc => okC_super (by rw [← okAt_of hc]; exact h j hj)
theorem agreeF_neg (p : Prg) (m : Meth) (f : Nat) {up : Int} (h : up < 0) : agreeF p m f up = true := by
  cases f with
  | zero => rfl
  | succ f => simp [agreeF, h]
theorem agreeF_fuel {p : Prg} {n : Nat} (hs : SupOk p n) (m : Meth) : ∀ (f g : Nat) (up : Int), up < (n : Int) → up < (f : Int) → up < (g : Int) → agreeF p m f up = agreeF p m g up := by
  intro f
  induction f with
  | zero => intro g up _ h1 _; rw [agreeF_neg _ _ _ (by omega), agreeF_neg _ _ _ (by omega)]
  | succ f ih =>
    intro g up hn h1 h2
    by_cases h0 : up < 0
    · rw [agreeF_neg _ _ _ h0, agreeF_neg _ _ _ h0]
    · cases g with
      | zero => omega
      | succ g =>
        simp only [agreeF, h0, if_false]
        cases hc : p[up.toNat]? with
        | none => rfl
        | some c =>
          have := hs up.toNat c (by omega) hc
          simp only []
          rw [ih g c.super (by omega) (by omega) (by omega)]
/-- One class further up. -/
theorem agreeF_step {p : Prg} {n : Nat} (hs : SupOk p n) (m : Meth) {u : Nat} (hu : u < n) (h6 : u < 6) {c : Cls} (hc : p[u]? = some c) : agreeF p m 6 (u : Int) = (agree1 c m && agreeF p m 6 c.super) := by
  have h0 : ¬ (u : Int) < 0 := by omega
  have := hs u c hu hc
  have e : agreeF p m 5 c.super = agreeF p m 6 c.super := agreeF_fuel hs m 5 6 c.super (by omega) (by omega) (by omega)
  show (if (u : Int) < 0 then true else match p[(u : Int).toNat]? with | none => true | some c => agree1 c m && agreeF p m 5 c.super) = _
  rw [if_neg h0, Int.toNat_natCast, hc]
  simp only []
  rw [e]
theorem find_none {c : Cls} {name : Int} (h : ∀ j, j < c.meths.length → ∀ m, c.meths[j]? = some m → m.name ≠ name) : ownF c name = none := by
  unfold ownF
  rw [List.find?_eq_none]
  intro m hm
  obtain ⟨j, hj, rfl⟩ := List.getElem_of_mem hm
  simpa using h j hj _ (List.getElem?_eq_getElem hj)
theorem find_at {c : Cls} {name : Int} {k : Nat} {m : Meth} (h : ∀ j, j < k → ∀ m, c.meths[j]? = some m → m.name ≠ name) (hk : c.meths[k]? = some m) (hn : m.name = name) : ownF c name = some m := by
  unfold ownF
  rw [List.find?_eq_some_iff_getElem]
  obtain ⟨hlt, hm⟩ := List.getElem?_eq_some_iff.1 hk
  refine ⟨by simpa using hn, k, hlt, hm, fun j hj => ?_⟩
  simpa using h j hj _ (List.getElem?_eq_getElem (by omega))
end Pg
end Go.Proofs.YtogbkdhejdcpeaaDoor

/- Contracts of the laws' own counting of what there is in a program. -/
namespace Go.Proofs.YtogbkdhejdcpeaaDoor
namespace Pg
open Go.ChangeShapes Go.WideShapes Go.ChangeAt Go.RowKit St

/-- What is left, or -1. -/
def szR (n : Nat) (left : Int) : Int := if (n : Int) ≤ left then left - n else -1
theorem szR_yes {n : Nat} {left : Int} (h : (n : Int) ≤ left) : szR n left = left - n := if_pos h
theorem szR_no {n : Nat} {left : Int} (h : left < (n : Int)) : szR n left = -1 := if_neg (by omega)
theorem retI {p q : Int} (h : p = q) : Ending.returned (.int .i64 p) = .returned (.int .i64 q) := by rw [h]
/-- No slice is longer than slices can be. -/
def SaneM (m : Meth) : Prop := m.args.length ≤ 9223372036854775807 ∧ m.code.length ≤ 9223372036854775807
def SaneC (c : Cls) : Prop := c.fields.length ≤ 9223372036854775807 ∧ c.meths.length ≤ 9223372036854775807 ∧ ∀ m ∈ c.meths, SaneM m
def SaneP (p : Prg) : Prop := p.length ≤ 9223372036854775807 ∧ ∀ c ∈ p, SaneC c

set_option maxHeartbeats 400000 in
theorem szInts (a : Option Addr) (n cap : Nat) (left : Int) (h0 : 0 ≤ left) (h1 : left ≤ 1048576) (hn : n ≤ 9223372036854775807) (w : World) :
    Calls Tryd.prog 89 #[.slice a n cap, .int .i64 left] w fun e w' => e = .returned (.int .i64 (szR n left)) ∧ w = w' := by
  by_cases h : (n : Int) ≤ left
  · rw [szR_yes h]
    go_enter Tryd.func89, Tryd.ntmps89
    go_wp2
    go_ret
    exact ⟨rfl, rfl⟩
  · have h : left < (n : Int) := by omega
    rw [szR_no h]
    go_enter Tryd.func89, Tryd.ntmps89
    go_wp2
    go_ret
    exact ⟨rfl, rfl⟩
set_option maxHeartbeats 400000 in
theorem szInsns (a : Option Addr) (n cap : Nat) (left : Int) (h0 : 0 ≤ left) (h1 : left ≤ 1048576) (hn : n ≤ 9223372036854775807) (w : World) :
    Calls Tryd.prog 114 #[.slice a n cap, .int .i64 left] w fun e w' => e = .returned (.int .i64 (szR n left)) ∧ w = w' := by
  by_cases h : (n : Int) ≤ left
  · rw [szR_yes h]
    go_enter Tryd.func114, Tryd.ntmps114
    go_wp2
    go_ret
    exact ⟨rfl, rfl⟩
  · have h : left < (n : Int) := by omega
    rw [szR_no h]
    go_enter Tryd.func114, Tryd.ntmps114
    go_wp2
    go_ret
    exact ⟨rfl, rfl⟩

set_option maxHeartbeats 800000 in
theorem szMethod (name gives : Int) (a a' : Option Addr) (n n' cap cap' : Nat) (left : Int) (h0 : 0 ≤ left) (h1 : left ≤ 1048576) (hn : n ≤ 9223372036854775807) (hn' : n' ≤ 9223372036854775807) (w : World) :
    Calls Tryd.prog 103 #[.agg #[.int .i64 name, .slice a n cap, .int .i64 gives, .slice a' n' cap'], .int .i64 left] w fun e w' => e = .returned (.int .i64 (szR (n + n') left)) ∧ Below w.heap.size w w' := by
  by_cases h : (n : Int) ≤ left
  · by_cases h' : (n' : Int) ≤ left - n
    · rw [szR_yes (n := n + n') (by omega)]
      go_enter Tryd.func103, Tryd.ntmps103
      go_wp2_with fail
      refine (szInts a n cap left h0 h1 hn _).mono ?_
      rw [szR_yes h]
      rintro e w1 ⟨rfl, rfl⟩
      go_wp2_with fail
      refine (szInsns a' n' cap' _ (by omega) (by omega) hn' _).mono ?_
      rw [szR_yes h']
      rintro e w1 ⟨rfl, rfl⟩
      go_wp2
      go_ret
      exact ⟨retI (by omega), (Below.refl _ _).alloc (Nat.le_refl _) _⟩
    · rw [szR_no (n := n + n') (by omega)]
      go_enter Tryd.func103, Tryd.ntmps103
      go_wp2_with fail
      refine (szInts a n cap left h0 h1 hn _).mono ?_
      rw [szR_yes h]
      rintro e w1 ⟨rfl, rfl⟩
      go_wp2_with fail
      refine (szInsns a' n' cap' _ (by omega) (by omega) hn' _).mono ?_
      rw [szR_no h']
      rintro e w1 ⟨rfl, rfl⟩
      go_wp2
      go_ret
      exact ⟨rfl, (Below.refl _ _).alloc (Nat.le_refl _) _⟩
  · rw [szR_no (n := n + n') (by omega)]
    go_enter Tryd.func103, Tryd.ntmps103
    go_wp2_with fail
    refine (szInts a n cap left h0 h1 hn _).mono ?_
    rw [szR_no h]
    rintro e w1 ⟨rfl, rfl⟩
    go_wp2
    go_ret
    exact ⟨rfl, (Below.refl _ _).alloc (Nat.le_refl _) _⟩

set_option maxHeartbeats 800000 in
theorem szMethods (K : Way) (B : Nat) (a : Option Addr) (cap : Nat) (ms : List Meth) (left : Int) (h0 : 0 ≤ left) (h1 : left ≤ 1048576) (hn : ms.length ≤ 9223372036854775807) (hs : ∀ m ∈ ms, SaneM m) (w : World) (hm : SM K B w (.slice a ms.length cap) ms) :
    Calls Tryd.prog 90 #[.slice a ms.length cap, .int .i64 left] w fun e w' => e = .returned (.int .i64 (szR (szMs ms) left)) ∧ Below w.heap.size w w' := by
  have HS : Hid (∀ m ∈ ms, SaneM m) := hs
  have HM : Hid (SM K B w (.slice a ms.length cap) ms) := hm
  clear hs hm
  by_cases h : (ms.length : Int) ≤ left
  · go_enter Tryd.func90, Tryd.ntmps90
    go_wp2
    go_loopw [1, 5] (fun lv i wr => ∃ (k : Nat) (lf : Int), k ≤ ms.length ∧ i = .int .i64 k ∧ lv = .int .i64 lf ∧ 0 ≤ lf ∧ lf ≤ 1048576 ∧ Hid (lf = left - ms.length - sumN ((ms.take k).map szM)) ∧ Below w.heap.size w wr) (fun _ i _ => ms.length - (intOf i).toNat)
    case atStart => exact ⟨0, left - ms.length, Nat.zero_le _, rfl, rfl, by omega, by omega, by show _ = _; simp [sumN], Below.refl _ _⟩
    case round =>
      obtain ⟨k, lf, hk, rfl, rfl, hl0, hl1, hlf, hb⟩ := hrel
      by_cases hlt : k < ms.length
      · have hki : (k : Int) < (ms.length : Int) := by omega
        have HT : Hid (sumN ((ms.take (k + 1)).map szM) = sumN ((ms.take k).map szM) + szM ms[k]) := sumN_take_succ szM ms k hlt
        have HL : Hid (sumN ((ms.take (k + 1)).map szM) ≤ sumN (ms.map szM)) := sumN_take_le szM ms (k + 1)
        have hsm := HS.out _ (List.getElem_mem hlt)
        obtain ⟨b, o, rfl, _, va, vc, c0, c1, c2, c3, hmv⟩ := (SM.on HM.out (Keep.of hb)).get hlt
        obtain ⟨aa, ca, rfl⟩ := hmv.1.form
        obtain ⟨ac, cc, rfl⟩ := K.form hmv.2
        generalize ms[k] = m at *
        have hsm1 := hsm.1
        have hsm2 := hsm.2
        clear hsm hmv HM
        go_wp2_with fail
        refine (szMethod m.name m.gives aa ac m.args.length m.code.length ca cc lf hl0 hl1 hsm1 hsm2 _).mono ?_
        rintro e w1 ⟨rfl, hb1⟩
        have hw1 : Below w.heap.size w w1 := below_over hb hb1
        clear hb1 hb c0 c1 c2 c3
        by_cases hq : ((m.args.length + m.code.length : Nat) : Int) ≤ lf
        · rw [szR_yes hq]
          have hq0 : 0 ≤ lf - ((m.args.length + m.code.length : Nat) : Int) := by omega
          go_wp2
          go_roundw
          case rel =>
            refine ⟨k + 1, _, by omega, by go_num, rfl, by omega, by omega, ?_, hw1⟩
            show _ = _
            rw [HT.out, hlf.out]
            have e : szM m = m.args.length + m.code.length := rfl
            omega
          case measure => simp [intOf]; omega
        · have hq : lf < _ := Int.not_le.1 hq
          rw [szR_no hq]
          have HN : Hid (szR (szMs ms) left = -1) := by
            show _ = _
            apply szR_no
            have h1 := HT.out
            have h2 := HL.out
            have h3 := hlf.out
            have e : szM m = m.args.length + m.code.length := rfl
            unfold szMs
            omega
          go_wp2
          go_ret
          exact ⟨retI HN.out.symm, hw1⟩
      · have HN : Hid (szR (szMs ms) left = lf) := by
          show _ = _
          have e : ms.take k = ms := List.take_of_length_le (by omega)
          have h3 := hlf.out
          rw [e] at h3
          rw [szR_yes (by unfold szMs; omega)]
          unfold szMs
          omega
        go_wp2
        go_ret
        exact ⟨retI HN.out.symm, hb⟩
  · rw [szR_no (n := szMs ms) (by unfold szMs; omega)]
    go_enter Tryd.func90, Tryd.ntmps90
    go_wp2
    go_ret
    exact ⟨rfl, Below.refl _ _⟩

set_option maxHeartbeats 800000 in
theorem szClass (K : Way) (B : Nat) (super : Int) (a a' : Option Addr) (cap cap' : Nat) (c : Cls) (left : Int) (h0 : 0 ≤ left) (h1 : left ≤ 1048576) (hs : SaneC c) (w : World) (hm : SM K B w (.slice a' c.meths.length cap') c.meths) :
    Calls Tryd.prog 68 #[.agg #[.int .i64 super, .slice a c.fields.length cap, .slice a' c.meths.length cap'], .int .i64 left] w fun e w' => e = .returned (.int .i64 (szR (szC c) left)) ∧ Below w.heap.size w w' := by
  have HM : Hid (SM K B w (.slice a' c.meths.length cap') c.meths) := hm
  have hs1 := hs.1
  have hs2 := hs.2.1
  have HS3 : Hid (∀ m ∈ c.meths, SaneM m) := hs.2.2
  clear hm hs
  by_cases h : (c.fields.length : Int) ≤ left
  · by_cases h' : (szMs c.meths : Int) ≤ left - c.fields.length
    · rw [szR_yes (n := szC c) (by unfold szC; omega)]
      go_enter Tryd.func68, Tryd.ntmps68
      go_wp2_with fail
      refine (szInts a _ cap left h0 h1 hs1 _).mono ?_
      rw [szR_yes h]
      rintro e w1 ⟨rfl, rfl⟩
      go_wp2_with fail
      refine (szMethods K B a' cap' c.meths _ (by omega) (by omega) hs2 HS3.out _ (SM.on HM.out (Keep.of ((Below.refl _ _).alloc (Nat.le_refl _) _)))).mono ?_
      rw [szR_yes h']
      rintro e w1 ⟨rfl, hb1⟩
      have hw1 : Below w.heap.size w w1 := below_over ((Below.refl _ _).alloc (Nat.le_refl _) _) hb1
      clear hb1
      go_wp2
      go_ret
      exact ⟨retI (by unfold szC; omega), hw1⟩
    · rw [szR_no (n := szC c) (by unfold szC; omega)]
      go_enter Tryd.func68, Tryd.ntmps68
      go_wp2_with fail
      refine (szInts a _ cap left h0 h1 hs1 _).mono ?_
      rw [szR_yes h]
      rintro e w1 ⟨rfl, rfl⟩
      go_wp2_with fail
      refine (szMethods K B a' cap' c.meths _ (by omega) (by omega) hs2 HS3.out _ (SM.on HM.out (Keep.of ((Below.refl _ _).alloc (Nat.le_refl _) _)))).mono ?_
      rw [szR_no h']
      rintro e w1 ⟨rfl, hb1⟩
      have hw1 : Below w.heap.size w w1 := below_over ((Below.refl _ _).alloc (Nat.le_refl _) _) hb1
      clear hb1
      go_wp2
      go_ret
      exact ⟨rfl, hw1⟩
  · rw [szR_no (n := szC c) (by unfold szC; omega)]
    go_enter Tryd.func68, Tryd.ntmps68
    go_wp2_with fail
    refine (szInts a _ cap left h0 h1 hs1 _).mono ?_
    rw [szR_no h]
    rintro e w1 ⟨rfl, rfl⟩
    go_wp2
    go_ret
    exact ⟨rfl, (Below.refl _ _).alloc (Nat.le_refl _) _⟩

set_option maxHeartbeats 800000 in
theorem szClasses (K : Way) (B : Nat) (a : Option Addr) (cap : Nat) (p : Prg) (left : Int) (h0 : 0 ≤ left) (h1 : left ≤ 1048576) (hs : SaneP p) (w : World) (hm : SK K B w (.slice a p.length cap) p) :
    Calls Tryd.prog 48 #[.slice a p.length cap, .int .i64 left] w fun e w' => e = .returned (.int .i64 (szR (szP p) left)) ∧ Below w.heap.size w w' := by
  have hn := hs.1
  have HS : Hid (∀ m ∈ p, SaneC m) := hs.2
  have HM : Hid (SK K B w (.slice a p.length cap) p) := hm
  clear hs hm
  by_cases h : (p.length : Int) ≤ left
  · go_enter Tryd.func48, Tryd.ntmps48
    go_wp2
    go_loopw [1, 5] (fun lv i wr => ∃ (k : Nat) (lf : Int), k ≤ p.length ∧ i = .int .i64 k ∧ lv = .int .i64 lf ∧ 0 ≤ lf ∧ lf ≤ 1048576 ∧ Hid (lf = left - p.length - sumN ((p.take k).map szC)) ∧ Below w.heap.size w wr) (fun _ i _ => p.length - (intOf i).toNat)
    case atStart => exact ⟨0, left - p.length, Nat.zero_le _, rfl, rfl, by omega, by omega, by show _ = _; simp [sumN], Below.refl _ _⟩
    case round =>
      obtain ⟨k, lf, hk, rfl, rfl, hl0, hl1, hlf, hb⟩ := hrel
      by_cases hlt : k < p.length
      · have hki : (k : Int) < (p.length : Int) := by omega
        have HT : Hid (sumN ((p.take (k + 1)).map szC) = sumN ((p.take k).map szC) + szC p[k]) := sumN_take_succ szC p k hlt
        have HL : Hid (sumN ((p.take (k + 1)).map szC) ≤ sumN (p.map szC)) := sumN_take_le szC p (k + 1)
        have HSM : Hid (SaneC p[k]) := HS.out _ (List.getElem_mem hlt)
        obtain ⟨b, o, rfl, _, vf, vm, c0, c1, c2, hcv⟩ := (SK.on HM.out (Keep.of hb)).get hlt
        obtain ⟨aa, ca, rfl⟩ := hcv.1.form
        obtain ⟨ac, cc, rfl⟩ := hcv.2.form
        have HCV : Hid (SM K B wr (.slice ac p[k].meths.length cc) p[k].meths) := hcv.2
        generalize p[k] = c at *
        clear hcv HM
        go_wp2_with fail
        refine (szClass K B c.super aa ac ca cc c lf hl0 hl1 HSM.out _ HCV.out).mono ?_
        rintro e w1 ⟨rfl, hb1⟩
        have hw1 : Below w.heap.size w w1 := below_over hb hb1
        clear hb1 hb c0 c1 c2 HCV
        by_cases hq : (szC c : Int) ≤ lf
        · rw [szR_yes hq]
          have hq0 : 0 ≤ lf - (szC c : Int) := by omega
          go_wp2
          go_roundw
          case rel =>
            refine ⟨k + 1, _, by omega, by go_num, rfl, by omega, by omega, ?_, hw1⟩
            show _ = _
            rw [HT.out, hlf.out]
            omega
          case measure => simp [intOf]; omega
        · have hq : lf < _ := Int.not_le.1 hq
          rw [szR_no hq]
          have HN : Hid (szR (szP p) left = -1) := by
            show _ = _
            apply szR_no
            have h1 := HT.out
            have h2 := HL.out
            have h3 := hlf.out
            unfold szP
            omega
          go_wp2
          go_ret
          exact ⟨retI HN.out.symm, hw1⟩
      · have HN : Hid (szR (szP p) left = lf) := by
          show _ = _
          have e : p.take k = p := List.take_of_length_le (by omega)
          have h3 := hlf.out
          rw [e] at h3
          rw [szR_yes (by unfold szP; omega)]
          unfold szP
          omega
        go_wp2
        go_ret
        exact ⟨retI HN.out.symm, hb⟩
  · rw [szR_no (n := szP p) (by unfold szP; omega)]
    go_enter Tryd.func48, Tryd.ntmps48
    go_wp2
    go_ret
    exact ⟨rfl, Below.refl _ _⟩

set_option maxHeartbeats 800000 in
theorem szProgram (K : Way) (B : Nat) (a : Option Addr) (cap : Nat) (p : Prg) (hs : SaneP p) (w : World) (hm : SK K B w (.slice a p.length cap) p) :
    Calls Tryd.prog 21 #[.agg #[.slice a p.length cap], .int .i64 1048576] w fun e w' => e = .returned (.int .i64 (szR (szP p) 1048576)) ∧ Below w.heap.size w w' := by
  have HM : Hid (SK K B w (.slice a p.length cap) p) := hm
  have HS : Hid (SaneP p) := hs
  clear hm hs
  go_enter Tryd.func21, Tryd.ntmps21
  go_wp2_with fail
  refine (szClasses K B a cap p _ (by omega) (by omega) HS.out _ (SK.on HM.out (Keep.of ((Below.refl _ _).alloc (Nat.le_refl _) _)))).mono ?_
  rintro e w1 ⟨rfl, hb1⟩
  have hw1 : Below w.heap.size w w1 := below_over ((Below.refl _ _).alloc (Nat.le_refl _) _) hb1
  clear hb1
  by_cases h : (szP p : Int) ≤ 1048576
  · have e := szR_yes h
    rw [e]
    have HE : Hid (szR (szP p) 1048576 = 1048576 - (szP p : Int)) := e
    clear e
    go_wp2
    go_ret
    exact ⟨retI HE.out.symm, hw1⟩
  · have e := szR_no (Int.not_le.1 h)
    rw [e]
    have HE : Hid (szR (szP p) 1048576 = -1) := e
    clear e
    go_wp2
    go_ret
    exact ⟨retI HE.out.symm, hw1⟩
end Pg
end Go.Proofs.YtogbkdhejdcpeaaDoor
