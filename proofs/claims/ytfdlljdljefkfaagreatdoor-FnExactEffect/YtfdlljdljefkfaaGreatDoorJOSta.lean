/- Contracts of the laws' own marking of programs: methods, classes, programs. -/
import Derived.Test.YtfdlljdljefkfaaGreatDoorJPz0
import Derived.Test.YtfdlljdljefkfaaGreatDoorJPg4
import Derived.Deep.SlicePairs
import Derived.WalkKit
import Derived.ProofKit
import Derived.OpenShut
namespace Go.Proofs.YtfdlljdljefkfaaGreatDoor
namespace Pg
open Go.ChangeShapes Go.WideShapes Go.ChangeAt Go.RowKit St

theorem ShM.at {B1 B2 : Nat} {w : World} {a : Option Addr} {n cap : Nat} {l : List Meth} (h : ShM B1 B2 w (.slice a n cap) l) {k : Nat} (hk : k < l.length) : ∃ b o, a = some ⟨b, o, none⟩ ∧ B1 ≤ b ∧ b < B2 ∧ ShMat B1 B2 w b (o + k * 4) l[k] := by
  obtain ⟨a', c', he, hx⟩ := h
  injection he with e1 e2 e3
  subst e1
  obtain ⟨b, o, ha, h1, h2, h3⟩ := hx (by omega)
  exact ⟨b, o, ha, h1, h2, h3 k _ (List.getElem?_eq_getElem hk)⟩
theorem ShK.at {B1 B2 : Nat} {w : World} {a : Option Addr} {n cap : Nat} {l : Prg} (h : ShK B1 B2 w (.slice a n cap) l) {k : Nat} (hk : k < l.length) : ∃ b o, a = some ⟨b, o, none⟩ ∧ B1 ≤ b ∧ b < B2 ∧ ShKat B1 B2 w b (o + k * 3) l[k] := by
  obtain ⟨a', c', he, hx⟩ := h
  injection he with e1 e2 e3
  subst e1
  obtain ⟨b, o, ha, h1, h2, h3⟩ := hx (by omega)
  exact ⟨b, o, ha, h1, h2, h3 k _ (List.getElem?_eq_getElem hk)⟩
theorem cnt_step {ms : List Meth} {k : Nat} (hk : k < ms.length) : cntMs (ms.take (k + 1)) = cntMs (ms.take k) + cntM ms[k] := sumN_take_succ _ ms k hk
theorem cnt_take (ms : List Meth) (k : Nat) : cntMs (ms.take k) ≤ cntMs ms := sumN_take_le _ ms k
theorem cntP_step {p : Prg} {k : Nat} (hk : k < p.length) : cntP (p.take (k + 1)) = cntP (p.take k) + cntC p[k] := sumN_take_succ _ p k hk
theorem cntP_take (p : Prg) (k : Nat) : cntP (p.take k) ≤ cntP p := sumN_take_le _ p k

set_option maxRecDepth 100000 in
set_option maxHeartbeats 2000000 in
theorem markMethods' (B1 B2 : Nat) (a : Option Addr) (cap q : Nat) (ms : List Meth) (hn : ms.length ≤ 1048576) (hq : q + cntMs ms ≤ 4000000) (w : World) (hs : ShM B1 B2 w (.slice a ms.length cap) ms) :
    Calls Tryz.prog 51 #[.slice a ms.length cap, .int .i64 q] w fun e w' => e = .returned (.int .i64 ((q + cntMs ms : Nat) : Int)) ∧ Mrk B1 B2 w w' := by
  have HS : Hid (ShM B1 B2 w (.slice a ms.length cap) ms) := hs
  clear hs
  go_enter Tryz.func51, Tryz.ntmps51
  go_wp2
  go_loopw [1, 5] (fun v i wr => ∃ k c : Nat, k ≤ ms.length ∧ i = .int .i64 k ∧ v = .int .i64 c ∧ Hid (c = q + cntMs (ms.take k)) ∧ Hid (Mrk B1 B2 w wr)) (fun _ i _ => ms.length - (intOf i).toNat)
  case atStart => exact ⟨0, q, Nat.zero_le _, rfl, rfl, by show _ = _; simp [cntMs, sumN], Mrk.refl _ _ _⟩
  case round =>
    obtain ⟨k, c, hk, rfl, rfl, hc, hon⟩ := hrel
    by_cases hlt : k < ms.length
    · have hki : (k : Int) < (ms.length : Int) := by omega
      have HST : Hid (cntMs (ms.take (k + 1)) = cntMs (ms.take k) + cntM ms[k]) := cnt_step hlt
      have hbd : c + cntM ms[k] ≤ 4000000 := by
        have h1 := HST.out
        have h2 := cnt_take ms (k + 1)
        have h3 := hc.out
        omega
      have HS0 : Hid (ShM B1 B2 wr (.slice a ms.length cap) ms) := HS.out.mrk hon.out
      obtain ⟨b, o, rfl, h1, h2, va0, vc0, ⟨⟨x0, d0⟩, f0⟩, _⟩ := HS0.out.at hlt
      have HAT : Hid (∀ u, Mrk B1 B2 wr u → ShMat B1 B2 u b (o + k * 4) ms[k]) := fun u hu => by
        obtain ⟨b', o', he, _, _, hm⟩ := (HS0.out.mrk hu).at hlt
        simp at he
        obtain ⟨rfl, rfl⟩ := he
        exact hm
      generalize ms[k] = m at *
      have em : cntM m = 2 + m.args.length + 3 * m.code.length := rfl
      have M1 : Hid (Mrk B1 B2 wr (wr.setCell ⟨b, o + k * 4, none⟩ (.int .i64 c))) := Mrk.set wr (p := ⟨b, o + k * 4, none⟩) h1 h2 d0 c
      obtain ⟨va, vc, _, c1, _, _, hva, _⟩ := HAT.out _ M1.out
      obtain ⟨a1, y1, rfl⟩ := hva.form
      have HVA : Hid (ShN 1 B1 B2 (wr.setCell ⟨b, o + k * 4, none⟩ (.int .i64 c)) (.slice a1 m.args.length y1) m.args.length) := hva
      clear hva HS0
      go_wp2_with fail
      have e1 : ((c : Int) + 1) = ((c + 1 : Nat) : Int) := by omega
      rw [e1]
      clear e1
      refine (markInts' B1 B2 a1 y1 (c + 1) m.args.length (by omega) _ HVA.out).mono ?_
      rintro e w2 ⟨rfl, hm2⟩
      have M2 : Hid (Mrk B1 B2 wr w2) := M1.out.trans hm2
      clear hm2 c1 d0 f0 HVA M1
      obtain ⟨_, _, _, _, ⟨⟨x2, d2⟩, f2⟩, _⟩ := HAT.out _ M2.out
      have M3 : Hid (Mrk B1 B2 wr (w2.setCell ⟨b, o + k * 4 + 2, none⟩ (.int .i64 ((c + 1 + m.args.length : Nat) : Int)))) := M2.out.trans (Mrk.set w2 (p := ⟨b, o + k * 4 + 2, none⟩) h1 h2 d2 _)
      obtain ⟨va3, vc3, _, _, _, c3, _, hvc⟩ := HAT.out _ M3.out
      obtain ⟨a3, y3, rfl⟩ := hvc.form
      have HVC : Hid (ShN 3 B1 B2 (w2.setCell ⟨b, o + k * 4 + 2, none⟩ (.int .i64 ((c + 1 + m.args.length : Nat) : Int))) (.slice a3 m.code.length y3) m.code.length) := hvc
      clear hvc
      generalize hcc : c + 1 + m.args.length = cc at *
      have HCC : Hid (c + 1 + m.args.length = cc) := hcc
      have hcc2 : cc ≤ 4000000 := by omega
      have hcc3 : cc + 1 + 3 * m.code.length ≤ 4000000 := by omega
      clear hcc
      go_wp2_with fail
      have e2 : ((cc : Int) + 1) = ((cc + 1 : Nat) : Int) := by omega
      rw [e2]
      clear e2
      refine (markInsns' B1 B2 a3 y3 (cc + 1) m.code.length hcc3 _ HVC.out).mono ?_
      rintro e w4 ⟨rfl, hm4⟩
      have M4 : Hid (Mrk B1 B2 w w4) := hon.out.trans (M3.out.trans hm4)
      have HC4 : Hid (cc + 1 + 3 * m.code.length = q + cntMs (ms.take (k + 1))) := by
        show _ = _
        have h1 := HST.out
        have h2 := hc.out
        have h3 := HCC.out
        omega
      clear hm4 c3 d2 f2 HVC M2 M3 HAT hon HST hc HCC
      generalize cc + 1 + 3 * m.code.length = c5 at *
      go_wp2
      go_roundw
      case rel => exact ⟨k + 1, c5, by omega, by go_num, rfl, HC4.out, M4.out⟩
      case measure => simp [intOf]; omega
    · have HKN : Hid (q + cntMs ms = c) := by
        show _ = _
        have h := hc.out
        rw [List.take_of_length_le (by omega)] at h
        exact h.symm
      go_wp2
      go_ret
      exact ⟨retI (by rw [HKN.out]), hon.out⟩

set_option maxRecDepth 100000 in
set_option maxHeartbeats 2000000 in
theorem markClasses' (B1 B2 : Nat) (a : Option Addr) (cap q : Nat) (ms : Prg) (hsm : SmallP ms) (hq : q + cntP ms ≤ 4000000) (w : World) (hs : ShK B1 B2 w (.slice a ms.length cap) ms) :
    Calls Tryz.prog 28 #[.slice a ms.length cap, .int .i64 q] w fun e w' => e = .returned (.int .i64 ((q + cntP ms : Nat) : Int)) ∧ Mrk B1 B2 w w' := by
  have HS : Hid (ShK B1 B2 w (.slice a ms.length cap) ms) := hs
  have hn := hsm.1
  have HSM : Hid (SmallP ms) := hsm
  clear hs hsm
  go_enter Tryz.func28, Tryz.ntmps28
  go_wp2
  go_loopw [1, 5] (fun v i wr => ∃ k c : Nat, k ≤ ms.length ∧ i = .int .i64 k ∧ v = .int .i64 c ∧ Hid (c = q + cntP (ms.take k)) ∧ Hid (Mrk B1 B2 w wr)) (fun _ i _ => ms.length - (intOf i).toNat)
  case atStart => exact ⟨0, q, Nat.zero_le _, rfl, rfl, by show _ = _; simp [cntP, sumN], Mrk.refl _ _ _⟩
  case round =>
    obtain ⟨k, c, hk, rfl, rfl, hc, hon⟩ := hrel
    by_cases hlt : k < ms.length
    · have hki : (k : Int) < (ms.length : Int) := by omega
      have HST : Hid (cntP (ms.take (k + 1)) = cntP (ms.take k) + cntC ms[k]) := cntP_step hlt
      have hbd : c + cntC ms[k] ≤ 4000000 := by
        have h1 := HST.out
        have h2 := cntP_take ms (k + 1)
        have h3 := hc.out
        omega
      have hml := (HSM.out.2 _ (List.getElem_mem hlt)).2.1
      have HS0 : Hid (ShK B1 B2 wr (.slice a ms.length cap) ms) := HS.out.mrk hon.out
      obtain ⟨b, o, rfl, h1, h2, va0, vc0, ⟨⟨x0, d0⟩, f0⟩, _⟩ := HS0.out.at hlt
      have HAT : Hid (∀ u, Mrk B1 B2 wr u → ShKat B1 B2 u b (o + k * 3) ms[k]) := fun u hu => by
        obtain ⟨b', o', he, _, _, hm⟩ := (HS0.out.mrk hu).at hlt
        simp at he
        obtain ⟨rfl, rfl⟩ := he
        exact hm
      generalize ms[k] = m at *
      have em : cntC m = 1 + m.fields.length + cntMs m.meths := rfl
      have M1 : Hid (Mrk B1 B2 wr (wr.setCell ⟨b, o + k * 3, none⟩ (.int .i64 c))) := Mrk.set wr (p := ⟨b, o + k * 3, none⟩) h1 h2 d0 c
      obtain ⟨va, vc, _, c1, _, hva, _⟩ := HAT.out _ M1.out
      obtain ⟨a1, y1, rfl⟩ := hva.form
      have HVA : Hid (ShN 1 B1 B2 (wr.setCell ⟨b, o + k * 3, none⟩ (.int .i64 c)) (.slice a1 m.fields.length y1) m.fields.length) := hva
      clear hva HS0
      go_wp2_with fail
      have e1 : ((c : Int) + 1) = ((c + 1 : Nat) : Int) := by omega
      rw [e1]
      clear e1
      refine (markInts' B1 B2 a1 y1 (c + 1) m.fields.length (by omega) _ HVA.out).mono ?_
      rintro e w2 ⟨rfl, hm2⟩
      have M2 : Hid (Mrk B1 B2 wr w2) := M1.out.trans hm2
      clear hm2 c1 d0 f0 HVA M1
      obtain ⟨va3, vc3, _, _, c3, _, hvc⟩ := HAT.out _ M2.out
      obtain ⟨a3, y3, rfl⟩ := hvc.form
      have HVC : Hid (ShM B1 B2 w2 (.slice a3 m.meths.length y3) m.meths) := hvc
      clear hvc
      generalize hcc : c + 1 + m.fields.length = cc at *
      have HCC : Hid (c + 1 + m.fields.length = cc) := hcc
      have hcc3 : cc + cntMs m.meths ≤ 4000000 := by omega
      clear hcc
      go_wp2_with fail
      refine (markMethods' B1 B2 a3 y3 cc m.meths hml hcc3 _ HVC.out).mono ?_
      rintro e w4 ⟨rfl, hm4⟩
      have M4 : Hid (Mrk B1 B2 w w4) := hon.out.trans (M2.out.trans hm4)
      have HC4 : Hid (cc + cntMs m.meths = q + cntP (ms.take (k + 1))) := by
        show _ = _
        have h1 := HST.out
        have h2 := hc.out
        have h3 := HCC.out
        omega
      clear hm4 c3 HVC M2 HAT hon HST hc HCC
      generalize cc + cntMs m.meths = c5 at *
      go_wp2
      go_roundw
      case rel => exact ⟨k + 1, c5, by omega, by go_num, rfl, HC4.out, M4.out⟩
      case measure => simp [intOf]; omega
    · have HKN : Hid (q + cntP ms = c) := by
        show _ = _
        have h := hc.out
        rw [List.take_of_length_le (by omega)] at h
        exact h.symm
      go_wp2
      go_ret
      exact ⟨retI (by rw [HKN.out]), hon.out⟩

set_option maxHeartbeats 1000000 in
theorem markProgram' (B1 B2 : Nat) (a : Option Addr) (cap : Nat) (p : Prg) (hsz : szP p ≤ 1048576) (w : World) (hs : ShK B1 B2 w (.slice a p.length cap) p) :
    Calls Tryz.prog 13 #[.agg #[.slice a p.length cap], .int .i64 1] w fun e w' => e = .returned (.int .i64 ((1 + cntP p : Nat) : Int)) ∧ Mrk B1 B2 w w' := by
  have HS : Hid (ShK B1 B2 w (.slice a p.length cap) p) := hs
  have HSM : Hid (SmallP p) := SmallP.of hsz
  have hc : 1 + cntP p ≤ 4000000 := by have := cntP_le p; omega
  clear hs
  go_enter Tryz.func13, Tryz.ntmps13
  go_wp2_with fail
  refine (markClasses' B1 B2 a cap 1 p HSM.out hc _ (HS.out.mrk (Mrk.of ((Below.refl _ _).alloc (Nat.le_refl _) _)))).mono ?_
  rintro e w1 ⟨rfl, hm1⟩
  have M1 : Hid (Mrk B1 B2 w w1) := (Mrk.of ((Below.refl _ _).alloc (Nat.le_refl _) _)).trans hm1
  clear hm1
  generalize hc5 : 1 + cntP p = c5 at *
  have HC5 : Hid (1 + cntP p = c5) := hc5
  clear hc5
  go_wp2
  go_ret
  exact ⟨retI (by rw [HC5.out]), M1.out⟩
end Pg
end Go.Proofs.YtfdlljdljefkfaaGreatDoor

/- A program that came in, opened. -/
namespace Go.Proofs.YtfdlljdljefkfaaGreatDoor
namespace Pg
open Go.ChangeShapes Go.WideShapes Go.ChangeAt Go.RowKit St

instance : Inhabited Meth := ⟨⟨0, [], 0, []⟩⟩
instance : Inhabited Cls := ⟨⟨0, [], []⟩⟩
theorem openArr {H : Type} {enc : TypeId × Value → H} {W : World} {sp : Nat → Bool} {t e : TypeId} {size : Nat} {α : Type} [Inhabited α] {E : World → Nat → Nat → α → Prop} {S : α → Prop}
    (hu : Tryz.prog.underlying t = some (.slice e)) (hc : Tryz.prog.cellsOf e = size) (hpos : 0 < size)
    (elem : ∀ (n : Nat) (cs : List Value) (y : DataW H × List MemPlace), DataW.trod enc Tryz.prog W 0 sp true n e cs = some y → cs.length = size → ∃ x : α, S x ∧ ∀ b o, (∀ j u, cs[j]? = some u → W.cell? ⟨b, o + j, none⟩ = some u) → E W b o x)
    {fuel : Nat} {cs : List Value} {x : DataW H × List MemPlace} (h : DataW.trod enc Tryz.prog W 0 sp true fuel t cs = some x) :
    ∃ (v : Value) (l : List α), cs = [v] ∧ Arr E size false 0 W v l ∧ (∀ x ∈ l, S x) ∧ l.length ≤ 9223372036854775807 := by
  rcases Go.Deep.open_slice hu h with ⟨hcs, _⟩ | ⟨a, len, cap, m, n, D, Pl, hcs, _, hl, hm, hmm, _, hx⟩
  · exact ⟨_, [], hcs, ⟨none, 0, rfl, fun h => by simp at h, fun h => by simp at h⟩, fun x hx => by simp at hx, by simp⟩
  · have hlm : len ≤ m := by rw [hmm]; split <;> omega
    have each : ∀ i, i < len → ∃ x : α, (S x ∧ ∀ b o, a = ⟨b, o, none⟩ → E W b (o + i * size) x) ∧ ∃ u, W.cell? (a.add (i * size)) = some u := by
      intro i hi
      obtain ⟨cs', h1, h2⟩ := hx i (by omega)
      rw [hc] at h1
      obtain ⟨_, hlen, hcell⟩ := World.cells?_some h1
      obtain ⟨x, hs, hE⟩ := elem _ _ _ h2 hlen
      refine ⟨x, ⟨hs, fun b o ha => hE b (o + i * size) fun j u hj => ?_⟩, cs'[0]'(by omega), ?_⟩
      · obtain ⟨hjl, rfl⟩ := List.getElem?_eq_some_iff.1 hj
        have := hcell j (by omega)
        subst ha
        rw [Go.Deep.add_add, Go.WideShapes.add_plain] at this
        rw [Nat.add_assoc]
        rw [this]
        simp [hjl]
      · have := hcell 0 (by omega)
        rw [Go.Deep.add_add, Nat.add_zero] at this
        rw [this]
        have hl0 : 0 < cs'.length := by omega
        simp [hl0]
    obtain ⟨f, hq⟩ := Go.Deep.choose_lt each
    refine ⟨_, (List.range len).map f, hcs, ⟨some a, cap, by simp, fun _ h => by simp at h, fun h => ?_⟩, ?_, by simp; unfold maxLen at hm; omega⟩
    · have hp : 0 < len := by simpa using h
      obtain ⟨b, o, spot⟩ := a
      obtain ⟨u, hu0⟩ := (hq 0 hp).2
      have hspot : spot = none := by simpa [Addr.add] using World.cell?_spot hu0
      subst hspot
      refine ⟨b, o, rfl, Nat.zero_le _, ⟨by simpa [Addr.add] using cell_lt hu0, fun h => by simp at h⟩, fun j y hj => ?_⟩
      rw [List.getElem?_map] at hj
      by_cases hjl : j < len
      · rw [List.getElem?_range hjl] at hj
        simp at hj
        subst hj
        exact (hq j hjl).1.2 b o rfl
      · rw [List.getElem?_eq_none (by simp; omega)] at hj
        simp at hj
    · intro y hy
      obtain ⟨j, hj, rfl⟩ := List.mem_map.1 hy
      exact (hq j (List.mem_range.1 hj)).1.1

theorem one_of {α : Type} {l : List α} (h : l.length = 1) : ∃ x, l = [x] := by
  match l, h with
  | [x], _ => exact ⟨x, rfl⟩
theorem three_of {α : Type} {l : List α} (h : l.length = 3) : ∃ x y z, l = [x, y, z] := by
  match l, h with
  | [x, y, z], _ => exact ⟨x, y, z, rfl⟩
theorem four_of {α : Type} {l : List α} (h : l.length = 4) : ∃ x y z t, l = [x, y, z, t] := by
  match l, h with
  | [x, y, z, t], _ => exact ⟨x, y, z, t, rfl⟩

section
variable {H : Type} {enc : TypeId × Value → H} {W : World} {sp : Nat → Bool} {fuel : Nat} {cs : List Value} {x : DataW H × List MemPlace}
theorem openI (h : DataW.trod enc Tryz.prog W 0 sp true fuel 27 cs = some x) : ∃ (v : Value) (l : List Int), cs = [v] ∧ SI false 0 W v l ∧ (∀ x ∈ l, True) ∧ l.length ≤ 9223372036854775807 :=
  openArr (E := IntAt) (S := fun _ => True) Tryz.underlying27 (show Tryz.prog.cellsOf 2 = 1 by kernel_rfl) (by omega) (fun n cs y h hl => by
    obtain ⟨k, rfl, _, _⟩ := DataW.trod_int Tryz.underlying2 h
    exact ⟨k, trivial, fun b o hc => hc 0 _ rfl⟩) h
theorem openC (h : DataW.trod enc Tryz.prog W 0 sp true fuel 126 cs = some x) : ∃ (v : Value) (l : List Tx.Ins), cs = [v] ∧ SC 0 W v l ∧ (∀ x ∈ l, True) ∧ l.length ≤ 9223372036854775807 :=
  openArr (E := InsAt) (S := fun _ => True) Tryz.underlying126 (show Tryz.prog.cellsOf 26 = 3 by kernel_rfl) (by omega) (fun n cs y h hl => by
    obtain ⟨xs, k, hk, hxy, _, hxl, hff⟩ := DataW.trod_struct Tryz.underlying26 h
    obtain ⟨y0, y1, y2, rfl⟩ := three_of (l := xs) (by simpa using hxl)
    obtain ⟨v0, v1, v2, rfl⟩ := three_of hl
    have c1 : Tryz.prog.cellsOf 2 = 1 := by kernel_rfl
    have g0 := hff 0 _ rfl
    have g1 := hff 1 _ rfl
    have g2 := hff 2 _ rfl
    simp [c1] at g0 g1 g2
    obtain ⟨n0, e0, _, _⟩ := DataW.trod_int Tryz.underlying2 g0
    obtain ⟨n1, e1, _, _⟩ := DataW.trod_int Tryz.underlying2 g1
    obtain ⟨n2, e2, _, _⟩ := DataW.trod_int Tryz.underlying2 g2
    simp at e0 e1 e2
    subst e0 e1 e2
    exact ⟨(n0, n1, n2), trivial, fun b o hc => ⟨hc 0 _ rfl, hc 1 _ rfl, hc 2 _ rfl⟩⟩) h
theorem openM (h : DataW.trod enc Tryz.prog W 0 sp true fuel 68 cs = some x) : ∃ (v : Value) (l : List Meth), cs = [v] ∧ SM wide 0 W v l ∧ (∀ x ∈ l, SaneM x) ∧ l.length ≤ 9223372036854775807 :=
  openArr (E := MAt wide 0) (S := SaneM) Tryz.underlying68 (show Tryz.prog.cellsOf 128 = 4 by kernel_rfl) (by omega) (fun n cs y h hl => by
    obtain ⟨xs, k, hk, hxy, _, hxl, hff⟩ := DataW.trod_struct Tryz.underlying128 h
    obtain ⟨y0, y1, y2, y3, rfl⟩ := four_of (l := xs) (by simpa using hxl)
    obtain ⟨v0, v1, v2, v3, rfl⟩ := four_of hl
    have c1 : Tryz.prog.cellsOf 2 = 1 := by kernel_rfl
    have c2 : Tryz.prog.cellsOf 27 = 1 := by kernel_rfl
    have c3 : Tryz.prog.cellsOf 126 = 1 := by kernel_rfl
    have g0 := hff 0 _ rfl
    have g1 := hff 1 _ rfl
    have g2 := hff 2 _ rfl
    have g3 := hff 3 _ rfl
    simp [c1, c2, c3] at g0 g1 g2 g3
    obtain ⟨n0, e0, _, _⟩ := DataW.trod_int Tryz.underlying2 g0
    obtain ⟨va, la, e1, ha, _, hla⟩ := openI g1
    obtain ⟨n2, e2, _, _⟩ := DataW.trod_int Tryz.underlying2 g2
    obtain ⟨vc, lc, e3, hc, _, hlc⟩ := openC g3
    simp at e0 e1 e2 e3
    subst e0 e1 e2 e3
    exact ⟨⟨n0, la, n2, lc⟩, ⟨hla, hlc⟩, fun b o hcell => ⟨_, _, hcell 0 _ rfl, hcell 1 _ rfl, hcell 2 _ rfl, hcell 3 _ rfl, ha, hc⟩⟩) h
theorem openK (h : DataW.trod enc Tryz.prog W 0 sp true fuel 22 cs = some x) : ∃ (v : Value) (l : Prg), cs = [v] ∧ SK wide 0 W v l ∧ (∀ x ∈ l, SaneC x) ∧ l.length ≤ 9223372036854775807 :=
  openArr (E := CAt wide 0) (S := SaneC) Tryz.underlying22 (show Tryz.prog.cellsOf 70 = 3 by kernel_rfl) (by omega) (fun n cs y h hl => by
    obtain ⟨xs, k, hk, hxy, _, hxl, hff⟩ := DataW.trod_struct Tryz.underlying70 h
    obtain ⟨y0, y1, y2, rfl⟩ := three_of (l := xs) (by simpa using hxl)
    obtain ⟨v0, v1, v2, rfl⟩ := three_of hl
    have c1 : Tryz.prog.cellsOf 2 = 1 := by kernel_rfl
    have c2 : Tryz.prog.cellsOf 27 = 1 := by kernel_rfl
    have c3 : Tryz.prog.cellsOf 68 = 1 := by kernel_rfl
    have g0 := hff 0 _ rfl
    have g1 := hff 1 _ rfl
    have g2 := hff 2 _ rfl
    simp [c1, c2, c3] at g0 g1 g2
    obtain ⟨n0, e0, _, _⟩ := DataW.trod_int Tryz.underlying2 g0
    obtain ⟨va, la, e1, ha, _, hla⟩ := openI g1
    obtain ⟨vm, lm, e2, hm, hsm, hlm⟩ := openM g2
    simp at e0 e1 e2
    subst e0 e1 e2
    exact ⟨⟨n0, la, lm⟩, ⟨hla, hlm, hsm⟩, fun b o hcell => ⟨_, _, hcell 0 _ rfl, hcell 1 _ rfl, hcell 2 _ rfl, ha, hm⟩⟩) h
set_option maxRecDepth 100000 in
theorem openP {r : Reach} {b0 : Nat} {v : Value} {d : DataW H} {q : List MemPlace} (hv : Value.okWide Tryz.prog W r b0 24 v) (h : DataW.Trod enc Tryz.prog W 0 sp true 24 v d q) : ∃ (a : Option Addr) (cap : Nat) (l : Prg), v = .agg #[.slice a l.length cap] ∧ SK wide 0 W (.slice a l.length cap) l ∧ SaneP l := by
  obtain ⟨cs, rfl, hsz⟩ := okWide_struct Tryz.underlying24 hv
  have hC : Tryz.prog.cellsOf 24 = 1 := by kernel_rfl
  rw [hC] at hsz
  obtain ⟨fuel, hf⟩ := h
  obtain ⟨y0, n, _, _, hy⟩ := trod_struct1 Tryz.underlying24 hf
  have c1 : Tryz.prog.cellsOf 22 = 1 := by kernel_rfl
  obtain ⟨cl⟩ := cs
  obtain ⟨v0, rfl⟩ := one_of (l := cl) (by simpa using hsz)
  simp [c1, Value.cells] at hy
  obtain ⟨v, l, e, hk, hs, hl⟩ := openK hy
  simp at e
  subst e
  obtain ⟨a, cap, rfl⟩ := hk.form
  exact ⟨a, cap, l, rfl, hk, hl, hs⟩
end
end Pg
end Go.Proofs.YtfdlljdljefkfaaGreatDoor

/- A step and a state that came in, opened. -/
namespace Go.Proofs.YtfdlljdljefkfaaGreatDoor
namespace Pg
open Go.ChangeShapes Go.WideShapes Go.ChangeAt Go.RowKit St

theorem two_of {α : Type} {l : List α} (h : l.length = 2) : ∃ x y, l = [x, y] := by
  match l, h with
  | [x, y], _ => exact ⟨x, y, rfl⟩
section
variable {H : Type} {enc : TypeId × Value → H} {W : World} {sp : Nat → Bool}
set_option maxRecDepth 100000 in
theorem openN {r : Reach} {b0 : Nat} {v : Value} {d : DataW H} {q : List MemPlace} (hv : Value.okWide Tryz.prog W r b0 26 v) (h : DataW.Trod enc Tryz.prog W 0 sp true 26 v d q) : ∃ i : Tx.Ins, v = .agg #[.int .i64 i.1, .int .i64 i.2.1, .int .i64 i.2.2] := by
  obtain ⟨cs, rfl, hsz⟩ := okWide_struct Tryz.underlying26 hv
  have hC : Tryz.prog.cellsOf 26 = 3 := by kernel_rfl
  rw [hC] at hsz
  obtain ⟨fuel, hf⟩ := h
  obtain ⟨xs, k, hk, hxy, _, hxl, hff⟩ := DataW.trod_struct Tryz.underlying26 hf
  obtain ⟨y0, y1, y2, rfl⟩ := three_of (l := xs) (by simpa using hxl)
  obtain ⟨cl⟩ := cs
  obtain ⟨v0, v1, v2, rfl⟩ := three_of (l := cl) (by simpa using hsz)
  have c1 : Tryz.prog.cellsOf 2 = 1 := by kernel_rfl
  have g0 := hff 0 _ rfl
  have g1 := hff 1 _ rfl
  have g2 := hff 2 _ rfl
  simp [c1, Value.cells] at g0 g1 g2
  obtain ⟨n0, e0, _, _⟩ := DataW.trod_int Tryz.underlying2 g0
  obtain ⟨n1, e1, _, _⟩ := DataW.trod_int Tryz.underlying2 g1
  obtain ⟨n2, e2, _, _⟩ := DataW.trod_int Tryz.underlying2 g2
  simp at e0 e1 e2
  subst e0 e1 e2
  exact ⟨(n0, n1, n2), rfl⟩
set_option maxRecDepth 100000 in
theorem openS {r : Reach} {b0 : Nat} {v : Value} {d : DataW H} {q : List MemPlace} (hv : Value.okWide Tryz.prog W r b0 29 v) (h : DataW.Trod enc Tryz.prog W 0 sp true 29 v d q) : ∃ (y1 y2 : Option Addr) (z1 z2 : Nat) (st lo : List Int), v = .agg #[.slice y1 st.length z1, .slice y2 lo.length z2] ∧ SI false 0 W (.slice y1 st.length z1) st ∧ SI false 0 W (.slice y2 lo.length z2) lo ∧ (st.length ≤ 9223372036854775807 ∧ lo.length ≤ 9223372036854775807) := by
  obtain ⟨cs, rfl, hsz⟩ := okWide_struct Tryz.underlying29 hv
  have hC : Tryz.prog.cellsOf 29 = 2 := by kernel_rfl
  rw [hC] at hsz
  obtain ⟨fuel, hf⟩ := h
  obtain ⟨xs, k, hk, hxy, _, hxl, hff⟩ := DataW.trod_struct Tryz.underlying29 hf
  obtain ⟨y0, y1, rfl⟩ := two_of (l := xs) (by simpa using hxl)
  obtain ⟨cl⟩ := cs
  obtain ⟨v0, v1, rfl⟩ := two_of (l := cl) (by simpa using hsz)
  have c1 : Tryz.prog.cellsOf 27 = 1 := by kernel_rfl
  have g0 := hff 0 _ rfl
  have g1 := hff 1 _ rfl
  simp [c1, Value.cells] at g0 g1
  obtain ⟨va, la, e0, ha, _, hla⟩ := openI g0
  obtain ⟨vb, lb, e1, hb, _, hlb⟩ := openI g1
  simp at e0 e1
  subst e0 e1
  obtain ⟨a1, c1, rfl⟩ := ha.form
  obtain ⟨a2, c2, rfl⟩ := hb.form
  exact ⟨a1, a2, c1, c2, la, lb, rfl, ha, hb, hla, hlb⟩
end
end Pg
end Go.Proofs.YtfdlljdljefkfaaGreatDoor
