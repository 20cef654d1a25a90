/- Contracts of the laws' own marking of programs: methods, classes, programs. -/
import Derived.Test.YtbfiijfaaknhaaaPm0
namespace Go.Proofs.Ytbfiijfaaknhaaa
namespace Pg
open Go.ChangeShapes Go.WideShapes Go.ChangeAt Go.RowKit St

theorem ShM.at {B1 B2 : Nat} {w : World} {a : Option Addr} {n cap : Nat} {l : List Meth} (h : ShM B1 B2 w (.slice a n cap) l) {k : Nat} (hk : k < l.length) : ∃ b o, a = some ⟨b, o, none⟩ ∧ B1 ≤ b ∧ b < B2 ∧ ShMat B1 B2 w b (o + k * 4) l[k] := by
  obtain ⟨a', c', he, hx⟩ := h
  injection he with e1 e2 e3
  subst e1
  obtain ⟨b, o, ha, h1, h2, h3⟩ := hx (by omega)
  exact ⟨b, o, ha, h1, h2, h3 k _ (List.getElem?_eq_getElem hk)⟩
theorem ShK.at {B1 B2 : Nat} {w : World} {a : Option Addr} {n cap : Nat} {l : Prg} (h : ShK B1 B2 w (.slice a n cap) l) {k : Nat} (hk : k < l.length) : ∃ b o, a = some ⟨b, o, none⟩ ∧ B1 ≤ b ∧ b < B2 ∧ ShKat B1 B2 w b (o + k * 3) l[k] := by
  obtain ⟨a', c', he, hx⟩ := h
  injection he with e1 e2 e3
  subst e1
  obtain ⟨b, o, ha, h1, h2, h3⟩ := hx (by omega)
  exact ⟨b, o, ha, h1, h2, h3 k _ (List.getElem?_eq_getElem hk)⟩
theorem cnt_step {ms : List Meth} {k : Nat} (hk : k < ms.length) : cntMs (ms.take (k + 1)) = cntMs (ms.take k) + cntM ms[k] := sumN_take_succ _ ms k hk
theorem cnt_take (ms : List Meth) (k : Nat) : cntMs (ms.take k) ≤ cntMs ms := sumN_take_le _ ms k
theorem cntP_step {p : Prg} {k : Nat} (hk : k < p.length) : cntP (p.take (k + 1)) = cntP (p.take k) + cntC p[k] := sumN_take_succ _ p k hk
theorem cntP_take (p : Prg) (k : Nat) : cntP (p.take k) ≤ cntP p := sumN_take_le _ p k

set_option maxRecDepth 100000 in
set_option maxHeartbeats 2000000 in
theorem markMethods' (B1 B2 : Nat) (a : Option Addr) (cap q : Nat) (ms : List Meth) (hn : ms.length ≤ 1048576) (hq : q + cntMs ms ≤ 4000000) (w : World) (hs : ShM B1 B2 w (.slice a ms.length cap) ms) :
    Calls Try.prog 58 #[.slice a ms.length cap, .int .i64 q] w fun e w' => e = .returned (.int .i64 ((q + cntMs ms : Nat) : Int)) ∧ Mrk B1 B2 w w' := by
  have HS : Hid (ShM B1 B2 w (.slice a ms.length cap) ms) := hs
  clear hs
  go_enter Try.func58, Try.ntmps58
  go_wp2
  go_loopw [1, 5] (fun v i wr => ∃ k c : Nat, k ≤ ms.length ∧ i = .int .i64 k ∧ v = .int .i64 c ∧ Hid (c = q + cntMs (ms.take k)) ∧ Hid (Mrk B1 B2 w wr)) (fun _ i _ => ms.length - (intOf i).toNat)
  case atStart => exact ⟨0, q, Nat.zero_le _, rfl, rfl, by show _ = _; simp [cntMs, sumN], Mrk.refl _ _ _⟩
  case round =>
    obtain ⟨k, c, hk, rfl, rfl, hc, hon⟩ := hrel
    by_cases hlt : k < ms.length
    · have hki : (k : Int) < (ms.length : Int) := by omega
      have HST : Hid (cntMs (ms.take (k + 1)) = cntMs (ms.take k) + cntM ms[k]) := cnt_step hlt
      have hbd : c + cntM ms[k] ≤ 4000000 := by
        have h1 := HST.out
        have h2 := cnt_take ms (k + 1)
        have h3 := hc.out
        omega
      have HS0 : Hid (ShM B1 B2 wr (.slice a ms.length cap) ms) := HS.out.mrk hon.out
      obtain ⟨b, o, rfl, h1, h2, va0, vc0, ⟨⟨x0, d0⟩, f0⟩, _⟩ := HS0.out.at hlt
      have HAT : Hid (∀ u, Mrk B1 B2 wr u → ShMat B1 B2 u b (o + k * 4) ms[k]) := fun u hu => by
        obtain ⟨b', o', he, _, _, hm⟩ := (HS0.out.mrk hu).at hlt
        simp at he
        obtain ⟨rfl, rfl⟩ := he
        exact hm
      generalize ms[k] = m at *
      have em : cntM m = 2 + m.args.length + 3 * m.code.length := rfl
      have M1 : Hid (Mrk B1 B2 wr (wr.setCell ⟨b, o + k * 4, none⟩ (.int .i64 c))) := Mrk.set wr (p := ⟨b, o + k * 4, none⟩) h1 h2 d0 c
      obtain ⟨va, vc, _, c1, _, _, hva, _⟩ := HAT.out _ M1.out
      obtain ⟨a1, y1, rfl⟩ := hva.form
      have HVA : Hid (ShN 1 B1 B2 (wr.setCell ⟨b, o + k * 4, none⟩ (.int .i64 c)) (.slice a1 m.args.length y1) m.args.length) := hva
      clear hva HS0
      go_wp2_with fail
      have e1 : ((c : Int) + 1) = ((c + 1 : Nat) : Int) := by omega
      rw [e1]
      clear e1
      refine (markInts' B1 B2 a1 y1 (c + 1) m.args.length (by omega) _ HVA.out).mono ?_
      rintro e w2 ⟨rfl, hm2⟩
      have M2 : Hid (Mrk B1 B2 wr w2) := M1.out.trans hm2
      clear hm2 c1 d0 f0 HVA M1
      obtain ⟨_, _, _, _, ⟨⟨x2, d2⟩, f2⟩, _⟩ := HAT.out _ M2.out
      have M3 : Hid (Mrk B1 B2 wr (w2.setCell ⟨b, o + k * 4 + 2, none⟩ (.int .i64 ((c + 1 + m.args.length : Nat) : Int)))) := M2.out.trans (Mrk.set w2 (p := ⟨b, o + k * 4 + 2, none⟩) h1 h2 d2 _)
      obtain ⟨va3, vc3, _, _, _, c3, _, hvc⟩ := HAT.out _ M3.out
      obtain ⟨a3, y3, rfl⟩ := hvc.form
      have HVC : Hid (ShN 3 B1 B2 (w2.setCell ⟨b, o + k * 4 + 2, none⟩ (.int .i64 ((c + 1 + m.args.length : Nat) : Int))) (.slice a3 m.code.length y3) m.code.length) := hvc
      clear hvc
      generalize hcc : c + 1 + m.args.length = cc at *
      have HCC : Hid (c + 1 + m.args.length = cc) := hcc
      have hcc2 : cc ≤ 4000000 := by omega
      have hcc3 : cc + 1 + 3 * m.code.length ≤ 4000000 := by omega
      clear hcc
      go_wp2_with fail
      have e2 : ((cc : Int) + 1) = ((cc + 1 : Nat) : Int) := by omega
      rw [e2]
      clear e2
      refine (markInsns' B1 B2 a3 y3 (cc + 1) m.code.length hcc3 _ HVC.out).mono ?_
      rintro e w4 ⟨rfl, hm4⟩
      have M4 : Hid (Mrk B1 B2 w w4) := hon.out.trans (M3.out.trans hm4)
      have HC4 : Hid (cc + 1 + 3 * m.code.length = q + cntMs (ms.take (k + 1))) := by
        show _ = _
        have h1 := HST.out
        have h2 := hc.out
        have h3 := HCC.out
        omega
      clear hm4 c3 d2 f2 HVC M2 M3 HAT hon HST hc HCC
      generalize cc + 1 + 3 * m.code.length = c5 at *
      go_wp2
      go_roundw
      case rel => exact ⟨k + 1, c5, by omega, by go_num, rfl, HC4.out, M4.out⟩
      case measure => simp [intOf]; omega
    · have HKN : Hid (q + cntMs ms = c) := by
        show _ = _
        have h := hc.out
        rw [List.take_of_length_le (by omega)] at h
        exact h.symm
      go_wp2
      go_ret
      exact ⟨retI (by rw [HKN.out]), hon.out⟩

set_option maxRecDepth 100000 in
set_option maxHeartbeats 2000000 in
theorem markClasses' (B1 B2 : Nat) (a : Option Addr) (cap q : Nat) (ms : Prg) (hsm : SmallP ms) (hq : q + cntP ms ≤ 4000000) (w : World) (hs : ShK B1 B2 w (.slice a ms.length cap) ms) :
    Calls Try.prog 36 #[.slice a ms.length cap, .int .i64 q] w fun e w' => e = .returned (.int .i64 ((q + cntP ms : Nat) : Int)) ∧ Mrk B1 B2 w w' := by
  have HS : Hid (ShK B1 B2 w (.slice a ms.length cap) ms) := hs
  have hn := hsm.1
  have HSM : Hid (SmallP ms) := hsm
  clear hs hsm
  go_enter Try.func36, Try.ntmps36
  go_wp2
  go_loopw [1, 5] (fun v i wr => ∃ k c : Nat, k ≤ ms.length ∧ i = .int .i64 k ∧ v = .int .i64 c ∧ Hid (c = q + cntP (ms.take k)) ∧ Hid (Mrk B1 B2 w wr)) (fun _ i _ => ms.length - (intOf i).toNat)
  case atStart => exact ⟨0, q, Nat.zero_le _, rfl, rfl, by show _ = _; simp [cntP, sumN], Mrk.refl _ _ _⟩
  case round =>
    obtain ⟨k, c, hk, rfl, rfl, hc, hon⟩ := hrel
    by_cases hlt : k < ms.length
    · have hki : (k : Int) < (ms.length : Int) := by omega
      have HST : Hid (cntP (ms.take (k + 1)) = cntP (ms.take k) + cntC ms[k]) := cntP_step hlt
      have hbd : c + cntC ms[k] ≤ 4000000 := by
        have h1 := HST.out
        have h2 := cntP_take ms (k + 1)
        have h3 := hc.out
        omega
      have hml := (HSM.out.2 _ (List.getElem_mem hlt)).2.1
      have HS0 : Hid (ShK B1 B2 wr (.slice a ms.length cap) ms) := HS.out.mrk hon.out
      obtain ⟨b, o, rfl, h1, h2, va0, vc0, ⟨⟨x0, d0⟩, f0⟩, _⟩ := HS0.out.at hlt
      have HAT : Hid (∀ u, Mrk B1 B2 wr u → ShKat B1 B2 u b (o + k * 3) ms[k]) := fun u hu => by
        obtain ⟨b', o', he, _, _, hm⟩ := (HS0.out.mrk hu).at hlt
        simp at he
        obtain ⟨rfl, rfl⟩ := he
        exact hm
      generalize ms[k] = m at *
      have em : cntC m = 1 + m.fields.length + cntMs m.meths := rfl
      have M1 : Hid (Mrk B1 B2 wr (wr.setCell ⟨b, o + k * 3, none⟩ (.int .i64 c))) := Mrk.set wr (p := ⟨b, o + k * 3, none⟩) h1 h2 d0 c
      obtain ⟨va, vc, _, c1, _, hva, _⟩ := HAT.out _ M1.out
      obtain ⟨a1, y1, rfl⟩ := hva.form
      have HVA : Hid (ShN 1 B1 B2 (wr.setCell ⟨b, o + k * 3, none⟩ (.int .i64 c)) (.slice a1 m.fields.length y1) m.fields.length) := hva
      clear hva HS0
      go_wp2_with fail
      have e1 : ((c : Int) + 1) = ((c + 1 : Nat) : Int) := by omega
      rw [e1]
      clear e1
      refine (markInts' B1 B2 a1 y1 (c + 1) m.fields.length (by omega) _ HVA.out).mono ?_
      rintro e w2 ⟨rfl, hm2⟩
      have M2 : Hid (Mrk B1 B2 wr w2) := M1.out.trans hm2
      clear hm2 c1 d0 f0 HVA M1
      obtain ⟨va3, vc3, _, _, c3, _, hvc⟩ := HAT.out _ M2.out
      obtain ⟨a3, y3, rfl⟩ := hvc.form
      have HVC : Hid (ShM B1 B2 w2 (.slice a3 m.meths.length y3) m.meths) := hvc
      clear hvc
      generalize hcc : c + 1 + m.fields.length = cc at *
      have HCC : Hid (c + 1 + m.fields.length = cc) := hcc
      have hcc3 : cc + cntMs m.meths ≤ 4000000 := by omega
      clear hcc
      go_wp2_with fail
      refine (markMethods' B1 B2 a3 y3 cc m.meths hml hcc3 _ HVC.out).mono ?_
      rintro e w4 ⟨rfl, hm4⟩
      have M4 : Hid (Mrk B1 B2 w w4) := hon.out.trans (M2.out.trans hm4)
      have HC4 : Hid (cc + cntMs m.meths = q + cntP (ms.take (k + 1))) := by
        show _ = _
        have h1 := HST.out
        have h2 := hc.out
        have h3 := HCC.out
        omega
      clear hm4 c3 HVC M2 HAT hon HST hc HCC
      generalize cc + cntMs m.meths = c5 at *
      go_wp2
      go_roundw
      case rel => exact ⟨k + 1, c5, by omega, by go_num, rfl, HC4.out, M4.out⟩
      case measure => simp [intOf]; omega
    · have HKN : Hid (q + cntP ms = c) := by
        show _ = _
        have h := hc.out
        rw [List.take_of_length_le (by omega)] at h
        exact h.symm
      go_wp2
      go_ret
      exact ⟨retI (by rw [HKN.out]), hon.out⟩

set_option maxHeartbeats 1000000 in
theorem markProgram' (B1 B2 : Nat) (a : Option Addr) (cap : Nat) (p : Prg) (hsz : szP p ≤ 1048576) (w : World) (hs : ShK B1 B2 w (.slice a p.length cap) p) :
    Calls Try.prog 13 #[.agg #[.slice a p.length cap], .int .i64 1] w fun e w' => e = .returned (.int .i64 ((1 + cntP p : Nat) : Int)) ∧ Mrk B1 B2 w w' := by
  have HS : Hid (ShK B1 B2 w (.slice a p.length cap) p) := hs
  have HSM : Hid (SmallP p) := SmallP.of hsz
  have hc : 1 + cntP p ≤ 4000000 := by have := cntP_le p; omega
  clear hs
  go_enter Try.func13, Try.ntmps13
  go_wp2_with fail
  refine (markClasses' B1 B2 a cap 1 p HSM.out hc _ (HS.out.mrk (Mrk.of ((Below.refl _ _).alloc (Nat.le_refl _) _)))).mono ?_
  rintro e w1 ⟨rfl, hm1⟩
  have M1 : Hid (Mrk B1 B2 w w1) := (Mrk.of ((Below.refl _ _).alloc (Nat.le_refl _) _)).trans hm1
  clear hm1
  generalize hc5 : 1 + cntP p = c5 at *
  have HC5 : Hid (1 + cntP p = c5) := hc5
  clear hc5
  go_wp2
  go_ret
  exact ⟨retI (by rw [HC5.out]), M1.out⟩
end Pg
end Go.Proofs.Ytbfiijfaaknhaaa
