/- What has been marked is held: the laws' own look at a program's numbers. -/
import Derived.Test.YtdomclicgajihaaJZa3
import Derived.Test.YtdomclicgajihaaJFl0
import Derived.Test.YtdomclicgajihaaJPg3
import Derived.Test.YtdomclicgajihaaJPm1
import Derived.Deep.RegionLaw
namespace Go.Proofs.Ytdomclicgajihaa
namespace Pg
open Go.ChangeShapes Go.WideShapes Go.ChangeAt Go.RowKit St

/-- The addresses L have numbers from q on. -/
def Hel (w : World) (L : List Addr) (q : Nat) : Prop := ∀ i p, L[i]? = some p → w.cell? p = some (.int .i64 ((q + i : Nat) : Int))
theorem Hel.on {u w : World} {L : List Addr} {q : Nat} (h : Hel u L q) (hb : Below u.heap.size u w) : Hel w L q := fun i p hp => (hb.cell (cell_lt (h i p hp))).trans (h i p hp)
theorem Hel.left {w : World} {L1 L2 : List Addr} {q : Nat} (h : Hel w (L1 ++ L2) q) : Hel w L1 q := fun i p hp => h i p (by rw [List.getElem?_append_left (List.getElem?_eq_some_iff.1 hp).1]; exact hp)
theorem Hel.right {w : World} {L1 L2 : List Addr} {q q' : Nat} (h : Hel w (L1 ++ L2) q) (hq : q' = q + L1.length) : Hel w L2 q' := fun i p hp => by
  have := h (L1.length + i) p (by rw [List.getElem?_append_right (by omega), Nat.add_sub_cancel_left]; exact hp)
  rw [hq, Nat.add_assoc]
  exact this
theorem Hel.head {w : World} {p : Addr} {L : List Addr} {q : Nat} (h : Hel w (p :: L) q) : w.cell? p = some (.int .i64 (q : Int)) := h 0 p rfl
theorem Hel.tail {w : World} {p : Addr} {L : List Addr} {q q' : Nat} (h : Hel w (p :: L) q) (hq : q' = q + 1) : Hel w L q' := fun i r hr => by
  have := h (i + 1) r (by simpa using hr)
  rw [hq, show q + 1 + i = q + (i + 1) by omega]
  exact this

set_option maxRecDepth 100000 in
set_option maxHeartbeats 1000000 in
theorem heldIntsE (B1 B2 : Nat) (a : Option Addr) (cap m n : Nat) (hm : m + n ≤ 4000000) (w : World) (hs : ShN 1 B1 B2 w (.slice a n cap) n) (hh : Hel w (adN (.slice a n cap) n) m) :
    Calls Try.prog 51 #[.slice a n cap, .int .i64 m] w fun e w' => e = .returned (.int .i64 ((m + n : Nat) : Int)) ∧ w' = w := by
  have HS : Hid (ShN 1 B1 B2 w (.slice a n cap) n) := hs
  have HH : Hid (Hel w (adN (.slice a n cap) n) m) := hh
  clear hs hh
  go_enter Try.func51, Try.ntmps51
  go_wp2
  go_loopw [1, 5] (fun q i wr => ∃ k : Nat, k ≤ n ∧ i = .int .i64 k ∧ q = .int .i64 ((m : Int) + (k : Int)) ∧ wr = w) (fun _ i _ => n - (intOf i).toNat)
  case atStart => exact ⟨0, Nat.zero_le _, rfl, by simp, rfl⟩
  case round =>
    obtain ⟨k, hk, rfl, rfl, rfl⟩ := hrel
    by_cases hlt : k < n
    · have hki : (k : Int) < (n : Int) := by omega
      obtain ⟨a', c', he, hx⟩ := HS.out
      injection he with e1 e2 e3
      subst e1
      obtain ⟨b, o, rfl, h1, h2, h3⟩ := hx (by omega)
      have d0 := HH.out k ⟨b, o + k, none⟩ (by rw [adN_at]; simp [hlt])
      rw [show ((m + k : Nat) : Int) = (m : Int) + (k : Int) by omega] at d0
      clear hx h3
      go_wp2
      go_roundw
      case rel => exact ⟨k + 1, by omega, by go_num, by go_num, by simp⟩
      case measure => simp [intOf]; omega
    · obtain rfl : k = n := by omega
      go_wp2
      go_ret
      exact ⟨by push_cast; rfl, rfl⟩
set_option maxRecDepth 100000 in
set_option maxHeartbeats 1000000 in
theorem heldInsnsE (B1 B2 : Nat) (a : Option Addr) (cap m n : Nat) (hm : m + 3 * n ≤ 4000000) (w : World) (hs : ShN 3 B1 B2 w (.slice a n cap) n) (hh : Hel w (adN (.slice a n cap) (n * 3)) m) :
    Calls Try.prog 72 #[.slice a n cap, .int .i64 m] w fun e w' => e = .returned (.int .i64 ((m + 3 * n : Nat) : Int)) ∧ w' = w := by
  have HS : Hid (ShN 3 B1 B2 w (.slice a n cap) n) := hs
  have HH : Hid (Hel w (adN (.slice a n cap) (n * 3)) m) := hh
  clear hs hh
  go_enter Try.func72, Try.ntmps72
  go_wp2
  go_loopw [1, 5] (fun q i wr => ∃ k : Nat, k ≤ n ∧ i = .int .i64 k ∧ q = .int .i64 ((m : Int) + 3 * (k : Int)) ∧ wr = w) (fun _ i _ => n - (intOf i).toNat)
  case atStart => exact ⟨0, Nat.zero_le _, rfl, by simp, rfl⟩
  case round =>
    obtain ⟨k, hk, rfl, rfl, rfl⟩ := hrel
    by_cases hlt : k < n
    · have hki : (k : Int) < (n : Int) := by omega
      obtain ⟨a', c', he, hx⟩ := HS.out
      injection he with e1 e2 e3
      subst e1
      obtain ⟨b, o, rfl, h1, h2, h3⟩ := hx (by omega)
      have d0 := HH.out (k * 3) ⟨b, o + k * 3, none⟩ (by rw [adN_at, List.getElem?_map, List.getElem?_range (by omega)]; simp)
      have d1 := HH.out (k * 3 + 1) ⟨b, o + k * 3 + 1, none⟩ (by rw [adN_at, List.getElem?_map, List.getElem?_range (by omega)]; simp [Nat.add_assoc])
      have d2 := HH.out (k * 3 + 2) ⟨b, o + k * 3 + 2, none⟩ (by rw [adN_at, List.getElem?_map, List.getElem?_range (by omega)]; simp [Nat.add_assoc])
      rw [show ((m + k * 3 : Nat) : Int) = (m : Int) + 3 * (k : Int) by omega] at d0
      rw [show ((m + (k * 3 + 1) : Nat) : Int) = (m : Int) + 3 * (k : Int) + 1 by omega] at d1
      rw [show ((m + (k * 3 + 2) : Nat) : Int) = (m : Int) + 3 * (k : Int) + 1 + 1 by omega] at d2
      clear hx h3
      go_wp2
      go_roundw
      case rel => exact ⟨k + 1, by omega, by go_num, by go_num, by simp⟩
      case measure => simp [intOf]; omega
    · obtain rfl : k = n := by omega
      go_wp2
      go_ret
      exact ⟨by push_cast; rfl, rfl⟩
set_option maxRecDepth 100000 in
set_option maxHeartbeats 2000000 in
theorem heldMethodsE (B1 B2 : Nat) (a : Option Addr) (cap q : Nat) (ms : List Meth) (hn : ms.length ≤ 1048576) (hq : q + cntMs ms ≤ 4000000) (w : World) (hs : ShM B1 B2 w (.slice a ms.length cap) ms) (hh : Hel w (adMs w (.slice a ms.length cap) ms) q) :
    Calls Try.prog 52 #[.slice a ms.length cap, .int .i64 q] w fun e w' => e = .returned (.int .i64 ((q + cntMs ms : Nat) : Int)) ∧ w' = w := by
  have HS : Hid (ShM B1 B2 w (.slice a ms.length cap) ms) := hs
  have HH : Hid (Hel w (adMs w (.slice a ms.length cap) ms) q) := hh
  clear hs hh
  go_enter Try.func52, Try.ntmps52
  go_wp2
  go_loopw [1, 5] (fun v i wr => ∃ k c : Nat, k ≤ ms.length ∧ i = .int .i64 k ∧ v = .int .i64 c ∧ Hid (c = q + cntMs (ms.take k)) ∧ wr = w) (fun _ i _ => ms.length - (intOf i).toNat)
  case atStart => exact ⟨0, q, Nat.zero_le _, rfl, rfl, by show _ = _; simp [cntMs, sumN], rfl⟩
  case round =>
    obtain ⟨k, c, hk, rfl, rfl, hc, rfl⟩ := hrel
    by_cases hlt : k < ms.length
    · have hki : (k : Int) < (ms.length : Int) := by omega
      have HST : Hid (cntMs (ms.take (k + 1)) = cntMs (ms.take k) + cntM ms[k]) := cnt_step hlt
      have hbd : c + cntM ms[k] ≤ 4000000 := by
        have h1 := HST.out
        have h2 := cnt_take ms (k + 1)
        have h3 := hc.out
        omega
      obtain ⟨b, o, rfl, h1, h2, hat⟩ := HS.out.at hlt
      have HALL : Hid (∀ j x, ms[j]? = some x → ShMat B1 B2 wr b (o + j * 4) x) := fun j x hj => by
        obtain ⟨hjl, rfl⟩ := List.getElem?_eq_some_iff.1 hj
        obtain ⟨b', o', he, _, _, hm⟩ := HS.out.at hjl
        simp at he
        obtain ⟨rfl, rfl⟩ := he
        exact hm
      have HSEG : Hid (Hel wr (adM wr b (o + k * 4) ms[k]) c) := by
        have h : Hel wr (adMl wr b o ms) q := HH.out
        have e : ms = ms.take (k + 1) ++ ms.drop (k + 1) := (List.take_append_drop _ _).symm
        rw [e, adMl_app, adMl_take wr b o hlt] at h
        have hlen := (adMl_num (ms := ms.take k) (C1 := B1) (C2 := B2) (w := wr) (b := b) (o := o) (fun j x hj => by
          rw [List.getElem?_take] at hj
          split at hj
          · exact HALL.out j x hj
          · simp at hj)).1
        exact h.left.right (by rw [hlen]; exact hc.out)
      generalize ms[k] = m at *
      have em : cntM m = 2 + m.args.length + 3 * m.code.length := rfl
      obtain ⟨va, vc, ⟨⟨x0, d0'⟩, f0⟩, c1, ⟨⟨x2, d2'⟩, f2⟩, c3, hva, hvc⟩ := hat
      obtain ⟨a1, y1, rfl⟩ := hva.form
      obtain ⟨a3, y3, rfl⟩ := hvc.form
      have HVA : Hid (ShN 1 B1 B2 wr (.slice a1 m.args.length y1) m.args.length) := hva
      have HVC : Hid (ShN 3 B1 B2 wr (.slice a3 m.code.length y3) m.code.length) := hvc
      have HLA : (adN (.slice a1 m.args.length y1) m.args.length).length = m.args.length := by
        have := (shN_ad hva).1
        rw [Nat.mul_one] at this
        exact this
      have hseg := HSEG.out
      unfold adM at hseg
      rw [show cellD wr ⟨b, o + k * 4 + 1, none⟩ = .slice a1 m.args.length y1 by unfold cellD; rw [c1]; rfl, show cellD wr ⟨b, o + k * 4 + 3, none⟩ = .slice a3 m.code.length y3 by unfold cellD; rw [c3]; rfl] at hseg
      have d0 := hseg.head
      have HB : Hid (Hel wr (adN (.slice a1 m.args.length y1) m.args.length) (c + 1)) := (hseg.tail rfl).left
      have hr := (hseg.tail rfl).right (q' := c + 1 + m.args.length) (by rw [HLA])
      have d2 := hr.head
      have HD : Hid (Hel wr (adN (.slice a3 m.code.length y3) (m.code.length * 3)) (c + 1 + m.args.length + 1)) := hr.tail rfl
      clear hva hvc HLA hseg hr d0' d2' HSEG HALL x0 x2
      have hne0 : ((c : Int) != (c : Int)) = false := by simp
      go_wp2_with fail
      have e1 : ((c : Int) + 1) = ((c + 1 : Nat) : Int) := by omega
      rw [e1]
      clear e1
      refine (heldIntsE B1 B2 a1 y1 (c + 1) m.args.length (by omega) _ HVA.out HB.out).mono ?_
      rintro e w2 ⟨rfl, rfl⟩
      generalize hcc : c + 1 + m.args.length = cc at *
      have HCC : Hid (c + 1 + m.args.length = cc) := hcc
      have hcc2 : cc ≤ 4000000 := by omega
      have hcc3 : cc + 1 + 3 * m.code.length ≤ 4000000 := by omega
      have hneg : ¬ (cc : Int) < 0 := by omega
      clear hcc
      go_wp2_with fail
      have e2 : ((cc : Int) + 1) = ((cc + 1 : Nat) : Int) := by omega
      rw [e2]
      clear e2
      refine (heldInsnsE B1 B2 a3 y3 (cc + 1) m.code.length hcc3 _ HVC.out HD.out).mono ?_
      rintro e w4 ⟨rfl, rfl⟩
      have HC4 : Hid (cc + 1 + 3 * m.code.length = q + cntMs (ms.take (k + 1))) := by
        show _ = _
        have h1 := HST.out
        have h2 := hc.out
        have h3 := HCC.out
        omega
      clear HST hc HCC HB HD HVA HVC d0 d2 c1 c3
      generalize cc + 1 + 3 * m.code.length = c5 at *
      have hneg2 : ¬ (c5 : Int) < 0 := by omega
      go_wp2
      go_roundw
      case rel => exact ⟨k + 1, c5, by omega, by go_num, rfl, HC4.out, by simp⟩
      case measure => simp [intOf]; omega
    · have HKN : Hid (q + cntMs ms = c) := by
        show _ = _
        have h := hc.out
        rw [List.take_of_length_le (by omega)] at h
        exact h.symm
      go_wp2
      go_ret
      exact ⟨retI (by rw [HKN.out]), rfl⟩
set_option maxRecDepth 100000 in
set_option maxHeartbeats 2000000 in
theorem heldClassesE (B1 B2 : Nat) (a : Option Addr) (cap q : Nat) (ms : Prg) (hsm : SmallP ms) (hq : q + cntP ms ≤ 4000000) (w : World) (hs : ShK B1 B2 w (.slice a ms.length cap) ms) (hh : Hel w (adP w (.slice a ms.length cap) ms) q) :
    Calls Try.prog 29 #[.slice a ms.length cap, .int .i64 q] w fun e w' => e = .returned (.int .i64 ((q + cntP ms : Nat) : Int)) ∧ w' = w := by
  have HS : Hid (ShK B1 B2 w (.slice a ms.length cap) ms) := hs
  have HH : Hid (Hel w (adP w (.slice a ms.length cap) ms) q) := hh
  have hn := hsm.1
  have HSM : Hid (SmallP ms) := hsm
  clear hs hh hsm
  go_enter Try.func29, Try.ntmps29
  go_wp2
  go_loopw [1, 5] (fun v i wr => ∃ k c : Nat, k ≤ ms.length ∧ i = .int .i64 k ∧ v = .int .i64 c ∧ Hid (c = q + cntP (ms.take k)) ∧ wr = w) (fun _ i _ => ms.length - (intOf i).toNat)
  case atStart => exact ⟨0, q, Nat.zero_le _, rfl, rfl, by show _ = _; simp [cntP, sumN], rfl⟩
  case round =>
    obtain ⟨k, c, hk, rfl, rfl, hc, rfl⟩ := hrel
    by_cases hlt : k < ms.length
    · have hki : (k : Int) < (ms.length : Int) := by omega
      have HST : Hid (cntP (ms.take (k + 1)) = cntP (ms.take k) + cntC ms[k]) := cntP_step hlt
      have hbd : c + cntC ms[k] ≤ 4000000 := by
        have h1 := HST.out
        have h2 := cntP_take ms (k + 1)
        have h3 := hc.out
        omega
      have hml := (HSM.out.2 _ (List.getElem_mem hlt)).2.1
      obtain ⟨b, o, rfl, h1, h2, hat⟩ := HS.out.at hlt
      have HALL : Hid (∀ j x, ms[j]? = some x → ShKat B1 B2 wr b (o + j * 3) x) := fun j x hj => by
        obtain ⟨hjl, rfl⟩ := List.getElem?_eq_some_iff.1 hj
        obtain ⟨b', o', he, _, _, hm⟩ := HS.out.at hjl
        simp at he
        obtain ⟨rfl, rfl⟩ := he
        exact hm
      have HSEG : Hid (Hel wr (adC wr b (o + k * 3) ms[k]) c) := by
        have h : Hel wr (adCl wr b o ms) q := HH.out
        have e : ms = ms.take (k + 1) ++ ms.drop (k + 1) := (List.take_append_drop _ _).symm
        rw [e, adCl_app, adCl_take wr b o hlt] at h
        have hlen := (adCl_num (ms := ms.take k) (C1 := B1) (C2 := B2) (w := wr) (b := b) (o := o) (fun j x hj => by
          rw [List.getElem?_take] at hj
          split at hj
          · exact HALL.out j x hj
          · simp at hj)).1
        exact h.left.right (by rw [hlen]; exact hc.out)
      generalize ms[k] = m at *
      have em : cntC m = 1 + m.fields.length + cntMs m.meths := rfl
      obtain ⟨va, vc, ⟨⟨x0, d0'⟩, f0⟩, c1, c2, hva, hvc⟩ := hat
      obtain ⟨a1, y1, rfl⟩ := hva.form
      obtain ⟨a3, y3, rfl⟩ := hvc.form
      have HVA : Hid (ShN 1 B1 B2 wr (.slice a1 m.fields.length y1) m.fields.length) := hva
      have HVC : Hid (ShM B1 B2 wr (.slice a3 m.meths.length y3) m.meths) := hvc
      have HLA : (adN (.slice a1 m.fields.length y1) m.fields.length).length = m.fields.length := by
        have := (shN_ad hva).1
        rw [Nat.mul_one] at this
        exact this
      have hseg := HSEG.out
      unfold adC at hseg
      rw [show cellD wr ⟨b, o + k * 3 + 1, none⟩ = .slice a1 m.fields.length y1 by unfold cellD; rw [c1]; rfl, show cellD wr ⟨b, o + k * 3 + 2, none⟩ = .slice a3 m.meths.length y3 by unfold cellD; rw [c2]; rfl] at hseg
      have d0 := hseg.head
      have HB : Hid (Hel wr (adN (.slice a1 m.fields.length y1) m.fields.length) (c + 1)) := (hseg.tail rfl).left
      have HD : Hid (Hel wr (adMs wr (.slice a3 m.meths.length y3) m.meths) (c + 1 + m.fields.length)) := (hseg.tail rfl).right (by rw [HLA])
      clear hva hvc HLA hseg d0' HSEG HALL x0
      have hne0 : ((c : Int) != (c : Int)) = false := by simp
      go_wp2_with fail
      have e1 : ((c : Int) + 1) = ((c + 1 : Nat) : Int) := by omega
      rw [e1]
      clear e1
      refine (heldIntsE B1 B2 a1 y1 (c + 1) m.fields.length (by omega) _ HVA.out HB.out).mono ?_
      rintro e w2 ⟨rfl, rfl⟩
      generalize hcc : c + 1 + m.fields.length = cc at *
      have HCC : Hid (c + 1 + m.fields.length = cc) := hcc
      have hcc3 : cc + cntMs m.meths ≤ 4000000 := by omega
      have hneg : ¬ (cc : Int) < 0 := by omega
      clear hcc
      go_wp2_with fail
      refine (heldMethodsE B1 B2 a3 y3 cc m.meths hml hcc3 _ HVC.out HD.out).mono ?_
      rintro e w4 ⟨rfl, rfl⟩
      have HC4 : Hid (cc + cntMs m.meths = q + cntP (ms.take (k + 1))) := by
        show _ = _
        have h1 := HST.out
        have h2 := hc.out
        have h3 := HCC.out
        omega
      clear HST hc HCC HB HD HVA HVC d0 c1 c2
      generalize cc + cntMs m.meths = c5 at *
      have hneg2 : ¬ (c5 : Int) < 0 := by omega
      go_wp2
      go_roundw
      case rel => exact ⟨k + 1, c5, by omega, by go_num, rfl, HC4.out, by simp⟩
      case measure => simp [intOf]; omega
    · have HKN : Hid (q + cntP ms = c) := by
        show _ = _
        have h := hc.out
        rw [List.take_of_length_le (by omega)] at h
        exact h.symm
      go_wp2
      go_ret
      exact ⟨retI (by rw [HKN.out]), rfl⟩
set_option maxHeartbeats 1000000 in
theorem heldProgramE (B1 B2 : Nat) (a : Option Addr) (cap : Nat) (p : Prg) (hsz : szP p ≤ 1048576) (w : World) (hs : ShK B1 B2 w (.slice a p.length cap) p) (hh : Hel w (adP w (.slice a p.length cap) p) 1) :
    Calls Try.prog 11 #[.agg #[.slice a p.length cap], .int .i64 1] w fun e w' => e = .returned (.int .i64 ((1 + cntP p : Nat) : Int)) ∧ Below w.heap.size w w' := by
  have HSM : Hid (SmallP p) := SmallP.of hsz
  have hc : 1 + cntP p ≤ 4000000 := by have := cntP_le p; omega
  obtain ⟨W, hW⟩ : ∃ W, W = w.alloc (.cells #[.slice a p.length cap] 28) := ⟨_, rfl⟩
  have hwW : Below w.heap.size w W := by rw [hW]; exact (Below.refl _ _).alloc (Nat.le_refl _) _
  have HS : Hid (ShK B1 B2 W (.slice a p.length cap) p) := hs.mrk (Mrk.of hwW)
  have HH : Hid (Hel W (adP W (.slice a p.length cap) p) 1) := by
    show Hel _ _ _
    rw [adP_mrk (Mrk.of (B1 := 0) (B2 := 0) hwW) hs]
    exact hh.on hwW
  clear hs hh
  go_enter Try.func11, Try.ntmps11
  go_wp2_with fail
  rw [← hW]
  clear hW
  refine (heldClassesE B1 B2 a cap 1 p HSM.out hc _ HS.out HH.out).mono ?_
  rintro e w1 ⟨rfl, rfl⟩
  generalize hc5 : 1 + cntP p = c5 at *
  have HC5 : Hid (1 + cntP p = c5) := hc5
  have hneg : ¬ (c5 : Int) < 0 := by omega
  clear hc5
  go_wp2
  go_ret
  exact ⟨retI (by rw [HC5.out]), hwW⟩
end Pg
end Go.Proofs.Ytdomclicgajihaa

/- Who is above whom, as plain functions of a program. -/
namespace Go.Proofs.Ytdomclicgajihaa
namespace Pg
open Go.ChangeShapes Go.WideShapes Go.ChangeAt Go.RowKit St

/-- A class, its Super, and so on. -/
def upF (p : Prg) : Nat → Int → List Int
  | 0, _ => []
  | f + 1, c => if c < 0 then [] else match p[c.toNat]? with | none => [] | some k => c :: upF p f k.super
def upL (p : Prg) (c : Int) : List Int := upF p 6 c
theorem upF_neg (p : Prg) (f : Nat) {c : Int} (h : c < 0) : upF p f c = [] := by
  cases f with
  | zero => rfl
  | succ f => simp [upF, h]
theorem upL_neg (p : Prg) {c : Int} (h : c < 0) : upL p c = [] := upF_neg p 6 h
theorem upF_fuel {p : Prg} {n : Nat} (hs : SupOk p n) : ∀ (f g : Nat) (up : Int), up < (n : Int) → up < (f : Int) → up < (g : Int) → upF p f up = upF p g up := by
  intro f
  induction f with
  | zero => intro g up _ h1 _; rw [upF_neg _ _ (by omega), upF_neg _ _ (by omega)]
  | succ f ih =>
    intro g up hn h1 h2
    by_cases h0 : up < 0
    · rw [upF_neg _ _ h0, upF_neg _ _ h0]
    · cases g with
      | zero => omega
      | succ g =>
        simp only [upF, h0, if_false]
        cases hc : p[up.toNat]? with
        | none => rfl
        | some c =>
          have := hs up.toNat c (by omega) hc
          simp only []
          rw [ih g c.super (by omega) (by omega) (by omega)]
theorem upL_step {p : Prg} {n : Nat} (hs : SupOk p n) {u : Nat} (hu : u < n) (h6 : u < 6) {c : Cls} (hc : p[u]? = some c) : upL p (u : Int) = (u : Int) :: upL p c.super := by
  have h0 : ¬ (u : Int) < 0 := by omega
  have := hs u c hu hc
  have e : upF p 5 c.super = upF p 6 c.super := upF_fuel hs 5 6 c.super (by omega) (by omega) (by omega)
  show (if (u : Int) < 0 then [] else match p[(u : Int).toNat]? with | none => [] | some k => (u : Int) :: upF p 5 k.super) = _
  rw [if_neg h0, Int.toNat_natCast, hc]
  simp only []
  rw [e]
  rfl
theorem upF_len (p : Prg) : ∀ (f : Nat) (c : Int), (upF p f c).length ≤ f := by
  intro f
  induction f with
  | zero => intro c; simp [upF]
  | succ f ih =>
    intro c
    simp only [upF]
    split
    · simp
    · split
      · simp
      · simp only [List.length_cons]; have := ih ‹Cls›.super; omega
theorem upL_len (p : Prg) (c : Int) : (upL p c).length ≤ 6 := upF_len p 6 c
theorem upF_mem {p : Prg} : ∀ (f : Nat) (c x : Int), x ∈ upF p f c → 0 ≤ x ∧ x < (p.length : Int) := by
  intro f
  induction f with
  | zero => intro c x h; simp [upF] at h
  | succ f ih =>
    intro c x h
    simp only [upF] at h
    split at h
    · simp at h
    · split at h
      · simp at h
      · rename_i hc k hk
        rcases List.mem_cons.1 h with rfl | h
        · have := (List.getElem?_eq_some_iff.1 hk).1; omega
        · exact ih _ _ h
theorem upL_mem {p : Prg} {c x : Int} (h : x ∈ upL p c) : 0 ≤ x ∧ x < (p.length : Int) := upF_mem 6 c x h
theorem upF_le {p : Prg} (hs : SupOk p p.length) : ∀ (f : Nat) (c x : Int), x ∈ upF p f c → x ≤ c := by
  intro f
  induction f with
  | zero => intro c x h; simp [upF] at h
  | succ f ih =>
    intro c x h
    simp only [upF] at h
    split at h
    · simp at h
    · split at h
      · simp at h
      · rename_i hc k hk
        have h1 := (List.getElem?_eq_some_iff.1 hk).1
        have h2 := hs _ k h1 hk
        rcases List.mem_cons.1 h with rfl | h
        · exact Int.le_refl _
        · have := ih _ _ h; omega
theorem upL_le {p : Prg} (hs : SupOk p p.length) {c x : Int} (h : x ∈ upL p c) : x ≤ c := upF_le hs 6 c x h
theorem upL_self {p : Prg} (hs : SupOk p p.length) (h6 : p.length ≤ 6) {u : Nat} (hu : u < p.length) : (u : Int) ∈ upL p (u : Int) := by
  rw [upL_step hs hu (by omega) (List.getElem?_eq_getElem hu)]; exact List.mem_cons_self

/-- Is b above a (or a itself)? -/
def undB (p : Prg) (a b : Int) : Bool := decide (b ∈ upL p a)
/-- The first one above a that is above b. -/
def lowF (p : Prg) (a b : Int) : Int := ((upL p a).find? fun x => undB p b x).getD (-1)
/-- Has the class of this number a method of its own with this name? -/
def hasM (p : Prg) (name : Int) (x : Int) : Bool := match p[x.toNat]? with | none => false | some c => (ownF c name).isSome
def selF (p : Prg) (c name : Int) : Int := ((upL p c).find? (hasM p name)).getD (-1)
def allC (p : Prg) : List Int := (List.range p.length).map fun k : Nat => (k : Int)
/-- All that are under a class, rising. -/
def downL (p : Prg) (c : Int) : List Int := (allC p).filter fun i => undB p i c
def targL (p : Prg) (c name : Int) : List Int := (((downL p c).map fun i => selF p i name).filter fun s => decide (0 ≤ s)).foldl putL []

theorem find_step {α : Type} (f : α → Bool) (x : α) (l : List α) : (x :: l).find? f = if f x then some x else l.find? f := by
  rw [List.find?_cons]; cases f x <;> rfl
end Pg
end Go.Proofs.Ytdomclicgajihaa

/- Machines as plain data: what a right one is, how one begins; the fields of a class. -/
namespace Go.Proofs.Ytdomclicgajihaa
namespace Pg
open Go.ChangeShapes Go.WideShapes Go.ChangeAt Go.RowKit St Wd

abbrev Vl := Int × Int
structure Ob where
  cls : Int
  flds : List Vl
structure Fr where
  cls : Int
  name : Int
  pos : Int
  stk : List Vl
  loc : List Vl
structure Mc where
  heap : List Ob
  frames : List Fr
  said : List Int
  fin : Int
  code : Int
instance : Inhabited Ob := ⟨⟨0, []⟩⟩
instance : Inhabited Fr := ⟨⟨0, 0, 0, [], []⟩⟩

/-- The fields of a class, from the highest above it on. -/
def fieldsR (p : Prg) : Nat → Int → List Int
  | 0, _ => []
  | f + 1, up => if up < 0 then [] else match p[up.toNat]? with | none => [] | some c => fieldsR p f c.super ++ c.fields
def fieldsF (p : Prg) (t : Int) : List Int := if okP p && (decide (0 ≤ t) && decide (t < (p.length : Int))) then fieldsR p 6 t else []
theorem fieldsR_neg (p : Prg) (f : Nat) {up : Int} (h : up < 0) : fieldsR p f up = [] := by
  cases f with
  | zero => rfl
  | succ f => simp [fieldsR, h]
theorem fieldsR_fuel {p : Prg} {n : Nat} (hs : SupOk p n) : ∀ (f g : Nat) (up : Int), up < (n : Int) → up < (f : Int) → up < (g : Int) → fieldsR p f up = fieldsR p g up := by
  intro f
  induction f with
  | zero => intro g up _ h1 _; rw [fieldsR_neg _ _ (by omega), fieldsR_neg _ _ (by omega)]
  | succ f ih =>
    intro g up hn h1 h2
    by_cases h0 : up < 0
    · rw [fieldsR_neg _ _ h0, fieldsR_neg _ _ h0]
    · cases g with
      | zero => omega
      | succ g =>
        simp only [fieldsR, h0, if_false]
        cases hc : p[up.toNat]? with
        | none => rfl
        | some c =>
          have := hs up.toNat c (by omega) hc
          simp only []
          rw [ih g c.super (by omega) (by omega) (by omega)]
theorem fieldsR_step {p : Prg} {n : Nat} (hs : SupOk p n) {u : Nat} (hu : u < n) (h6 : u < 6) {c : Cls} (hc : p[u]? = some c) : fieldsR p 6 (u : Int) = fieldsR p 6 c.super ++ c.fields := by
  have h0 : ¬ (u : Int) < 0 := by omega
  have := hs u c hu hc
  have e : fieldsR p 5 c.super = fieldsR p 6 c.super := fieldsR_fuel hs 5 6 c.super (by omega) (by omega) (by omega)
  show (if (u : Int) < 0 then [] else match p[(u : Int).toNat]? with | none => [] | some c => fieldsR p 5 c.super ++ c.fields) = _
  rw [if_neg h0, Int.toNat_natCast, hc]
  simp only []
  rw [e]
theorem fieldsR_len {p : Prg} {n : Nat} (hs : SupOk p n) (h6 : n ≤ 6) (hn : n ≤ p.length) (h4 : ∀ j c, j < n → p[j]? = some c → c.fields.length ≤ 4) : ∀ (k : Nat) (up : Int), up < (k : Int) → up < (n : Int) → (fieldsR p 6 up).length ≤ 4 * k := by
  intro k
  induction k with
  | zero => intro up h _; rw [fieldsR_neg _ _ (by omega)]; simp
  | succ k ih =>
    intro up hk hu
    by_cases h0 : up < 0
    · rw [fieldsR_neg _ _ h0]; simp
    · obtain ⟨u, rfl⟩ := Int.eq_ofNat_of_zero_le (show 0 ≤ up by omega)
      have hc := List.getElem?_eq_getElem (show u < p.length by omega)
      have h1 := hs u _ (by omega) hc
      have h2 := h4 u _ (by omega) hc
      rw [fieldsR_step hs (by omega) (by omega) hc, List.length_append]
      have := ih p[u].super (by omega) (by omega)
      omega
theorem okP_sup {p : Prg} (h : okP p = true) : SupOk p p.length := SupOk.of fun _ hi => okP_at h hi
theorem okP_four {p : Prg} (h : okP p = true) : ∀ j c, j < p.length → p[j]? = some c → c.fields.length ≤ 4 := fun _ _ hj hc => (okC_few (by rw [← okAt_of hc]; exact okP_at h hj)).1

def frmV (l : List Vl) : List Vl := l ++ List.replicate (8 - l.length) (1, 0)
theorem frmV_len {l : List Vl} (h : l.length ≤ 8) : (frmV l).length = 8 := by simp [frmV]; omega
def valF (t : Int) : Vl := if t = -1 then (1, 0) else (3, 0)
def startM (p : Prg) : Mc := ⟨[⟨0, (fieldsR p 6 0).map valF⟩], [⟨0, 0, 0, [], frmV [(2, 0)]⟩], [], 0, 0⟩
def valB (x : Vl) : Bool := if x.1 = 1 then okB x.2 else if x.1 = 2 then decide (0 ≤ x.2) else decide (x.1 = 3) && decide (x.2 = 0)
def obB (x : Ob) : Bool := decide (x.flds.length ≤ 24) && x.flds.all valB
def frB (x : Fr) : Bool := decide (x.stk.length ≤ 8) && decide (x.loc.length = 8) && x.stk.all valB && x.loc.all valB
def machB (m : Mc) : Bool := decide (0 ≤ m.fin) && decide (m.fin ≤ 6) && !(decide (m.fin = 0) && decide (m.frames.length = 0)) && decide (m.heap.length ≤ 50) && decide (m.frames.length ≤ 30) && decide (m.said.length ≤ 20000) && m.heap.all obB && m.frames.all frB && m.said.all okB
def zeroM : Mc := ⟨[], [], [], 0, 0⟩
def startF (p : Prg) : Mc × Bool := if okP p then (startM p, true) else (zeroM, false)
end Pg
end Go.Proofs.Ytdomclicgajihaa

/- Contracts of both sides' account of the fields of a class. -/
namespace Go.Proofs.Ytdomclicgajihaa
namespace Pg
open Go.ChangeShapes Go.WideShapes Go.ChangeAt Go.RowKit St

end Pg
end Go.Proofs.Ytdomclicgajihaa
