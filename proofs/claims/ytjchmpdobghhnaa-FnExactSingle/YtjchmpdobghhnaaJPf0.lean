/- The laws' own marking of methods, classes and programs: what it writes, to the number. -/
import Derived.Test.YtjchmpdobghhnaaJZa1
import Derived.Test.YtjchmpdobghhnaaJPg3
import Derived.Deep.RegionLaw
namespace Go.Proofs.Ytjchmpdobghhnaa
namespace Pg
open Go.ChangeShapes Go.WideShapes Go.ChangeAt Go.RowKit St

theorem ex_four {p0 p2 : Addr} {LB LD : List Addr} {q q1 q2 q3 : Nat} {u w1 w2 w3 w4 : World} (hn : (p0 :: (LB ++ p2 :: LD)).Nodup) (hl : ∀ p ∈ p0 :: (LB ++ p2 :: LD), p.block < u.heap.size)
    (A : Ex [p0] q u w1) (B : Ex LB q1 w1 w2) (C : Ex [p2] q2 w2 w3) (D : Ex LD q3 w3 w4) (e1 : q1 = q + 1) (e2 : q2 = q1 + LB.length) (e3 : q3 = q2 + 1) (s1 : u.heap.size ≤ w1.heap.size) (s2 : u.heap.size ≤ w2.heap.size) (s3 : u.heap.size ≤ w3.heap.size) : Ex (p0 :: (LB ++ p2 :: LD)) q u w4 := by
  rw [List.nodup_cons, List.nodup_append, List.nodup_cons] at hn
  obtain ⟨n0, _, ⟨n2, _⟩, n3⟩ := hn
  have hAB := A.app B (by simpa using e1) (fun p hp hq => by simp at hp; subst hp; exact n0 (List.mem_append.2 (.inl hq))) (fun p hp => by simp at hp; subst hp; exact hl _ (by simp)) s1
  have hABC := hAB.app C (by simp; omega) (fun p hp hq => by
    simp at hq
    subst hq
    rcases List.mem_append.1 hp with h | h
    · simp at h; subst h; exact n0 (List.mem_append.2 (.inr List.mem_cons_self))
    · exact n3 _ h _ List.mem_cons_self rfl) (fun p hp => hl p (by
      rcases List.mem_append.1 hp with h | h
      · simp at h; subst h; exact List.mem_cons_self
      · exact List.mem_cons_of_mem _ (List.mem_append.2 (.inl h)))) s2
  have hall := hABC.app D (by simp; omega) (fun p hp hq => by
    rcases List.mem_append.1 hp with h | h
    · rcases List.mem_append.1 h with h | h
      · simp at h; subst h; exact n0 (List.mem_append.2 (.inr (List.mem_cons_of_mem _ hq)))
      · exact n3 _ h _ (List.mem_cons_of_mem _ hq) rfl
    · simp at h; subst h; exact n2 hq) (fun p hp => hl p (by
      rcases List.mem_append.1 hp with h | h
      · rcases List.mem_append.1 h with h | h
        · simp at h; subst h; exact List.mem_cons_self
        · exact List.mem_cons_of_mem _ (List.mem_append.2 (.inl h))
      · simp at h; subst h; exact List.mem_cons_of_mem _ (List.mem_append.2 (.inr List.mem_cons_self)))) s3
  have e : ([p0] ++ LB ++ [p2] ++ LD) = p0 :: (LB ++ p2 :: LD) := by simp
  rw [e] at hall
  exact hall
theorem slice_eq {B1 B2 : Nat} {u v : World} (hm : Mrk B1 B2 u v) {p : Addr} {a a' : Option Addr} {n n' c c' : Nat} (h : u.cell? p = some (.slice a n c)) (h' : v.cell? p = some (.slice a' n' c')) : cellD u p = .slice a' n' c' := by
  have := hm.slice h
  rw [h'] at this
  unfold cellD
  rw [h]
  exact (Option.some.inj this).symm
theorem adMl_nodup {w : World} {b o : Nat} {ms : List Meth} {k : Nat} (hk : k < ms.length) (h : (adMl w b o ms).Nodup) : (adMl w b o (ms.take k) ++ adM w b (o + k * 4) ms[k]).Nodup := by
  rw [← adMl_take w b o hk]
  have e : ms = ms.take (k + 1) ++ ms.drop (k + 1) := (List.take_append_drop _ _).symm
  rw [e, adMl_app] at h
  exact (List.nodup_append.1 h).1
/-- All addresses of the first methods are numbers. -/
theorem adMl_num {C1 C2 : Nat} {w : World} {b o : Nat} {ms : List Meth} (h : ∀ j x, ms[j]? = some x → ShMat C1 C2 w b (o + j * 4) x) : (adMl w b o ms).length = cntMs ms ∧ ∀ p ∈ adMl w b o ms, NumW w p := by
  induction ms generalizing o with
  | nil => exact ⟨rfl, fun p hp => by simp [adMl] at hp⟩
  | cons m ms ih =>
    obtain ⟨l1, n1⟩ := adM_of (h 0 m rfl)
    have := ih (o := o + 4) (fun j x hj => by
      have := h (j + 1) x (by simpa using hj)
      rw [show o + (j + 1) * 4 = o + 4 + j * 4 by omega] at this
      exact this)
    rw [Nat.zero_mul, Nat.add_zero] at l1 n1
    refine ⟨?_, fun p hp => ?_⟩
    · simp only [adMl, List.length_append, l1, this.1]
      simp [cntMs, sumN]
    · rcases List.mem_append.1 hp with hp | hp
      · exact n1 p hp
      · exact this.2 p hp

set_option maxRecDepth 100000 in
set_option maxHeartbeats 2000000 in
theorem markMethodsE (B1 B2 : Nat) (a : Option Addr) (cap q : Nat) (ms : List Meth) (hn : ms.length ≤ 1048576) (hq : q + cntMs ms ≤ 4000000) (w : World) (hs : ShM B1 B2 w (.slice a ms.length cap) ms) (hnd : (adMs w (.slice a ms.length cap) ms).Nodup) :
    Calls Try.prog 42 #[.slice a ms.length cap, .int .i64 q] w fun e w' => e = .returned (.int .i64 ((q + cntMs ms : Nat) : Int)) ∧ Mrk B1 B2 w w' ∧ Ex (adMs w (.slice a ms.length cap) ms) q w w' := by
  have HS : Hid (ShM B1 B2 w (.slice a ms.length cap) ms) := hs
  have HND : Hid (adMs w (.slice a ms.length cap) ms).Nodup := hnd
  clear hs hnd
  go_enter Try.func42, Try.ntmps42
  go_wp2
  go_loopw [1, 5] (fun v i wr => ∃ k c : Nat, k ≤ ms.length ∧ i = .int .i64 k ∧ v = .int .i64 c ∧ Hid (c = q + cntMs (ms.take k)) ∧ Hid (Mrk B1 B2 w wr) ∧ Hid (Ex (adMs w (.slice a ms.length cap) (ms.take k)) q w wr)) (fun _ i _ => ms.length - (intOf i).toNat)
  case atStart => exact ⟨0, q, Nat.zero_le _, rfl, rfl, by show _ = _; simp [cntMs, sumN], Mrk.refl _ _ _, by
    show Ex _ _ _ _
    have e : adMs w (.slice a ms.length cap) (ms.take 0) = [] := by rw [List.take_zero]; unfold adMs; split <;> rfl
    rw [e]; exact Ex.nil _ _⟩
  case round =>
    obtain ⟨k, c, hk, rfl, rfl, hc, hon, hex⟩ := hrel
    by_cases hlt : k < ms.length
    · have hki : (k : Int) < (ms.length : Int) := by omega
      have HST : Hid (cntMs (ms.take (k + 1)) = cntMs (ms.take k) + cntM ms[k]) := cnt_step hlt
      have hbd : c + cntM ms[k] ≤ 4000000 := by
        have h1 := HST.out
        have h2 := cnt_take ms (k + 1)
        have h3 := hc.out
        omega
      have HS0 : Hid (ShM B1 B2 wr (.slice a ms.length cap) ms) := HS.out.mrk hon.out
      obtain ⟨b, o, rfl, h1, h2, va0, vc0, ⟨⟨x0, d0⟩, f0⟩, _⟩ := HS0.out.at hlt
      have HAT : Hid (∀ u, Mrk B1 B2 wr u → ShMat B1 B2 u b (o + k * 4) ms[k]) := fun u hu => by
        obtain ⟨b', o', he, _, _, hm⟩ := (HS0.out.mrk hu).at hlt
        simp at he
        obtain ⟨rfl, rfl⟩ := he
        exact hm
      have HALL : Hid (∀ j x, ms[j]? = some x → ShMat B1 B2 w b (o + j * 4) x) := fun j x hj => by
        obtain ⟨hjl, rfl⟩ := List.getElem?_eq_some_iff.1 hj
        obtain ⟨b', o', he, _, _, hm⟩ := HS.out.at hjl
        simp at he
        obtain ⟨rfl, rfl⟩ := he
        exact hm
      have HNK : Hid (adMl w b o (ms.take k) ++ adM w b (o + k * 4) ms[k]).Nodup := adMl_nodup hlt HND.out
      have HTK : Hid (adMl w b o (ms.take (k + 1)) = adMl w b o (ms.take k) ++ adM w b (o + k * 4) ms[k]) := adMl_take w b o hlt
      have HPRE : Hid ((adMl w b o (ms.take k)).length = cntMs (ms.take k) ∧ ∀ p ∈ adMl w b o (ms.take k), p.block < w.heap.size) := by
        have h := adMl_num (ms := ms.take k) (C1 := B1) (C2 := B2) (w := w) (b := b) (o := o) (fun j x hj => by
          rw [List.getElem?_take] at hj
          split at hj
          · exact HALL.out j x hj
          · simp at hj)
        exact ⟨h.1, fun p hp => by obtain ⟨⟨y, hy⟩, _⟩ := h.2 p hp; exact cell_lt hy⟩
      have HADM : Hid (adM wr b (o + k * 4) ms[k] = adM w b (o + k * 4) ms[k] ∧ (adM w b (o + k * 4) ms[k]).length = cntM ms[k] ∧ ∀ p ∈ adM wr b (o + k * 4) ms[k], p.block < wr.heap.size) := by
        have hk0 := HALL.out k _ (List.getElem?_eq_getElem hlt)
        refine ⟨adM_mrk hon.out hk0, (adM_of hk0).1, fun p hp => ?_⟩
        obtain ⟨⟨y, hy⟩, _⟩ := (adM_of (HAT.out wr (Mrk.refl _ _ _))).2 p hp
        exact cell_lt hy
      generalize ms[k] = m at *
      have em : cntM m = 2 + m.args.length + 3 * m.code.length := rfl
      have M1 : Hid (Mrk B1 B2 wr (wr.setCell ⟨b, o + k * 4, none⟩ (.int .i64 c))) := Mrk.set wr (p := ⟨b, o + k * 4, none⟩) h1 h2 d0 c
      have EA : Hid (Ex [⟨b, o + k * 4, none⟩] c wr (wr.setCell ⟨b, o + k * 4, none⟩ (.int .i64 c))) := Ex.one d0 c
      obtain ⟨va, vc, _, c1, _, _, hva, _⟩ := HAT.out _ M1.out
      obtain ⟨a1, y1, rfl⟩ := hva.form
      have HVA : Hid (ShN 1 B1 B2 (wr.setCell ⟨b, o + k * 4, none⟩ (.int .i64 c)) (.slice a1 m.args.length y1) m.args.length) := hva
      have HDA : Hid (cellD wr ⟨b, o + k * 4 + 1, none⟩ = .slice a1 m.args.length y1) := by
        obtain ⟨va', vc', _, c1', _, _, hva', _⟩ := HAT.out wr (Mrk.refl _ _ _)
        obtain ⟨a1', y1', rfl⟩ := hva'.form
        exact slice_eq M1.out c1' c1
      have HLA : Hid ((adN (.slice a1 m.args.length y1) m.args.length).length = m.args.length) := by
        have := (shN_ad hva).1
        rw [Nat.mul_one] at this
        exact this
      clear hva HS0
      go_wp2_with fail
      have e1 : ((c : Int) + 1) = ((c + 1 : Nat) : Int) := by omega
      rw [e1]
      clear e1
      refine (markIntsE B1 B2 a1 y1 (c + 1) m.args.length (by omega) _ HVA.out).mono ?_
      rintro e w2 ⟨rfl, hm2, hx2⟩
      have EB : Hid (Ex (adN (.slice a1 m.args.length y1) m.args.length) (c + 1) (wr.setCell ⟨b, o + k * 4, none⟩ (.int .i64 c)) w2) := hx2
      have M2 : Hid (Mrk B1 B2 wr w2) := M1.out.trans hm2
      have HZ1 : Hid (wr.heap.size ≤ (wr.setCell ⟨b, o + k * 4, none⟩ (.int .i64 c)).heap.size) := M1.out.size
      clear hm2 c1 d0 f0 HVA M1 hx2
      generalize wr.setCell ⟨b, o + k * 4, none⟩ (.int .i64 c) = w1 at *
      obtain ⟨_, _, _, _, ⟨⟨x2, d2⟩, f2⟩, _⟩ := HAT.out _ M2.out
      have EC : Hid (Ex [⟨b, o + k * 4 + 2, none⟩] (c + 1 + m.args.length) w2 (w2.setCell ⟨b, o + k * 4 + 2, none⟩ (.int .i64 ((c + 1 + m.args.length : Nat) : Int)))) := Ex.one d2 _
      have M3 : Hid (Mrk B1 B2 wr (w2.setCell ⟨b, o + k * 4 + 2, none⟩ (.int .i64 ((c + 1 + m.args.length : Nat) : Int)))) := M2.out.trans (Mrk.set w2 (p := ⟨b, o + k * 4 + 2, none⟩) h1 h2 d2 _)
      obtain ⟨va3, vc3, _, _, _, c3, _, hvc⟩ := HAT.out _ M3.out
      obtain ⟨a3, y3, rfl⟩ := hvc.form
      have HVC : Hid (ShN 3 B1 B2 (w2.setCell ⟨b, o + k * 4 + 2, none⟩ (.int .i64 ((c + 1 + m.args.length : Nat) : Int))) (.slice a3 m.code.length y3) m.code.length) := hvc
      have HDC : Hid (cellD wr ⟨b, o + k * 4 + 3, none⟩ = .slice a3 m.code.length y3) := by
        obtain ⟨va', vc', _, _, _, c3', _, hvc'⟩ := HAT.out wr (Mrk.refl _ _ _)
        obtain ⟨a1', y1', rfl⟩ := hvc'.form
        exact slice_eq M3.out c3' c3
      clear hvc
      generalize hcc : c + 1 + m.args.length = cc at *
      have HCC : Hid (c + 1 + m.args.length = cc) := hcc
      have hcc2 : cc ≤ 4000000 := by omega
      have hcc3 : cc + 1 + 3 * m.code.length ≤ 4000000 := by omega
      clear hcc
      go_wp2_with fail
      have e2 : ((cc : Int) + 1) = ((cc + 1 : Nat) : Int) := by omega
      rw [e2]
      clear e2
      refine (markInsnsE B1 B2 a3 y3 (cc + 1) m.code.length hcc3 _ HVC.out).mono ?_
      rintro e w4 ⟨rfl, hm4, hx4⟩
      have M4 : Hid (Mrk B1 B2 w w4) := hon.out.trans (M3.out.trans hm4)
      have HC4 : Hid (cc + 1 + 3 * m.code.length = q + cntMs (ms.take (k + 1))) := by
        show _ = _
        have h1 := HST.out
        have h2 := hc.out
        have h3 := HCC.out
        omega
      have E4 : Hid (Ex (adMs w (.slice (some ⟨b, o, none⟩) ms.length cap) (ms.take (k + 1))) q w w4) := by
        show Ex (adMl w b o (ms.take (k + 1))) q w w4
        rw [HTK.out]
        have eM : adM wr b (o + k * 4) m = ⟨b, o + k * 4, none⟩ :: (adN (.slice a1 m.args.length y1) m.args.length ++ ⟨b, o + k * 4 + 2, none⟩ :: adN (.slice a3 m.code.length y3) (m.code.length * 3)) := by
          unfold adM
          rw [HDA.out, HDC.out]
        obtain ⟨i1, i2, i3⟩ := HADM.out
        obtain ⟨n1, n2, n3⟩ := List.nodup_append.1 HNK.out
        have hw : Ex (adM w b (o + k * 4) m) c wr w4 := by
          rw [← i1, eM] at n2 ⊢
          rw [eM] at i3
          exact ex_four n2 i3 EA.out EB.out EC.out hx4 rfl (by rw [HLA.out]; exact HCC.out.symm) rfl HZ1.out M2.out.size M3.out.size
        refine Ex.app hex.out hw (by rw [HPRE.out.1]; exact hc.out) (fun p hp hq => n3 p hp p hq rfl) HPRE.out.2 hon.out.size
      clear hm4 c3 d2 f2 HVC M2 M3 HAT hon HST hc HCC hx4 EA EB EC HDA HDC HADM HNK HTK HPRE HALL hex HLA HZ1
      generalize cc + 1 + 3 * m.code.length = c5 at *
      go_wp2
      go_roundw
      case rel => exact ⟨k + 1, c5, by omega, by go_num, rfl, HC4.out, M4.out, E4.out⟩
      case measure => simp [intOf]; omega
    · have HKN : Hid (q + cntMs ms = c) := by
        show _ = _
        have h := hc.out
        rw [List.take_of_length_le (by omega)] at h
        exact h.symm
      have HXN : Hid (Ex (adMs w (.slice a ms.length cap) ms) q w wr) := by
        have h := hex.out
        rw [List.take_of_length_le (by omega)] at h
        exact h
      go_wp2
      go_ret
      exact ⟨retI (by rw [HKN.out]), hon.out, HXN.out⟩
end Pg
end Go.Proofs.Ytjchmpdobghhnaa

/- The laws' own marking of classes and programs: what it writes, to the number. -/
namespace Go.Proofs.Ytjchmpdobghhnaa
namespace Pg
open Go.ChangeShapes Go.WideShapes Go.ChangeAt Go.RowKit St

theorem adMl_mrk {B1 B2 C1 C2 : Nat} {u v : World} (hm : Mrk B1 B2 u v) {b : Nat} : ∀ (ms : List Meth) (o : Nat), (∀ j x, ms[j]? = some x → ShMat C1 C2 u b (o + j * 4) x) → adMl v b o ms = adMl u b o ms
  | [], _, _ => rfl
  | m :: ms, o, h => by
    simp only [adMl]
    have h0 := h 0 m rfl
    rw [Nat.zero_mul, Nat.add_zero] at h0
    rw [adM_mrk hm h0, adMl_mrk hm ms (o + 4) (fun j x hj => by
      have := h (j + 1) x (by simpa using hj)
      rw [show o + (j + 1) * 4 = o + 4 + j * 4 by omega] at this
      exact this)]
theorem adMs_mrk {B1 B2 C1 C2 : Nat} {u v : World} (hm : Mrk B1 B2 u v) {x : Value} {ms : List Meth} (h : ShM C1 C2 u x ms) : adMs v x ms = adMs u x ms := by
  obtain ⟨a, cap, rfl, h⟩ := h
  rcases Nat.eq_zero_or_pos ms.length with h0 | h0
  · have e : ms = [] := List.eq_nil_of_length_eq_zero h0
    subst e
    unfold adMs
    split <;> rfl
  · obtain ⟨b, o, rfl, _, _, hx⟩ := h h0
    exact adMl_mrk hm ms o hx
theorem adMs_of {C1 C2 : Nat} {u : World} {x : Value} {ms : List Meth} (h : ShM C1 C2 u x ms) : (adMs u x ms).length = cntMs ms ∧ ∀ p ∈ adMs u x ms, NumW u p := by
  obtain ⟨a, cap, rfl, h⟩ := h
  rcases Nat.eq_zero_or_pos ms.length with h0 | h0
  · have e : ms = [] := List.eq_nil_of_length_eq_zero h0
    subst e
    have e : adMs u (.slice a ([] : List Meth).length cap) [] = [] := by unfold adMs; split <;> rfl
    rw [e]
    exact ⟨rfl, fun p hp => by simp at hp⟩
  · obtain ⟨b, o, rfl, _, _, hx⟩ := h h0
    exact adMl_num hx
theorem adC_mrk {B1 B2 C1 C2 : Nat} {u v : World} (hm : Mrk B1 B2 u v) {b o : Nat} {c : Cls} (h : ShKat C1 C2 u b o c) : adC v b o c = adC u b o c := by
  obtain ⟨va, vc, _, h1, h3, h4, h5⟩ := h
  have h5' := h5
  obtain ⟨a1, c1, rfl⟩ := h4.form
  obtain ⟨a2, c2, rfl⟩ := h5.form
  unfold adC
  rw [(cellD_mrk hm h1 ⟨_, _, _, rfl⟩).1, (cellD_mrk hm h1 ⟨_, _, _, rfl⟩).2, (cellD_mrk hm h3 ⟨_, _, _, rfl⟩).1, (cellD_mrk hm h3 ⟨_, _, _, rfl⟩).2, adMs_mrk hm h5']
theorem adC_of {C1 C2 : Nat} {u : World} {b o : Nat} {c : Cls} (h : ShKat C1 C2 u b o c) : (adC u b o c).length = cntC c ∧ ∀ p ∈ adC u b o c, NumW u p := by
  obtain ⟨va, vc, h0, h1, h2, h4, h5⟩ := h
  have e1 : cellD u ⟨b, o + 1, none⟩ = va := by unfold cellD; rw [h1]; rfl
  have e2 : cellD u ⟨b, o + 2, none⟩ = vc := by unfold cellD; rw [h2]; rfl
  obtain ⟨l4, n4⟩ := shN_ad h4
  obtain ⟨l5, n5⟩ := adMs_of h5
  rw [Nat.mul_one] at l4 n4
  unfold adC cntC
  rw [e1, e2]
  refine ⟨by simp only [List.length_cons, List.length_append, l4, l5]; omega, fun p hp => ?_⟩
  simp only [List.mem_cons, List.mem_append] at hp
  rcases hp with rfl | hp | hp
  · exact h0
  · exact n4 p hp
  · exact n5 p hp
theorem ex_three {p0 : Addr} {LB LD : List Addr} {q q1 q3 : Nat} {u w1 w2 w4 : World} (hn : (p0 :: (LB ++ LD)).Nodup) (hl : ∀ p ∈ p0 :: (LB ++ LD), p.block < u.heap.size)
    (A : Ex [p0] q u w1) (B : Ex LB q1 w1 w2) (D : Ex LD q3 w2 w4) (e1 : q1 = q + 1) (e3 : q3 = q1 + LB.length) (s1 : u.heap.size ≤ w1.heap.size) (s2 : u.heap.size ≤ w2.heap.size) : Ex (p0 :: (LB ++ LD)) q u w4 := by
  rw [List.nodup_cons, List.nodup_append] at hn
  obtain ⟨n0, _, _, n3⟩ := hn
  have hAB := A.app B (by simpa using e1) (fun p hp hq => by simp at hp; subst hp; exact n0 (List.mem_append.2 (.inl hq))) (fun p hp => by simp at hp; subst hp; exact hl _ (by simp)) s1
  have hall := hAB.app D (by simp; omega) (fun p hp hq => by
    rcases List.mem_append.1 hp with h | h
    · simp at h; subst h; exact n0 (List.mem_append.2 (.inr hq))
    · exact n3 _ h _ hq rfl) (fun p hp => hl p (by
      rcases List.mem_append.1 hp with h | h
      · simp at h; subst h; exact List.mem_cons_self
      · exact List.mem_cons_of_mem _ (List.mem_append.2 (.inl h)))) s2
  have e : ([p0] ++ LB ++ LD) = p0 :: (LB ++ LD) := by simp
  rw [e] at hall
  exact hall
theorem adCl_nodup {w : World} {b o : Nat} {ms : List Cls} {k : Nat} (hk : k < ms.length) (h : (adCl w b o ms).Nodup) : (adCl w b o (ms.take k) ++ adC w b (o + k * 3) ms[k]).Nodup := by
  rw [← adCl_take w b o hk]
  have e : ms = ms.take (k + 1) ++ ms.drop (k + 1) := (List.take_append_drop _ _).symm
  rw [e, adCl_app] at h
  exact (List.nodup_append.1 h).1
theorem adCl_num {C1 C2 : Nat} {w : World} {b o : Nat} {ms : List Cls} (h : ∀ j x, ms[j]? = some x → ShKat C1 C2 w b (o + j * 3) x) : (adCl w b o ms).length = cntP ms ∧ ∀ p ∈ adCl w b o ms, NumW w p := by
  induction ms generalizing o with
  | nil => exact ⟨rfl, fun p hp => by simp [adCl] at hp⟩
  | cons m ms ih =>
    obtain ⟨l1, n1⟩ := adC_of (h 0 m rfl)
    have := ih (o := o + 3) (fun j x hj => by
      have := h (j + 1) x (by simpa using hj)
      rw [show o + (j + 1) * 3 = o + 3 + j * 3 by omega] at this
      exact this)
    rw [Nat.zero_mul, Nat.add_zero] at l1 n1
    refine ⟨?_, fun p hp => ?_⟩
    · simp only [adCl, List.length_append, l1, this.1]
      simp [cntP, sumN]
    · rcases List.mem_append.1 hp with hp | hp
      · exact n1 p hp
      · exact this.2 p hp

set_option maxRecDepth 100000 in
set_option maxHeartbeats 2000000 in
theorem markClassesE (B1 B2 : Nat) (a : Option Addr) (cap q : Nat) (ms : Prg) (hsm : SmallP ms) (hq : q + cntP ms ≤ 4000000) (w : World) (hs : ShK B1 B2 w (.slice a ms.length cap) ms) (hnd : (adP w (.slice a ms.length cap) ms).Nodup) :
    Calls Try.prog 23 #[.slice a ms.length cap, .int .i64 q] w fun e w' => e = .returned (.int .i64 ((q + cntP ms : Nat) : Int)) ∧ Mrk B1 B2 w w' ∧ Ex (adP w (.slice a ms.length cap) ms) q w w' := by
  have HS : Hid (ShK B1 B2 w (.slice a ms.length cap) ms) := hs
  have HND : Hid (adP w (.slice a ms.length cap) ms).Nodup := hnd
  have hn := hsm.1
  have HSM : Hid (SmallP ms) := hsm
  clear hs hsm hnd
  go_enter Try.func23, Try.ntmps23
  go_wp2
  go_loopw [1, 5] (fun v i wr => ∃ k c : Nat, k ≤ ms.length ∧ i = .int .i64 k ∧ v = .int .i64 c ∧ Hid (c = q + cntP (ms.take k)) ∧ Hid (Mrk B1 B2 w wr) ∧ Hid (Ex (adP w (.slice a ms.length cap) (ms.take k)) q w wr)) (fun _ i _ => ms.length - (intOf i).toNat)
  case atStart => exact ⟨0, q, Nat.zero_le _, rfl, rfl, by show _ = _; simp [cntP, sumN], Mrk.refl _ _ _, by
    show Ex _ _ _ _
    have e : adP w (.slice a ms.length cap) (ms.take 0) = [] := by rw [List.take_zero]; unfold adP; split <;> rfl
    rw [e]; exact Ex.nil _ _⟩
  case round =>
    obtain ⟨k, c, hk, rfl, rfl, hc, hon, hex⟩ := hrel
    by_cases hlt : k < ms.length
    · have hki : (k : Int) < (ms.length : Int) := by omega
      have HST : Hid (cntP (ms.take (k + 1)) = cntP (ms.take k) + cntC ms[k]) := cntP_step hlt
      have hbd : c + cntC ms[k] ≤ 4000000 := by
        have h1 := HST.out
        have h2 := cntP_take ms (k + 1)
        have h3 := hc.out
        omega
      have hml := (HSM.out.2 _ (List.getElem_mem hlt)).2.1
      have HS0 : Hid (ShK B1 B2 wr (.slice a ms.length cap) ms) := HS.out.mrk hon.out
      obtain ⟨b, o, rfl, h1, h2, va0, vc0, ⟨⟨x0, d0⟩, f0⟩, _⟩ := HS0.out.at hlt
      have HAT : Hid (∀ u, Mrk B1 B2 wr u → ShKat B1 B2 u b (o + k * 3) ms[k]) := fun u hu => by
        obtain ⟨b', o', he, _, _, hm⟩ := (HS0.out.mrk hu).at hlt
        simp at he
        obtain ⟨rfl, rfl⟩ := he
        exact hm
      have HALL : Hid (∀ j x, ms[j]? = some x → ShKat B1 B2 w b (o + j * 3) x) := fun j x hj => by
        obtain ⟨hjl, rfl⟩ := List.getElem?_eq_some_iff.1 hj
        obtain ⟨b', o', he, _, _, hm⟩ := HS.out.at hjl
        simp at he
        obtain ⟨rfl, rfl⟩ := he
        exact hm
      have HNK : Hid (adCl w b o (ms.take k) ++ adC w b (o + k * 3) ms[k]).Nodup := adCl_nodup hlt HND.out
      have HTK : Hid (adCl w b o (ms.take (k + 1)) = adCl w b o (ms.take k) ++ adC w b (o + k * 3) ms[k]) := adCl_take w b o hlt
      have HPRE : Hid ((adCl w b o (ms.take k)).length = cntP (ms.take k) ∧ ∀ p ∈ adCl w b o (ms.take k), p.block < w.heap.size) := by
        have h := adCl_num (ms := ms.take k) (C1 := B1) (C2 := B2) (w := w) (b := b) (o := o) (fun j x hj => by
          rw [List.getElem?_take] at hj
          split at hj
          · exact HALL.out j x hj
          · simp at hj)
        exact ⟨h.1, fun p hp => by obtain ⟨⟨y, hy⟩, _⟩ := h.2 p hp; exact cell_lt hy⟩
      have HADM : Hid (adC wr b (o + k * 3) ms[k] = adC w b (o + k * 3) ms[k] ∧ (adC w b (o + k * 3) ms[k]).length = cntC ms[k] ∧ ∀ p ∈ adC wr b (o + k * 3) ms[k], p.block < wr.heap.size) := by
        have hk0 := HALL.out k _ (List.getElem?_eq_getElem hlt)
        refine ⟨adC_mrk hon.out hk0, (adC_of hk0).1, fun p hp => ?_⟩
        obtain ⟨⟨y, hy⟩, _⟩ := (adC_of (HAT.out wr (Mrk.refl _ _ _))).2 p hp
        exact cell_lt hy
      generalize ms[k] = m at *
      have em : cntC m = 1 + m.fields.length + cntMs m.meths := rfl
      have M1 : Hid (Mrk B1 B2 wr (wr.setCell ⟨b, o + k * 3, none⟩ (.int .i64 c))) := Mrk.set wr (p := ⟨b, o + k * 3, none⟩) h1 h2 d0 c
      have EA : Hid (Ex [⟨b, o + k * 3, none⟩] c wr (wr.setCell ⟨b, o + k * 3, none⟩ (.int .i64 c))) := Ex.one d0 c
      obtain ⟨va, vc, _, c1, _, hva, _⟩ := HAT.out _ M1.out
      obtain ⟨a1, y1, rfl⟩ := hva.form
      have HVA : Hid (ShN 1 B1 B2 (wr.setCell ⟨b, o + k * 3, none⟩ (.int .i64 c)) (.slice a1 m.fields.length y1) m.fields.length) := hva
      have HDA : Hid (cellD wr ⟨b, o + k * 3 + 1, none⟩ = .slice a1 m.fields.length y1) := by
        obtain ⟨va', vc', _, c1', _, hva', _⟩ := HAT.out wr (Mrk.refl _ _ _)
        obtain ⟨a1', y1', rfl⟩ := hva'.form
        exact slice_eq M1.out c1' c1
      have HLA : Hid ((adN (.slice a1 m.fields.length y1) m.fields.length).length = m.fields.length) := by
        have := (shN_ad hva).1
        rw [Nat.mul_one] at this
        exact this
      clear hva HS0
      go_wp2_with fail
      have e1 : ((c : Int) + 1) = ((c + 1 : Nat) : Int) := by omega
      rw [e1]
      clear e1
      refine (markIntsE B1 B2 a1 y1 (c + 1) m.fields.length (by omega) _ HVA.out).mono ?_
      rintro e w2 ⟨rfl, hm2, hx2⟩
      have EB : Hid (Ex (adN (.slice a1 m.fields.length y1) m.fields.length) (c + 1) (wr.setCell ⟨b, o + k * 3, none⟩ (.int .i64 c)) w2) := hx2
      have M2 : Hid (Mrk B1 B2 wr w2) := M1.out.trans hm2
      have HZ1 : Hid (wr.heap.size ≤ (wr.setCell ⟨b, o + k * 3, none⟩ (.int .i64 c)).heap.size) := M1.out.size
      clear hm2 c1 d0 f0 HVA M1 hx2
      generalize wr.setCell ⟨b, o + k * 3, none⟩ (.int .i64 c) = w1 at *
      obtain ⟨va3, vc3, _, _, c3, _, hvc⟩ := HAT.out _ M2.out
      obtain ⟨a3, y3, rfl⟩ := hvc.form
      have HVC : Hid (ShM B1 B2 w2 (.slice a3 m.meths.length y3) m.meths) := hvc
      have HDC : Hid (cellD wr ⟨b, o + k * 3 + 2, none⟩ = .slice a3 m.meths.length y3 ∧ adMs w2 (.slice a3 m.meths.length y3) m.meths = adMs wr (.slice a3 m.meths.length y3) m.meths) := by
        obtain ⟨va', vc', _, _, c3', _, hvc'⟩ := HAT.out wr (Mrk.refl _ _ _)
        obtain ⟨a1', y1', rfl⟩ := hvc'.form
        have e := slice_eq M2.out c3' c3
        refine ⟨e, ?_⟩
        have e' : Value.slice a1' m.meths.length y1' = .slice a3 m.meths.length y3 := by rw [← e]; unfold cellD; rw [c3']; rfl
        rw [e'] at hvc'
        exact adMs_mrk M2.out hvc'
      have HNM : Hid (adMs w2 (.slice a3 m.meths.length y3) m.meths).Nodup := by
        obtain ⟨i1, _⟩ := HADM.out
        obtain ⟨_, n2, _⟩ := List.nodup_append.1 HNK.out
        rw [← i1] at n2
        unfold adC at n2
        rw [HDC.out.1] at n2
        show List.Nodup _
        rw [HDC.out.2]
        exact (List.nodup_append.1 (List.nodup_cons.1 n2).2).2.1
      clear hvc
      generalize hcc : c + 1 + m.fields.length = cc at *
      have HCC : Hid (c + 1 + m.fields.length = cc) := hcc
      have hcc3 : cc + cntMs m.meths ≤ 4000000 := by omega
      clear hcc
      go_wp2_with fail
      refine (markMethodsE B1 B2 a3 y3 cc m.meths hml hcc3 _ HVC.out HNM.out).mono ?_
      rintro e w4 ⟨rfl, hm4, hx4⟩
      have M4 : Hid (Mrk B1 B2 w w4) := hon.out.trans (M2.out.trans hm4)
      have HC4 : Hid (cc + cntMs m.meths = q + cntP (ms.take (k + 1))) := by
        show _ = _
        have h1 := HST.out
        have h2 := hc.out
        have h3 := HCC.out
        omega
      have E4 : Hid (Ex (adP w (.slice (some ⟨b, o, none⟩) ms.length cap) (ms.take (k + 1))) q w w4) := by
        show Ex (adCl w b o (ms.take (k + 1))) q w w4
        rw [HTK.out]
        have eM : adC wr b (o + k * 3) m = ⟨b, o + k * 3, none⟩ :: (adN (.slice a1 m.fields.length y1) m.fields.length ++ adMs wr (.slice a3 m.meths.length y3) m.meths) := by
          unfold adC
          rw [HDA.out, HDC.out.1]
        obtain ⟨i1, i2, i3⟩ := HADM.out
        obtain ⟨n1, n2, n3⟩ := List.nodup_append.1 HNK.out
        rw [HDC.out.2] at hx4
        have hw : Ex (adC w b (o + k * 3) m) c wr w4 := by
          rw [← i1, eM] at n2 ⊢
          rw [eM] at i3
          exact ex_three n2 i3 EA.out EB.out hx4 rfl (by rw [HLA.out]; exact HCC.out.symm) HZ1.out M2.out.size
        refine Ex.app hex.out hw (by rw [HPRE.out.1]; exact hc.out) (fun p hp hq => n3 p hp p hq rfl) HPRE.out.2 hon.out.size
      clear hm4 c3 HVC M2 HAT hon HST hc HCC hx4 EA EB HDA HDC HADM HNK HTK HPRE HALL hex HLA HZ1 HNM
      generalize cc + cntMs m.meths = c5 at *
      go_wp2
      go_roundw
      case rel => exact ⟨k + 1, c5, by omega, by go_num, rfl, HC4.out, M4.out, E4.out⟩
      case measure => simp [intOf]; omega
    · have HKN : Hid (q + cntP ms = c) := by
        show _ = _
        have h := hc.out
        rw [List.take_of_length_le (by omega)] at h
        exact h.symm
      have HXN : Hid (Ex (adP w (.slice a ms.length cap) ms) q w wr) := by
        have h := hex.out
        rw [List.take_of_length_le (by omega)] at h
        exact h
      go_wp2
      go_ret
      exact ⟨retI (by rw [HKN.out]), hon.out, HXN.out⟩
theorem adP_mrk {B1 B2 C1 C2 : Nat} {u v : World} (hm : Mrk B1 B2 u v) {x : Value} {ms : Prg} (h : ShK C1 C2 u x ms) : adP v x ms = adP u x ms := by
  obtain ⟨a, cap, rfl, h⟩ := h
  rcases Nat.eq_zero_or_pos ms.length with h0 | h0
  · have e : ms = [] := List.eq_nil_of_length_eq_zero h0
    subst e
    unfold adP
    split <;> rfl
  · obtain ⟨b, o, rfl, _, _, hx⟩ := h h0
    show adCl v b o ms = adCl u b o ms
    clear h h0
    induction ms generalizing o with
    | nil => rfl
    | cons c cs ih =>
      simp only [adCl]
      have h0 := hx 0 c rfl
      rw [Nat.zero_mul, Nat.add_zero] at h0
      rw [adC_mrk hm h0, ih (o + 3) (fun j x hj => by
        have := hx (j + 1) x (by simpa using hj)
        rw [show o + (j + 1) * 3 = o + 3 + j * 3 by omega] at this
        exact this)]
theorem adP_of {C1 C2 : Nat} {u : World} {x : Value} {ms : Prg} (h : ShK C1 C2 u x ms) : (adP u x ms).length = cntP ms ∧ ∀ p ∈ adP u x ms, NumW u p := by
  obtain ⟨a, cap, rfl, h⟩ := h
  rcases Nat.eq_zero_or_pos ms.length with h0 | h0
  · have e : ms = [] := List.eq_nil_of_length_eq_zero h0
    subst e
    have e : adP u (.slice a ([] : Prg).length cap) [] = [] := by unfold adP; split <;> rfl
    rw [e]
    exact ⟨rfl, fun p hp => by simp at hp⟩
  · obtain ⟨b, o, rfl, _, _, hx⟩ := h h0
    exact adCl_num hx
set_option maxHeartbeats 1000000 in
theorem markProgramE (B1 B2 : Nat) (a : Option Addr) (cap : Nat) (p : Prg) (hsz : szP p ≤ 1048576) (w : World) (hs : ShK B1 B2 w (.slice a p.length cap) p) (hnd : (adP w (.slice a p.length cap) p).Nodup) :
    Calls Try.prog 9 #[.agg #[.slice a p.length cap], .int .i64 1] w fun e w' => e = .returned (.int .i64 ((1 + cntP p : Nat) : Int)) ∧ Mrk B1 B2 w w' ∧ Ex (adP w (.slice a p.length cap) p) 1 w w' := by
  have HS : Hid (ShK B1 B2 w (.slice a p.length cap) p) := hs
  have HSM : Hid (SmallP p) := SmallP.of hsz
  have hc : 1 + cntP p ≤ 4000000 := by have := cntP_le p; omega
  obtain ⟨W, hW⟩ : ∃ W, W = w.alloc (.cells #[.slice a p.length cap] 28) := ⟨_, rfl⟩
  have hwW : Below w.heap.size w W := by rw [hW]; exact (Below.refl _ _).alloc (Nat.le_refl _) _
  have MW : Hid (Mrk B1 B2 w W) := Mrk.of hwW
  have EW : Hid (Ex [] 1 w W) := Ex.of 1 hwW
  have HADP : Hid (adP W (.slice a p.length cap) p = adP w (.slice a p.length cap) p) := adP_mrk MW.out hs
  have HND : Hid (adP W (.slice a p.length cap) p).Nodup := by show List.Nodup _; rw [HADP.out]; exact hnd
  clear hs hnd
  go_enter Try.func9, Try.ntmps9
  go_wp2_with fail
  rw [← hW]
  clear hW
  refine (markClassesE B1 B2 a cap 1 p HSM.out hc _ (HS.out.mrk MW.out) HND.out).mono ?_
  rintro e w1 ⟨rfl, hm1, hx1⟩
  have M1 : Hid (Mrk B1 B2 w w1) := MW.out.trans hm1
  have E1 : Hid (Ex (adP w (.slice a p.length cap) p) 1 w w1) := by
    rw [HADP.out] at hx1
    have := EW.out.app hx1 rfl (fun p hp => by simp at hp) (fun p hp => by simp at hp) MW.out.size
    rw [List.nil_append] at this
    exact this
  clear hm1 hx1
  generalize hc5 : 1 + cntP p = c5 at *
  have HC5 : Hid (1 + cntP p = c5) := hc5
  clear hc5
  go_wp2
  go_ret
  exact ⟨retI (by rw [HC5.out]), M1.out, E1.out⟩
end Pg
end Go.Proofs.Ytjchmpdobghhnaa

/- What has been marked is held: the laws' own look at a program's numbers. -/
namespace Go.Proofs.Ytjchmpdobghhnaa
namespace Pg
open Go.ChangeShapes Go.WideShapes Go.ChangeAt Go.RowKit St

/-- The addresses L have numbers from q on. -/
def Hel (w : World) (L : List Addr) (q : Nat) : Prop := ∀ i p, L[i]? = some p → w.cell? p = some (.int .i64 ((q + i : Nat) : Int))
theorem Hel.on {u w : World} {L : List Addr} {q : Nat} (h : Hel u L q) (hb : Below u.heap.size u w) : Hel w L q := fun i p hp => (hb.cell (cell_lt (h i p hp))).trans (h i p hp)
theorem Hel.left {w : World} {L1 L2 : List Addr} {q : Nat} (h : Hel w (L1 ++ L2) q) : Hel w L1 q := fun i p hp => h i p (by rw [List.getElem?_append_left (List.getElem?_eq_some_iff.1 hp).1]; exact hp)
theorem Hel.right {w : World} {L1 L2 : List Addr} {q q' : Nat} (h : Hel w (L1 ++ L2) q) (hq : q' = q + L1.length) : Hel w L2 q' := fun i p hp => by
  have := h (L1.length + i) p (by rw [List.getElem?_append_right (by omega), Nat.add_sub_cancel_left]; exact hp)
  rw [hq, Nat.add_assoc]
  exact this
theorem Hel.head {w : World} {p : Addr} {L : List Addr} {q : Nat} (h : Hel w (p :: L) q) : w.cell? p = some (.int .i64 (q : Int)) := h 0 p rfl
theorem Hel.tail {w : World} {p : Addr} {L : List Addr} {q q' : Nat} (h : Hel w (p :: L) q) (hq : q' = q + 1) : Hel w L q' := fun i r hr => by
  have := h (i + 1) r (by simpa using hr)
  rw [hq, show q + 1 + i = q + (i + 1) by omega]
  exact this

set_option maxRecDepth 100000 in
set_option maxHeartbeats 1000000 in
theorem heldIntsE (B1 B2 : Nat) (a : Option Addr) (cap m n : Nat) (hm : m + n ≤ 4000000) (w : World) (hs : ShN 1 B1 B2 w (.slice a n cap) n) (hh : Hel w (adN (.slice a n cap) n) m) :
    Calls Try.prog 43 #[.slice a n cap, .int .i64 m] w fun e w' => e = .returned (.int .i64 ((m + n : Nat) : Int)) ∧ w' = w := by
  have HS : Hid (ShN 1 B1 B2 w (.slice a n cap) n) := hs
  have HH : Hid (Hel w (adN (.slice a n cap) n) m) := hh
  clear hs hh
  go_enter Try.func43, Try.ntmps43
  go_wp2
  go_loopw [1, 5] (fun q i wr => ∃ k : Nat, k ≤ n ∧ i = .int .i64 k ∧ q = .int .i64 ((m : Int) + (k : Int)) ∧ wr = w) (fun _ i _ => n - (intOf i).toNat)
  case atStart => exact ⟨0, Nat.zero_le _, rfl, by simp, rfl⟩
  case round =>
    obtain ⟨k, hk, rfl, rfl, rfl⟩ := hrel
    by_cases hlt : k < n
    · have hki : (k : Int) < (n : Int) := by omega
      obtain ⟨a', c', he, hx⟩ := HS.out
      injection he with e1 e2 e3
      subst e1
      obtain ⟨b, o, rfl, h1, h2, h3⟩ := hx (by omega)
      have d0 := HH.out k ⟨b, o + k, none⟩ (by rw [adN_at]; simp [hlt])
      rw [show ((m + k : Nat) : Int) = (m : Int) + (k : Int) by omega] at d0
      clear hx h3
      go_wp2
      go_roundw
      case rel => exact ⟨k + 1, by omega, by go_num, by go_num, by simp⟩
      case measure => simp [intOf]; omega
    · obtain rfl : k = n := by omega
      go_wp2
      go_ret
      exact ⟨by push_cast; rfl, rfl⟩
set_option maxRecDepth 100000 in
set_option maxHeartbeats 1000000 in
theorem heldInsnsE (B1 B2 : Nat) (a : Option Addr) (cap m n : Nat) (hm : m + 3 * n ≤ 4000000) (w : World) (hs : ShN 3 B1 B2 w (.slice a n cap) n) (hh : Hel w (adN (.slice a n cap) (n * 3)) m) :
    Calls Try.prog 63 #[.slice a n cap, .int .i64 m] w fun e w' => e = .returned (.int .i64 ((m + 3 * n : Nat) : Int)) ∧ w' = w := by
  have HS : Hid (ShN 3 B1 B2 w (.slice a n cap) n) := hs
  have HH : Hid (Hel w (adN (.slice a n cap) (n * 3)) m) := hh
  clear hs hh
  go_enter Try.func63, Try.ntmps63
  go_wp2
  go_loopw [1, 5] (fun q i wr => ∃ k : Nat, k ≤ n ∧ i = .int .i64 k ∧ q = .int .i64 ((m : Int) + 3 * (k : Int)) ∧ wr = w) (fun _ i _ => n - (intOf i).toNat)
  case atStart => exact ⟨0, Nat.zero_le _, rfl, by simp, rfl⟩
  case round =>
    obtain ⟨k, hk, rfl, rfl, rfl⟩ := hrel
    by_cases hlt : k < n
    · have hki : (k : Int) < (n : Int) := by omega
      obtain ⟨a', c', he, hx⟩ := HS.out
      injection he with e1 e2 e3
      subst e1
      obtain ⟨b, o, rfl, h1, h2, h3⟩ := hx (by omega)
      have d0 := HH.out (k * 3) ⟨b, o + k * 3, none⟩ (by rw [adN_at, List.getElem?_map, List.getElem?_range (by omega)]; simp)
      have d1 := HH.out (k * 3 + 1) ⟨b, o + k * 3 + 1, none⟩ (by rw [adN_at, List.getElem?_map, List.getElem?_range (by omega)]; simp [Nat.add_assoc])
      have d2 := HH.out (k * 3 + 2) ⟨b, o + k * 3 + 2, none⟩ (by rw [adN_at, List.getElem?_map, List.getElem?_range (by omega)]; simp [Nat.add_assoc])
      rw [show ((m + k * 3 : Nat) : Int) = (m : Int) + 3 * (k : Int) by omega] at d0
      rw [show ((m + (k * 3 + 1) : Nat) : Int) = (m : Int) + 3 * (k : Int) + 1 by omega] at d1
      rw [show ((m + (k * 3 + 2) : Nat) : Int) = (m : Int) + 3 * (k : Int) + 1 + 1 by omega] at d2
      clear hx h3
      go_wp2
      go_roundw
      case rel => exact ⟨k + 1, by omega, by go_num, by go_num, by simp⟩
      case measure => simp [intOf]; omega
    · obtain rfl : k = n := by omega
      go_wp2
      go_ret
      exact ⟨by push_cast; rfl, rfl⟩
set_option maxRecDepth 100000 in
set_option maxHeartbeats 2000000 in
theorem heldMethodsE (B1 B2 : Nat) (a : Option Addr) (cap q : Nat) (ms : List Meth) (hn : ms.length ≤ 1048576) (hq : q + cntMs ms ≤ 4000000) (w : World) (hs : ShM B1 B2 w (.slice a ms.length cap) ms) (hh : Hel w (adMs w (.slice a ms.length cap) ms) q) :
    Calls Try.prog 44 #[.slice a ms.length cap, .int .i64 q] w fun e w' => e = .returned (.int .i64 ((q + cntMs ms : Nat) : Int)) ∧ w' = w := by
  have HS : Hid (ShM B1 B2 w (.slice a ms.length cap) ms) := hs
  have HH : Hid (Hel w (adMs w (.slice a ms.length cap) ms) q) := hh
  clear hs hh
  go_enter Try.func44, Try.ntmps44
  go_wp2
  go_loopw [1, 5] (fun v i wr => ∃ k c : Nat, k ≤ ms.length ∧ i = .int .i64 k ∧ v = .int .i64 c ∧ Hid (c = q + cntMs (ms.take k)) ∧ wr = w) (fun _ i _ => ms.length - (intOf i).toNat)
  case atStart => exact ⟨0, q, Nat.zero_le _, rfl, rfl, by show _ = _; simp [cntMs, sumN], rfl⟩
  case round =>
    obtain ⟨k, c, hk, rfl, rfl, hc, rfl⟩ := hrel
    by_cases hlt : k < ms.length
    · have hki : (k : Int) < (ms.length : Int) := by omega
      have HST : Hid (cntMs (ms.take (k + 1)) = cntMs (ms.take k) + cntM ms[k]) := cnt_step hlt
      have hbd : c + cntM ms[k] ≤ 4000000 := by
        have h1 := HST.out
        have h2 := cnt_take ms (k + 1)
        have h3 := hc.out
        omega
      obtain ⟨b, o, rfl, h1, h2, hat⟩ := HS.out.at hlt
      have HALL : Hid (∀ j x, ms[j]? = some x → ShMat B1 B2 wr b (o + j * 4) x) := fun j x hj => by
        obtain ⟨hjl, rfl⟩ := List.getElem?_eq_some_iff.1 hj
        obtain ⟨b', o', he, _, _, hm⟩ := HS.out.at hjl
        simp at he
        obtain ⟨rfl, rfl⟩ := he
        exact hm
      have HSEG : Hid (Hel wr (adM wr b (o + k * 4) ms[k]) c) := by
        have h : Hel wr (adMl wr b o ms) q := HH.out
        have e : ms = ms.take (k + 1) ++ ms.drop (k + 1) := (List.take_append_drop _ _).symm
        rw [e, adMl_app, adMl_take wr b o hlt] at h
        have hlen := (adMl_num (ms := ms.take k) (C1 := B1) (C2 := B2) (w := wr) (b := b) (o := o) (fun j x hj => by
          rw [List.getElem?_take] at hj
          split at hj
          · exact HALL.out j x hj
          · simp at hj)).1
        exact h.left.right (by rw [hlen]; exact hc.out)
      generalize ms[k] = m at *
      have em : cntM m = 2 + m.args.length + 3 * m.code.length := rfl
      obtain ⟨va, vc, ⟨⟨x0, d0'⟩, f0⟩, c1, ⟨⟨x2, d2'⟩, f2⟩, c3, hva, hvc⟩ := hat
      obtain ⟨a1, y1, rfl⟩ := hva.form
      obtain ⟨a3, y3, rfl⟩ := hvc.form
      have HVA : Hid (ShN 1 B1 B2 wr (.slice a1 m.args.length y1) m.args.length) := hva
      have HVC : Hid (ShN 3 B1 B2 wr (.slice a3 m.code.length y3) m.code.length) := hvc
      have HLA : (adN (.slice a1 m.args.length y1) m.args.length).length = m.args.length := by
        have := (shN_ad hva).1
        rw [Nat.mul_one] at this
        exact this
      have hseg := HSEG.out
      unfold adM at hseg
      rw [show cellD wr ⟨b, o + k * 4 + 1, none⟩ = .slice a1 m.args.length y1 by unfold cellD; rw [c1]; rfl, show cellD wr ⟨b, o + k * 4 + 3, none⟩ = .slice a3 m.code.length y3 by unfold cellD; rw [c3]; rfl] at hseg
      have d0 := hseg.head
      have HB : Hid (Hel wr (adN (.slice a1 m.args.length y1) m.args.length) (c + 1)) := (hseg.tail rfl).left
      have hr := (hseg.tail rfl).right (q' := c + 1 + m.args.length) (by rw [HLA])
      have d2 := hr.head
      have HD : Hid (Hel wr (adN (.slice a3 m.code.length y3) (m.code.length * 3)) (c + 1 + m.args.length + 1)) := hr.tail rfl
      clear hva hvc HLA hseg hr d0' d2' HSEG HALL x0 x2
      have hne0 : ((c : Int) != (c : Int)) = false := by simp
      go_wp2_with fail
      have e1 : ((c : Int) + 1) = ((c + 1 : Nat) : Int) := by omega
      rw [e1]
      clear e1
      refine (heldIntsE B1 B2 a1 y1 (c + 1) m.args.length (by omega) _ HVA.out HB.out).mono ?_
      rintro e w2 ⟨rfl, rfl⟩
      generalize hcc : c + 1 + m.args.length = cc at *
      have HCC : Hid (c + 1 + m.args.length = cc) := hcc
      have hcc2 : cc ≤ 4000000 := by omega
      have hcc3 : cc + 1 + 3 * m.code.length ≤ 4000000 := by omega
      have hneg : ¬ (cc : Int) < 0 := by omega
      clear hcc
      go_wp2_with fail
      have e2 : ((cc : Int) + 1) = ((cc + 1 : Nat) : Int) := by omega
      rw [e2]
      clear e2
      refine (heldInsnsE B1 B2 a3 y3 (cc + 1) m.code.length hcc3 _ HVC.out HD.out).mono ?_
      rintro e w4 ⟨rfl, rfl⟩
      have HC4 : Hid (cc + 1 + 3 * m.code.length = q + cntMs (ms.take (k + 1))) := by
        show _ = _
        have h1 := HST.out
        have h2 := hc.out
        have h3 := HCC.out
        omega
      clear HST hc HCC HB HD HVA HVC d0 d2 c1 c3
      generalize cc + 1 + 3 * m.code.length = c5 at *
      have hneg2 : ¬ (c5 : Int) < 0 := by omega
      go_wp2
      go_roundw
      case rel => exact ⟨k + 1, c5, by omega, by go_num, rfl, HC4.out, by simp⟩
      case measure => simp [intOf]; omega
    · have HKN : Hid (q + cntMs ms = c) := by
        show _ = _
        have h := hc.out
        rw [List.take_of_length_le (by omega)] at h
        exact h.symm
      go_wp2
      go_ret
      exact ⟨retI (by rw [HKN.out]), rfl⟩
set_option maxRecDepth 100000 in
set_option maxHeartbeats 2000000 in
theorem heldClassesE (B1 B2 : Nat) (a : Option Addr) (cap q : Nat) (ms : Prg) (hsm : SmallP ms) (hq : q + cntP ms ≤ 4000000) (w : World) (hs : ShK B1 B2 w (.slice a ms.length cap) ms) (hh : Hel w (adP w (.slice a ms.length cap) ms) q) :
    Calls Try.prog 24 #[.slice a ms.length cap, .int .i64 q] w fun e w' => e = .returned (.int .i64 ((q + cntP ms : Nat) : Int)) ∧ w' = w := by
  have HS : Hid (ShK B1 B2 w (.slice a ms.length cap) ms) := hs
  have HH : Hid (Hel w (adP w (.slice a ms.length cap) ms) q) := hh
  have hn := hsm.1
  have HSM : Hid (SmallP ms) := hsm
  clear hs hh hsm
  go_enter Try.func24, Try.ntmps24
  go_wp2
  go_loopw [1, 5] (fun v i wr => ∃ k c : Nat, k ≤ ms.length ∧ i = .int .i64 k ∧ v = .int .i64 c ∧ Hid (c = q + cntP (ms.take k)) ∧ wr = w) (fun _ i _ => ms.length - (intOf i).toNat)
  case atStart => exact ⟨0, q, Nat.zero_le _, rfl, rfl, by show _ = _; simp [cntP, sumN], rfl⟩
  case round =>
    obtain ⟨k, c, hk, rfl, rfl, hc, rfl⟩ := hrel
    by_cases hlt : k < ms.length
    · have hki : (k : Int) < (ms.length : Int) := by omega
      have HST : Hid (cntP (ms.take (k + 1)) = cntP (ms.take k) + cntC ms[k]) := cntP_step hlt
      have hbd : c + cntC ms[k] ≤ 4000000 := by
        have h1 := HST.out
        have h2 := cntP_take ms (k + 1)
        have h3 := hc.out
        omega
      have hml := (HSM.out.2 _ (List.getElem_mem hlt)).2.1
      obtain ⟨b, o, rfl, h1, h2, hat⟩ := HS.out.at hlt
      have HALL : Hid (∀ j x, ms[j]? = some x → ShKat B1 B2 wr b (o + j * 3) x) := fun j x hj => by
        obtain ⟨hjl, rfl⟩ := List.getElem?_eq_some_iff.1 hj
        obtain ⟨b', o', he, _, _, hm⟩ := HS.out.at hjl
        simp at he
        obtain ⟨rfl, rfl⟩ := he
        exact hm
      have HSEG : Hid (Hel wr (adC wr b (o + k * 3) ms[k]) c) := by
        have h : Hel wr (adCl wr b o ms) q := HH.out
        have e : ms = ms.take (k + 1) ++ ms.drop (k + 1) := (List.take_append_drop _ _).symm
        rw [e, adCl_app, adCl_take wr b o hlt] at h
        have hlen := (adCl_num (ms := ms.take k) (C1 := B1) (C2 := B2) (w := wr) (b := b) (o := o) (fun j x hj => by
          rw [List.getElem?_take] at hj
          split at hj
          · exact HALL.out j x hj
          · simp at hj)).1
        exact h.left.right (by rw [hlen]; exact hc.out)
      generalize ms[k] = m at *
      have em : cntC m = 1 + m.fields.length + cntMs m.meths := rfl
      obtain ⟨va, vc, ⟨⟨x0, d0'⟩, f0⟩, c1, c2, hva, hvc⟩ := hat
      obtain ⟨a1, y1, rfl⟩ := hva.form
      obtain ⟨a3, y3, rfl⟩ := hvc.form
      have HVA : Hid (ShN 1 B1 B2 wr (.slice a1 m.fields.length y1) m.fields.length) := hva
      have HVC : Hid (ShM B1 B2 wr (.slice a3 m.meths.length y3) m.meths) := hvc
      have HLA : (adN (.slice a1 m.fields.length y1) m.fields.length).length = m.fields.length := by
        have := (shN_ad hva).1
        rw [Nat.mul_one] at this
        exact this
      have hseg := HSEG.out
      unfold adC at hseg
      rw [show cellD wr ⟨b, o + k * 3 + 1, none⟩ = .slice a1 m.fields.length y1 by unfold cellD; rw [c1]; rfl, show cellD wr ⟨b, o + k * 3 + 2, none⟩ = .slice a3 m.meths.length y3 by unfold cellD; rw [c2]; rfl] at hseg
      have d0 := hseg.head
      have HB : Hid (Hel wr (adN (.slice a1 m.fields.length y1) m.fields.length) (c + 1)) := (hseg.tail rfl).left
      have HD : Hid (Hel wr (adMs wr (.slice a3 m.meths.length y3) m.meths) (c + 1 + m.fields.length)) := (hseg.tail rfl).right (by rw [HLA])
      clear hva hvc HLA hseg d0' HSEG HALL x0
      have hne0 : ((c : Int) != (c : Int)) = false := by simp
      go_wp2_with fail
      have e1 : ((c : Int) + 1) = ((c + 1 : Nat) : Int) := by omega
      rw [e1]
      clear e1
      refine (heldIntsE B1 B2 a1 y1 (c + 1) m.fields.length (by omega) _ HVA.out HB.out).mono ?_
      rintro e w2 ⟨rfl, rfl⟩
      generalize hcc : c + 1 + m.fields.length = cc at *
      have HCC : Hid (c + 1 + m.fields.length = cc) := hcc
      have hcc3 : cc + cntMs m.meths ≤ 4000000 := by omega
      have hneg : ¬ (cc : Int) < 0 := by omega
      clear hcc
      go_wp2_with fail
      refine (heldMethodsE B1 B2 a3 y3 cc m.meths hml hcc3 _ HVC.out HD.out).mono ?_
      rintro e w4 ⟨rfl, rfl⟩
      have HC4 : Hid (cc + cntMs m.meths = q + cntP (ms.take (k + 1))) := by
        show _ = _
        have h1 := HST.out
        have h2 := hc.out
        have h3 := HCC.out
        omega
      clear HST hc HCC HB HD HVA HVC d0 c1 c2
      generalize cc + cntMs m.meths = c5 at *
      have hneg2 : ¬ (c5 : Int) < 0 := by omega
      go_wp2
      go_roundw
      case rel => exact ⟨k + 1, c5, by omega, by go_num, rfl, HC4.out, by simp⟩
      case measure => simp [intOf]; omega
    · have HKN : Hid (q + cntP ms = c) := by
        show _ = _
        have h := hc.out
        rw [List.take_of_length_le (by omega)] at h
        exact h.symm
      go_wp2
      go_ret
      exact ⟨retI (by rw [HKN.out]), rfl⟩
set_option maxHeartbeats 1000000 in
theorem heldProgramE (B1 B2 : Nat) (a : Option Addr) (cap : Nat) (p : Prg) (hsz : szP p ≤ 1048576) (w : World) (hs : ShK B1 B2 w (.slice a p.length cap) p) (hh : Hel w (adP w (.slice a p.length cap) p) 1) :
    Calls Try.prog 10 #[.agg #[.slice a p.length cap], .int .i64 1] w fun e w' => e = .returned (.int .i64 ((1 + cntP p : Nat) : Int)) ∧ Below w.heap.size w w' := by
  have HSM : Hid (SmallP p) := SmallP.of hsz
  have hc : 1 + cntP p ≤ 4000000 := by have := cntP_le p; omega
  obtain ⟨W, hW⟩ : ∃ W, W = w.alloc (.cells #[.slice a p.length cap] 28) := ⟨_, rfl⟩
  have hwW : Below w.heap.size w W := by rw [hW]; exact (Below.refl _ _).alloc (Nat.le_refl _) _
  have HS : Hid (ShK B1 B2 W (.slice a p.length cap) p) := hs.mrk (Mrk.of hwW)
  have HH : Hid (Hel W (adP W (.slice a p.length cap) p) 1) := by
    show Hel _ _ _
    rw [adP_mrk (Mrk.of (B1 := 0) (B2 := 0) hwW) hs]
    exact hh.on hwW
  clear hs hh
  go_enter Try.func10, Try.ntmps10
  go_wp2_with fail
  rw [← hW]
  clear hW
  refine (heldClassesE B1 B2 a cap 1 p HSM.out hc _ HS.out HH.out).mono ?_
  rintro e w1 ⟨rfl, rfl⟩
  generalize hc5 : 1 + cntP p = c5 at *
  have HC5 : Hid (1 + cntP p = c5) := hc5
  have hneg : ¬ (c5 : Int) < 0 := by omega
  clear hc5
  go_wp2
  go_ret
  exact ⟨retI (by rw [HC5.out]), hwW⟩
end Pg
end Go.Proofs.Ytjchmpdobghhnaa

/- Who is above whom, as plain functions of a program. -/
namespace Go.Proofs.Ytjchmpdobghhnaa
namespace Pg
open Go.ChangeShapes Go.WideShapes Go.ChangeAt Go.RowKit St

/-- A class, its Super, and so on. -/
def upF (p : Prg) : Nat → Int → List Int
  | 0, _ => []
  | f + 1, c => if c < 0 then [] else match p[c.toNat]? with | none => [] | some k => c :: upF p f k.super
def upL (p : Prg) (c : Int) : List Int := upF p 6 c
theorem upF_neg (p : Prg) (f : Nat) {c : Int} (h : c < 0) : upF p f c = [] := by
  cases f with
  | zero => rfl
  | succ f => simp [upF, h]
theorem upL_neg (p : Prg) {c : Int} (h : c < 0) : upL p c = [] := upF_neg p 6 h
theorem upF_fuel {p : Prg} {n : Nat} (hs : SupOk p n) : ∀ (f g : Nat) (up : Int), up < (n : Int) → up < (f : Int) → up < (g : Int) → upF p f up = upF p g up := by
  intro f
  induction f with
  | zero => intro g up _ h1 _; rw [upF_neg _ _ (by omega), upF_neg _ _ (by omega)]
  | succ f ih =>
    intro g up hn h1 h2
    by_cases h0 : up < 0
    · rw [upF_neg _ _ h0, upF_neg _ _ h0]
    · cases g with
      | zero => omega
      | succ g =>
        simp only [upF, h0, if_false]
        cases hc : p[up.toNat]? with
        | none => rfl
        | some c =>
          have := hs up.toNat c (by omega) hc
          simp only []
          rw [ih g c.super (by omega) (by omega) (by omega)]
theorem upL_step {p : Prg} {n : Nat} (hs : SupOk p n) {u : Nat} (hu : u < n) (h6 : u < 6) {c : Cls} (hc : p[u]? = some c) : upL p (u : Int) = (u : Int) :: upL p c.super := by
  have h0 : ¬ (u : Int) < 0 := by omega
  have := hs u c hu hc
  have e : upF p 5 c.super = upF p 6 c.super := upF_fuel hs 5 6 c.super (by omega) (by omega) (by omega)
  show (if (u : Int) < 0 then [] else match p[(u : Int).toNat]? with | none => [] | some k => (u : Int) :: upF p 5 k.super) = _
  rw [if_neg h0, Int.toNat_natCast, hc]
  simp only []
  rw [e]
  rfl
theorem upF_len (p : Prg) : ∀ (f : Nat) (c : Int), (upF p f c).length ≤ f := by
  intro f
  induction f with
  | zero => intro c; simp [upF]
  | succ f ih =>
    intro c
    simp only [upF]
    split
    · simp
    · split
      · simp
      · simp only [List.length_cons]; have := ih ‹Cls›.super; omega
theorem upL_len (p : Prg) (c : Int) : (upL p c).length ≤ 6 := upF_len p 6 c
theorem upF_mem {p : Prg} : ∀ (f : Nat) (c x : Int), x ∈ upF p f c → 0 ≤ x ∧ x < (p.length : Int) := by
  intro f
  induction f with
  | zero => intro c x h; simp [upF] at h
  | succ f ih =>
    intro c x h
    simp only [upF] at h
    split at h
    · simp at h
    · split at h
      · simp at h
      · rename_i hc k hk
        rcases List.mem_cons.1 h with rfl | h
        · have := (List.getElem?_eq_some_iff.1 hk).1; omega
        · exact ih _ _ h
theorem upL_mem {p : Prg} {c x : Int} (h : x ∈ upL p c) : 0 ≤ x ∧ x < (p.length : Int) := upF_mem 6 c x h
theorem upF_le {p : Prg} (hs : SupOk p p.length) : ∀ (f : Nat) (c x : Int), x ∈ upF p f c → x ≤ c := by
  intro f
  induction f with
  | zero => intro c x h; simp [upF] at h
  | succ f ih =>
    intro c x h
    simp only [upF] at h
    split at h
    · simp at h
    · split at h
      · simp at h
      · rename_i hc k hk
        have h1 := (List.getElem?_eq_some_iff.1 hk).1
        have h2 := hs _ k h1 hk
        rcases List.mem_cons.1 h with rfl | h
        · exact Int.le_refl _
        · have := ih _ _ h; omega
theorem upL_le {p : Prg} (hs : SupOk p p.length) {c x : Int} (h : x ∈ upL p c) : x ≤ c := upF_le hs 6 c x h
theorem upL_self {p : Prg} (hs : SupOk p p.length) (h6 : p.length ≤ 6) {u : Nat} (hu : u < p.length) : (u : Int) ∈ upL p (u : Int) := by
  rw [upL_step hs hu (by omega) (List.getElem?_eq_getElem hu)]; exact List.mem_cons_self

/-- Is b above a (or a itself)? -/
def undB (p : Prg) (a b : Int) : Bool := decide (b ∈ upL p a)
/-- The first one above a that is above b. -/
def lowF (p : Prg) (a b : Int) : Int := ((upL p a).find? fun x => undB p b x).getD (-1)
/-- Has the class of this number a method of its own with this name? -/
def hasM (p : Prg) (name : Int) (x : Int) : Bool := match p[x.toNat]? with | none => false | some c => (ownF c name).isSome
def selF (p : Prg) (c name : Int) : Int := ((upL p c).find? (hasM p name)).getD (-1)
def allC (p : Prg) : List Int := (List.range p.length).map fun k : Nat => (k : Int)
/-- All that are under a class, rising. -/
def downL (p : Prg) (c : Int) : List Int := (allC p).filter fun i => undB p i c
def targL (p : Prg) (c name : Int) : List Int := (((downL p c).map fun i => selF p i name).filter fun s => decide (0 ≤ s)).foldl putL []

theorem find_step {α : Type} (f : α → Bool) (x : α) (l : List α) : (x :: l).find? f = if f x then some x else l.find? f := by
  rw [List.find?_cons]; cases f x <;> rfl
end Pg
end Go.Proofs.Ytjchmpdobghhnaa

/- Machines as plain data: what a right one is, how one begins; the fields of a class. -/
namespace Go.Proofs.Ytjchmpdobghhnaa
namespace Pg
open Go.ChangeShapes Go.WideShapes Go.ChangeAt Go.RowKit St Wd

abbrev Vl := Int × Int
structure Ob where
  cls : Int
  flds : List Vl
structure Fr where
  cls : Int
  name : Int
  pos : Int
  stk : List Vl
  loc : List Vl
structure Mc where
  heap : List Ob
  frames : List Fr
  said : List Int
  fin : Int
  code : Int
instance : Inhabited Ob := ⟨⟨0, []⟩⟩
instance : Inhabited Fr := ⟨⟨0, 0, 0, [], []⟩⟩

/-- The fields of a class, from the highest above it on. -/
def fieldsR (p : Prg) : Nat → Int → List Int
  | 0, _ => []
  | f + 1, up => if up < 0 then [] else match p[up.toNat]? with | none => [] | some c => fieldsR p f c.super ++ c.fields
def fieldsF (p : Prg) (t : Int) : List Int := if okP p && (decide (0 ≤ t) && decide (t < (p.length : Int))) then fieldsR p 6 t else []
theorem fieldsR_neg (p : Prg) (f : Nat) {up : Int} (h : up < 0) : fieldsR p f up = [] := by
  cases f with
  | zero => rfl
  | succ f => simp [fieldsR, h]
theorem fieldsR_fuel {p : Prg} {n : Nat} (hs : SupOk p n) : ∀ (f g : Nat) (up : Int), up < (n : Int) → up < (f : Int) → up < (g : Int) → fieldsR p f up = fieldsR p g up := by
  intro f
  induction f with
  | zero => intro g up _ h1 _; rw [fieldsR_neg _ _ (by omega), fieldsR_neg _ _ (by omega)]
  | succ f ih =>
    intro g up hn h1 h2
    by_cases h0 : up < 0
    · rw [fieldsR_neg _ _ h0, fieldsR_neg _ _ h0]
    · cases g with
      | zero => omega
      | succ g =>
        simp only [fieldsR, h0, if_false]
        cases hc : p[up.toNat]? with
        | none => rfl
        | some c =>
          have := hs up.toNat c (by omega) hc
          simp only []
          rw [ih g c.super (by omega) (by omega) (by omega)]
theorem fieldsR_step {p : Prg} {n : Nat} (hs : SupOk p n) {u : Nat} (hu : u < n) (h6 : u < 6) {c : Cls} (hc : p[u]? = some c) : fieldsR p 6 (u : Int) = fieldsR p 6 c.super ++ c.fields := by
  have h0 : ¬ (u : Int) < 0 := by omega
  have := hs u c hu hc
  have e : fieldsR p 5 c.super = fieldsR p 6 c.super := fieldsR_fuel hs 5 6 c.super (by omega) (by omega) (by omega)
  show (if (u : Int) < 0 then [] else match p[(u : Int).toNat]? with | none => [] | some c => fieldsR p 5 c.super ++ c.fields) = _
  rw [if_neg h0, Int.toNat_natCast, hc]
  simp only []
  rw [e]
theorem fieldsR_len {p : Prg} {n : Nat} (hs : SupOk p n) (h6 : n ≤ 6) (hn : n ≤ p.length) (h4 : ∀ j c, j < n → p[j]? = some c → c.fields.length ≤ 4) : ∀ (k : Nat) (up : Int), up < (k : Int) → up < (n : Int) → (fieldsR p 6 up).length ≤ 4 * k := by
  intro k
  induction k with
  | zero => intro up h _; rw [fieldsR_neg _ _ (by omega)]; simp
  | succ k ih =>
    intro up hk hu
    by_cases h0 : up < 0
    · rw [fieldsR_neg _ _ h0]; simp
    · obtain ⟨u, rfl⟩ := Int.eq_ofNat_of_zero_le (show 0 ≤ up by omega)
      have hc := List.getElem?_eq_getElem (show u < p.length by omega)
      have h1 := hs u _ (by omega) hc
      have h2 := h4 u _ (by omega) hc
      rw [fieldsR_step hs (by omega) (by omega) hc, List.length_append]
      have := ih p[u].super (by omega) (by omega)
      omega
theorem okP_sup {p : Prg} (h : okP p = true) : SupOk p p.length := SupOk.of fun _ hi => okP_at h hi
theorem okP_four {p : Prg} (h : okP p = true) : ∀ j c, j < p.length → p[j]? = some c → c.fields.length ≤ 4 := fun _ _ hj hc => (okC_few (by rw [← okAt_of hc]; exact okP_at h hj)).1

def frmV (l : List Vl) : List Vl := l ++ List.replicate (8 - l.length) (1, 0)
theorem frmV_len {l : List Vl} (h : l.length ≤ 8) : (frmV l).length = 8 := by simp [frmV]; omega
def valF (t : Int) : Vl := if t = -1 then (1, 0) else (3, 0)
def startM (p : Prg) : Mc := ⟨[⟨0, (fieldsR p 6 0).map valF⟩], [⟨0, 0, 0, [], frmV [(2, 0)]⟩], [], 0, 0⟩
def valB (x : Vl) : Bool := if x.1 = 1 then okB x.2 else if x.1 = 2 then decide (0 ≤ x.2) else decide (x.1 = 3) && decide (x.2 = 0)
def obB (x : Ob) : Bool := decide (x.flds.length ≤ 24) && x.flds.all valB
def frB (x : Fr) : Bool := decide (x.stk.length ≤ 8) && decide (x.loc.length = 8) && x.stk.all valB && x.loc.all valB
def machB (m : Mc) : Bool := decide (0 ≤ m.fin) && decide (m.fin ≤ 6) && !(decide (m.fin = 0) && decide (m.frames.length = 0)) && decide (m.heap.length ≤ 50) && decide (m.frames.length ≤ 30) && decide (m.said.length ≤ 20000) && m.heap.all obB && m.frames.all frB && m.said.all okB
def zeroM : Mc := ⟨[], [], [], 0, 0⟩
def startF (p : Prg) : Mc × Bool := if okP p then (startM p, true) else (zeroM, false)
end Pg
end Go.Proofs.Ytjchmpdobghhnaa

/- Contracts of both sides' account of the fields of a class. -/
namespace Go.Proofs.Ytjchmpdobghhnaa
namespace Pg
open Go.ChangeShapes Go.WideShapes Go.ChangeAt Go.RowKit St

end Pg
end Go.Proofs.Ytjchmpdobghhnaa
