/- Contracts of the other side's questions about those above. -/
import Derived.Test.YtbfiijfaaknhaaaHi0
import Derived.Test.YtbfiijfaaknhaaaPr0
import Derived.Maps.AppendAt
namespace Go.Proofs.Ytbfiijfaaknhaaa
namespace Pg
open Go.ChangeShapes Go.WideShapes Go.ChangeAt Go.RowKit St

theorem lowF_neg (p : Prg) {u : Int} (b : Int) (h : u < 0) : lowF p u b = -1 := by unfold lowF; rw [upL_neg p h]; rfl
theorem lowF_step {p : Prg} {n : Nat} (hs : SupOk p n) {u : Nat} (hu : u < n) (h6 : u < 6) {c : Cls} (hc : p[u]? = some c) (b : Int) : lowF p (u : Int) b = if undB p b (u : Int) then (u : Int) else lowF p c.super b := by
  unfold lowF
  rw [upL_step hs hu h6 hc, find_step]
  split <;> rfl
theorem selF_neg (p : Prg) {u : Int} (b : Int) (h : u < 0) : selF p u b = -1 := by unfold selF; rw [upL_neg p h]; rfl
theorem selF_step {p : Prg} {n : Nat} (hs : SupOk p n) {u : Nat} (hu : u < n) (h6 : u < 6) {c : Cls} (hc : p[u]? = some c) (b : Int) : selF p (u : Int) b = if (ownF c b).isSome then (u : Int) else selF p c.super b := by
  unfold selF
  rw [upL_step hs hu h6 hc, find_step]
  have : hasM p b (u : Int) = (ownF c b).isSome := by unfold hasM; rw [Int.toNat_natCast, hc]
  rw [this]
  split <;> rfl
theorem ownI_neg (c : Cls) (name : Int) : decide (ownI c name < 0) = !(ownF c name).isSome := by
  unfold ownI ownF
  cases h : c.meths.findIdx? (fun m => decide (m.name = name)) with
  | none =>
    have h2 : c.meths.find? (fun m => decide (m.name = name)) = none := by
      rw [List.find?_eq_none]
      intro m hm
      have := (List.findIdx?_eq_none_iff.1 h) m hm
      simpa using this
    rw [h2]; rfl
  | some k =>
    have h2 : (c.meths.find? (fun m => decide (m.name = name))).isSome = true := by
      rw [List.findIdx?_eq_some_iff_getElem] at h
      obtain ⟨hk, hp, _⟩ := h
      rw [List.find?_isSome]
      exact ⟨c.meths[k], List.getElem_mem hk, hp⟩
    rw [h2]
    simp
set_option maxRecDepth 100000 in
set_option maxHeartbeats 1000000 in
theorem l5Selected (B : Nat) (p : Prg) (a : Option Addr) (cap : Nat) (u0 b : Int) (hu0 : -1 ≤ u0) (hu1 : u0 < (p.length : Int)) (hsp : SmallP p) (h6 : p.length ≤ 6) (hsup : SupOk p p.length) (w : World) (hp : SK front B w (.slice a p.length cap) p) :
    Calls Try.prog 59 #[.agg #[.slice a p.length cap], .int .i64 u0, .int .i64 b] w fun e w' => e = .returned (.int .i64 (selF p u0 b)) ∧ Below w.heap.size w w' := by
  have HP : Hid (SK front B w (.slice a p.length cap) p) := hp
  have HSUP : Hid (SupOk p p.length) := hsup
  have HSP : Hid (SmallP p) := hsp
  clear hp hsup hsp
  obtain ⟨W, hW⟩ : ∃ W, W = w.alloc (.cells #[.slice a p.length cap] 34) := ⟨_, rfl⟩
  have hwW : Below w.heap.size w W := by rw [hW]; exact (Below.refl _ _).alloc (Nat.le_refl _) _
  have P0 : Hid (Cells W w.heap.size [.slice a p.length cap]) := by rw [hW]; exact Cells.new w _ rfl _ _
  go_enter Try.func59, Try.ntmps59
  go_wp2
  rw [← hW]
  clear hW
  go_loopw [1] (fun x wr => ∃ u : Int, x = .int .i64 u ∧ -1 ≤ u ∧ u < (p.length : Int) ∧ Hid (selF p u0 b = selF p u b) ∧ Below W.heap.size W wr) (fun x _ => (intOf x + 1).toNat)
  case atStart => exact ⟨u0, rfl, hu0, hu1, rfl, Below.refl _ _⟩
  case round =>
    clear hu0 hu1
    obtain ⟨u, rfl, hu0, hu1, hx, hb⟩ := hrel
    have hwr : Below w.heap.size w wr := below_over hwW hb
    by_cases hneg : u = -1
    · have HE : Hid (selF p u0 b = -1) := by show _ = _; rw [hx.out, hneg]; exact selF_neg p b (by omega)
      subst hneg
      go_wp2
      go_ret
      exact ⟨retI HE.out.symm, hwr⟩
    · obtain ⟨j, rfl⟩ := Int.eq_ofNat_of_zero_le (show 0 ≤ u by omega)
      have hjp : j < p.length := by omega
      have hji : (j : Int) < (p.length : Int) := by omega
      have hj0 : (0 : Int) ≤ (j : Int) := by omega
      have HST : Hid (selF p u0 b = if (ownF p[j] b).isSome then (j : Int) else selF p p[j].super b) := by
        show _ = _
        rw [hx.out, selF_step HSUP.out hjp (by omega) (List.getElem?_eq_getElem hjp)]
      obtain ⟨b', o, rfl, _, vf, vm, d0, d1, d2, hcv⟩ := HP.out.get hjp
      obtain ⟨z1, t1, rfl⟩ := hcv.1.form
      obtain ⟨z2, t2, rfl⟩ := hcv.2.form
      have l0 : b' < w.heap.size := cell_lt d0
      have hsu := HSUP.out j _ hjp (List.getElem?_eq_getElem hjp)
      have HSM : Hid (SM front B w (.slice z2 p[j].meths.length t2) p[j].meths) := hcv.2
      have hsm := HSP.out.2 _ (List.getElem_mem hjp)
      have hsl := hsm.2.1
      have k0 := (hwr.cell l0).trans d0
      have k1 := (hwr.cell l0).trans d1
      have k2 := (hwr.cell l0).trans d2
      generalize p[j] = c at *
      have hsu1 := hsu.1
      have hsu2 := hsu.2
      clear hcv hsu d1 d2 hneg hx hsm
      obtain ⟨p0, _⟩ := (P0.out.on hb).g0
      go_wp2_with fail
      refine (l4Own B c z1 z2 t2 c.fields.length t1 b hsl _ (SM.on HSM.out (Keep.of hwr))).mono ?_
      rintro e w1 ⟨rfl, hb1⟩
      have hw1 : Below w.heap.size w w1 := below_over hwr hb1
      have hW1 : Below W.heap.size W w1 := below_over hb hb1
      have c0 := (hw1.cell l0).trans d0
      clear p0 k0 k1 k2
      obtain ⟨p0, _⟩ := (P0.out.on hW1).g0
      clear hb1 hb hwr
      have HO1 : Hid (ownI c b < 0 → (ownF c b).isSome = false) := fun h => by have := ownI_neg c b; rw [decide_eq_true h] at this; simpa using this.symm
      have HO2 : Hid (¬ ownI c b < 0 → (ownF c b).isSome = true) := fun h => by have := ownI_neg c b; rw [decide_eq_false h] at this; simpa using this.symm
      generalize ownI c b = oi at *
      by_cases hq : oi < 0
      · have HE : Hid (selF p u0 b = selF p c.super b) := by
          show _ = _
          rw [HST.out, HO1.out hq]; rfl
        clear HST HO1 HO2
        go_wp2
        go_roundw
        case rel => exact ⟨c.super, rfl, hsu1, by omega, HE.out, hW1⟩
        case measure => simp [intOf]; omega
      · have HE : Hid (selF p u0 b = (j : Int)) := by
          show _ = _
          rw [HST.out, HO2.out hq]; rfl
        clear HST HO1 HO2
        go_wp2
        go_ret
        exact ⟨retI HE.out.symm, hw1⟩
end Pg
end Go.Proofs.Ytbfiijfaaknhaaa
