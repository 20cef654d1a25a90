/- The contract of the program's own account of which programs are right. -/
import Derived.Test.YtbfiijfaaknhaaaPi2
namespace Go.Proofs.Ytbfiijfaaknhaaa
namespace Pg
open Go.ChangeShapes Go.WideShapes Go.ChangeAt Go.RowKit St

theorem mainOk_of {p : Prg} {c : Cls} (h : p[0]? = some c) : (ownF c 0 = none → mainOk p = false) ∧ ∀ m, ownF c 0 = some m → mainOk p = (decide (m.args.length = 0) && decide (m.gives = -1)) := by
  unfold mainOk
  rw [h]
  refine ⟨fun h => ?_, fun m h => ?_⟩
  · simp [h]
  · simp [h]
set_option maxRecDepth 100000 in
set_option maxHeartbeats 2000000 in
theorem implProgramOk (B : Nat) (p : Prg) (a : Option Addr) (cap : Nat) (hsp : SmallP p) (w : World) (hp : SK front B w (.slice a p.length cap) p) :
    Calls Try.prog 43 #[.agg #[.slice a p.length cap]] w fun e w' => e = .returned (.bool (okP p)) ∧ Below w.heap.size w w' := by
  have hpl := hsp.1
  have HP : Hid (SK front B w (.slice a p.length cap) p) := hp
  have HSP : Hid (SmallP p) := hsp
  clear hp hsp
  by_cases h1 : 1 ≤ p.length
  · have h1b : ((p.length : Int) == 0) = false := by
      have : ¬ (p.length : Int) = 0 := by omega
      simpa using this
    by_cases h6 : p.length ≤ 6
    · have h6i : ¬ (6 : Int) < (p.length : Int) := by omega
      obtain ⟨b, o, rfl, _, _⟩ := HP.out.get (k := 0) (by omega)
      obtain ⟨W, hW⟩ : ∃ W, W = w.alloc (.cells #[.slice (some ⟨b, o, none⟩) p.length cap] 34) := ⟨_, rfl⟩
      have hwW : Below w.heap.size w W := by rw [hW]; exact (Below.refl _ _).alloc (Nat.le_refl _) _
      have P0 : Hid (Cells W w.heap.size [.slice (some ⟨b, o, none⟩) p.length cap]) := by rw [hW]; exact Cells.new w _ rfl _ _
      go_enter Try.func43, Try.ntmps43
      go_wp2
      rw [← hW]
      clear hW
      go_loopw [19] (fun v wr => ∃ i : Nat, i ≤ p.length ∧ v = .int .i64 i ∧ Hid (∀ j, j < i → okAt p j = true) ∧ Below W.heap.size W wr) (fun v _ => p.length - (intOf v).toNat)
      case atStart => exact ⟨0, Nat.zero_le _, rfl, fun j h => absurd h (Nat.not_lt_zero _), Below.refl _ _⟩
      case round =>
        obtain ⟨i, hi, rfl, hall, hb⟩ := hrel
        have hwr : Below w.heap.size w wr := below_over hwW hb
        obtain ⟨pp0, _⟩ := (P0.out.on hb).g0
        by_cases hlt : i < p.length
        · have hii : (i : Int) < (p.length : Int) := by omega
          have HNO : Hid (okAt p i = false → okP p = false) := fun h => okP_no hlt h
          have HYES : Hid (okAt p i = true → ∀ j, j < i + 1 → okAt p j = true) := fun h j hj => by
            by_cases e : j = i
            · rw [e]; exact h
            · exact hall.out j (by omega)
          have HSUP : Hid (SupOk p i) := SupOk.of hall.out
          clear hall
          go_wp2_with fail
          refine (isClassOf B p i (some ⟨b, o, none⟩) cap hlt h6 HSUP.out HSP.out _ (SK.on HP.out (Keep.of hwr))).mono ?_
          rintro e w1 ⟨rfl, hb1⟩
          have hw1 : Below w.heap.size w w1 := below_over hwr hb1
          have hW1 : Below W.heap.size W w1 := below_over hb hb1
          clear hb1 pp0
          cases hq : okAt p i
          · have HX : Hid (okP p = false) := HNO.out hq
            go_wp2
            go_ret
            exact ⟨retB HX.out.symm, hw1⟩
          · have HX : Hid (∀ j, j < i + 1 → okAt p j = true) := HYES.out hq
            clear HNO HYES
            go_wp2
            go_roundw
            case rel => exact ⟨i + 1, by omega, by go_num, HX.out, hW1⟩
            case measure => simp [intOf]; omega
        · have HMN : Hid (okP p = mainOk p) := okP_main h1 h6 (fun j hj => hall.out j (by omega))
          have h0 : 0 < p.length := by omega
          have h0i : (0 : Int) < (p.length : Int) := by omega
          obtain ⟨b', o', hbo, _, vf, vm, d0, d1, d2, hcv⟩ := HP.out.get h0
          simp at hbo
          obtain ⟨rfl, rfl⟩ := hbo
          obtain ⟨z1, t1, rfl⟩ := hcv.1.form
          obtain ⟨z2, t2, rfl⟩ := hcv.2.form
          have l0 : b < w.heap.size := cell_lt d0
          have c0 := (hwr.cell l0).trans d0
          have c1 := (hwr.cell l0).trans d1
          have c2 := (hwr.cell l0).trans d2
          simp only [Nat.zero_mul, Nat.add_zero] at c0 c1 c2
          have HM : Hid (SM front B w (.slice z2 p[0].meths.length t2) p[0].meths) := hcv.2
          have hsm := (HSP.out.2 _ (List.getElem_mem h0)).2.1
          have HMO : Hid ((ownF p[0] 0 = none → mainOk p = false) ∧ ∀ m, ownF p[0] 0 = some m → mainOk p = (decide (m.args.length = 0) && decide (m.gives = -1))) := mainOk_of (List.getElem?_eq_getElem h0)
          generalize p[0] = c at *
          clear hcv d0 d1 d2 hall
          go_wp2_with fail
          refine (ownMethodR B c z1 z2 t2 c.fields.length t1 0 hsm w _ hwr HM.out).mono ?_
          rintro e w1 ⟨n, f1, l1, g1, gv, f2, l2, g2, q, rfl, hor, hb1⟩
          have hw1 : Below w.heap.size w w1 := below_over hwr hb1
          clear hb1 c0 c1 c2 pp0
          rcases hor.out with ⟨rfl, x, hox, rfl, rfl, rfl, rfl, hxv⟩ | ⟨rfl, hox⟩
          · have HX : Hid (okP p = (decide (x.args.length = 0) && decide (x.gives = -1))) := by show _ = _; rw [HMN.out]; exact HMO.out.2 x hox
            clear hor hox hxv HMN HMO
            by_cases ha : x.args.length = 0
            · have hai : ((x.args.length : Int) == 0) = true := by simp [ha]
              by_cases hg : x.gives = -1
              · have hgb : (x.gives == -1) = true := by simpa using hg
                have HX2 : Hid (okP p = true) := by show _ = _; rw [HX.out]; simp [ha, hg]
                clear HX ha hg
                go_wp2
                go_ret
                exact ⟨retB HX2.out.symm, hw1.alloc hw1.size _⟩
              · have hgb : (x.gives == -1) = false := by simpa using hg
                have HX2 : Hid (okP p = false) := by show _ = _; rw [HX.out]; simp [hg]
                clear HX ha hg
                go_wp2
                go_ret
                exact ⟨retB HX2.out.symm, hw1.alloc hw1.size _⟩
            · have hai : ((x.args.length : Int) == 0) = false := by
                have : ¬ (x.args.length : Int) = 0 := by omega
                simpa using this
              have HX2 : Hid (okP p = false) := by show _ = _; rw [HX.out]; simp [ha]
              clear HX ha
              go_wp2
              go_ret
              exact ⟨retB HX2.out.symm, hw1.alloc hw1.size _⟩
          · have HX : Hid (okP p = false) := by show _ = _; rw [HMN.out]; exact HMO.out.1 hox
            clear hor hox HMN HMO
            go_wp2
            go_ret
            exact ⟨retB HX.out.symm, hw1.alloc hw1.size _⟩
    · have HX : Hid (okP p = false) := okP_many (by omega)
      have h7 : (6 : Int) < (p.length : Int) := by omega
      go_enter Try.func43, Try.ntmps43
      go_wp2
      go_ret
      exact ⟨retB HX.out.symm, (Below.refl _ _).alloc (Nat.le_refl _) _⟩
  · have HX : Hid (okP p = false) := okP_few (by omega)
    have h1b : ((p.length : Int) == 0) = true := by
      have : (p.length : Int) = 0 := by omega
      simpa using this
    go_enter Try.func43, Try.ntmps43
    go_wp2
    go_ret
    exact ⟨retB HX.out.symm, (Below.refl _ _).alloc (Nat.le_refl _) _⟩
end Pg
end Go.Proofs.Ytbfiijfaaknhaaa
