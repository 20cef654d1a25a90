/- Contracts of the program's own account of what a method above must agree with. -/
import Derived.Test.YtinanjjhkddikaaGreatJSf9
import Derived.Deep.RegionWith
import Derived.BigQuiet
namespace Go.Proofs.YtinanjjhkddikaaGreat
namespace Pg
open Go.ChangeShapes Go.WideShapes Go.ChangeAt Go.RowKit St

/-- The same, in one form. -/
def OwnR (B : Nat) (c : Cls) (name : Int) (w0 : World) (n : Int) (x1 : Option Addr) (l1 y1 : Nat) (g : Int) (x2 : Option Addr) (l2 y2 : Nat) (q : Bool) : Prop :=
  (q = true ∧ ∃ m, ownF c name = some m ∧ n = m.name ∧ l1 = m.args.length ∧ g = m.gives ∧ l2 = m.code.length ∧ MV front B w0 (.slice x1 l1 y1) (.slice x2 l2 y2) m) ∨ (q = false ∧ ownF c name = none)
theorem ownMethodR (B : Nat) (c : Cls) (q a : Option Addr) (cap af cf : Nat) (name : Int) (hn : c.meths.length ≤ 1048576) (w0 w : World) (hb0 : Below w0.heap.size w0 w) (hm : SM front B w0 (.slice a c.meths.length cap) c.meths) :
    Calls Tryz.prog 52 #[.agg #[.int .i64 c.super, .slice q af cf, .slice a c.meths.length cap], .int .i64 name] w fun e w' => ∃ n x1 l1 y1 g x2 l2 y2 q, e = .returned (.tuple #[.agg #[.int .i64 n, .slice x1 l1 y1, .int .i64 g, .slice x2 l2 y2], .bool q]) ∧ Hid (OwnR B c name w0 n x1 l1 y1 g x2 l2 y2 q) ∧ Below w.heap.size w w' := by
  refine (ownMethod B c q a cap af cf name hn w0 w hb0 hm).mono ?_
  rintro e w' ⟨⟨m, va, vc, h1, _, rfl, hv⟩ | ⟨h1, rfl⟩, hb⟩
  · obtain ⟨x1, y1, rfl⟩ := hv.1.form
    obtain ⟨x2, y2, rfl⟩ := front.form hv.2
    exact ⟨_, _, _, _, _, _, _, _, _, rfl, .inl ⟨rfl, m, h1, rfl, rfl, rfl, rfl, hv⟩, hb⟩
  · exact ⟨_, _, _, _, _, _, _, _, _, rfl, .inr ⟨rfl, h1⟩, hb⟩
theorem own_mem {c : Cls} {name : Int} {m : Meth} (h : ownF c name = some m) : m ∈ c.meths := List.mem_of_find?_eq_some h

theorem Cells.newD (w : World) (vs : List Value) (t : TypeId) : Cells (w.alloc (.cells vs.toArray t)).drew w.heap.size vs := fun i x hx => Cells.new w _ rfl vs t i x hx
set_option maxRecDepth 100000 in
set_option maxHeartbeats 2000000 in
theorem agreesAbove (B B' : Nat) (p : Prg) (m : Meth) (i : Nat) (a : Option Addr) (cap : Nat) (va vc : Value) (up : Int) (h6 : p.length ≤ 6) (hi : i ≤ p.length) (hsup : SupOk p i) (hu0 : -1 ≤ up) (hu1 : up < (i : Int)) (hsp : SmallP p) (hs : SmallM m) (w : World) (hp : SK front B w (.slice a p.length cap) p) (hv : MV front B' w va vc m) :
    Calls Tryz.prog 75 #[.agg #[.slice a p.length cap], .int .i64 up, .agg #[.int .i64 m.name, va, .int .i64 m.gives, vc]] w fun e w' => e = .returned (.bool (agreeF p m 6 up)) ∧ Below w.heap.size w w' := by
  obtain ⟨x1, y1, rfl⟩ := hv.1.form
  obtain ⟨x2, y2, rfl⟩ := front.form hv.2
  have HP : Hid (SK front B w (.slice a p.length cap) p) := hp
  have HI : Hid (SI true B' w (.slice x1 m.args.length y1) m.args) := hv.1
  have HSUP : Hid (SupOk p i) := hsup
  have HSP : Hid (SmallP p) := hsp
  have hs1 := hs.1
  clear hp hv hsup hsp hs
  obtain ⟨W, hW⟩ : ∃ W, W = (w.alloc (.cells #[.slice a p.length cap] 30)).alloc (.cells #[.int .i64 m.name, .slice x1 m.args.length y1, .int .i64 m.gives, .slice x2 m.code.length y2] 55) := ⟨_, rfl⟩
  have hwW : Below w.heap.size w W := by rw [hW]; exact ((Below.refl _ _).alloc (Nat.le_refl _) _).alloc (by simp) _
  have P0 : Hid (Cells W w.heap.size [.slice a p.length cap]) := by rw [hW]; exact (Cells.new w _ rfl _ _).alloc _
  have M0 : Hid (Cells W (w.heap.size + 1) [.int .i64 m.name, .slice x1 m.args.length y1, .int .i64 m.gives, .slice x2 m.code.length y2]) := by rw [hW]; exact Cells.new (w.alloc _) _ (by simp) _ _
  go_enter Tryz.func75, Tryz.ntmps75
  go_wp2
  rw [← hW]
  clear hW
  go_loopw [1] (fun v wr => ∃ u : Int, v = .int .i64 u ∧ -1 ≤ u ∧ u < (i : Int) ∧ Hid (agreeF p m 6 up = agreeF p m 6 u) ∧ Below W.heap.size W wr) (fun v _ => (intOf v + 1).toNat)
  case atStart => exact ⟨up, rfl, hu0, hu1, rfl, Below.refl _ _⟩
  case round =>
    clear hu0 hu1
    obtain ⟨u, rfl, hu0, hu1, hag, hb⟩ := hrel
    have hwr : Below w.heap.size w wr := below_over hwW hb
    by_cases hneg : u = -1
    · have HT : Hid (agreeF p m 6 up = true) := by
        show _ = _
        rw [hag.out]
        exact agreeF_neg p m 6 (by omega)
      subst hneg
      go_wp2
      go_ret
      exact ⟨retB HT.out.symm, hwr⟩
    · obtain ⟨j, rfl⟩ := Int.eq_ofNat_of_zero_le (show 0 ≤ u by omega)
      have hjp : j < p.length := by omega
      have hji : (j : Int) < (p.length : Int) := by omega
      have hj0 : (0 : Int) ≤ (j : Int) := by omega
      have hnb : ((j : Int) != -1) = true := by simp
      obtain ⟨b, o, rfl, _, vf, vm, d0, d1, d2, hcv⟩ := HP.out.get hjp
      obtain ⟨z1, t1, rfl⟩ := hcv.1.form
      obtain ⟨z2, t2, rfl⟩ := hcv.2.form
      have l0 : b < w.heap.size := cell_lt d0
      have c0 := (hwr.cell l0).trans d0
      have c1 := (hwr.cell l0).trans d1
      have c2 := (hwr.cell l0).trans d2
      have HSM : Hid (SM front B w (.slice z2 p[j].meths.length t2) p[j].meths) := hcv.2
      have hsm := HSP.out.2 _ (List.getElem_mem hjp)
      have HSMM : Hid (∀ m ∈ p[j].meths, SmallM m) := hsm.2.2
      have hsl := hsm.2.1
      have HST : Hid (agreeF p m 6 (j : Int) = (agree1 p[j] m && agreeF p m 6 p[j].super)) := agreeF_step HSUP.out m (by omega) (by omega) (List.getElem?_eq_getElem hjp)
      have hsu := HSUP.out j _ (by omega) (List.getElem?_eq_getElem hjp)
      generalize p[j] = c at *
      have hsu1 := hsu.1
      have hsu2 := hsu.2
      clear hcv hsm hsu d0 d1 d2 hneg
      obtain ⟨p0, _⟩ := (P0.out.on hb).g0
      obtain ⟨m0, _⟩ := (M0.out.on hb).g0
      have PR : Hid (Cells wr w.heap.size [.slice (some ⟨b, o, none⟩) p.length cap]) := P0.out.on hb
      have MR : Hid (Cells wr (w.heap.size + 1) [.int .i64 m.name, .slice x1 m.args.length y1, .int .i64 m.gives, .slice x2 m.code.length y2]) := M0.out.on hb
      have lb : b < wr.heap.size := Nat.lt_of_lt_of_le l0 hwr.size
      have hbA : Below wr.heap.size wr (wr.alloc (.cells #[.int .i64 0, .slice none 0 0, .int .i64 0, .slice none 0 0] 55)) := (Below.refl _ _).alloc (Nat.le_refl _) _
      have ls : w.heap.size < wr.heap.size := cell_lt p0
      have ls1 : w.heap.size + 1 < wr.heap.size := cell_lt m0
      have p0a := (hbA.cell ls).trans p0
      have m0a := (hbA.cell ls1).trans m0
      have c0a := (hbA.cell lb).trans c0
      have c1a := (hbA.cell lb).trans c1
      have c2a := (hbA.cell lb).trans c2
      clear hbA
      go_wp2_with fail
      go_region_with (go_at_call 52; refine (ownMethodR B c z1 z2 t2 c.fields.length t1 m.name hsl w _ ?hx HSM.out).mono ?_; (case hx => first | exact hwr.drew | exact (hwr.alloc hwr.size _).drew); rintro e w1 ⟨n, f1, l1, g1, gv, f2, l2, g2, q, rfl, hor, hb1⟩; first | (have BX := Cells.on (Cells.newD wr [.int .i64 0, .slice none 0 0, .int .i64 0, .slice none 0 0] 55) hb1; obtain ⟨b0, e0⟩ := BX.g0; obtain ⟨b1, e1⟩ := BX.g1; obtain ⟨b2, e2⟩ := BX.g2; obtain ⟨b3, e3⟩ := BX.g3) | skip)
      all_goals
        first
        | (have hF : Below wr.heap.size wr (w1.alloc (.cells #[.int .i64 n, .slice f1 l1 g1, .int .i64 gv, .slice f2 l2 g2] 55)) := (below_over (Below.refl _ _).drew hb1).alloc (below_over (Below.refl _ _).drew hb1).size _
           have OX : Hid (Cells (w1.alloc (.cells #[.int .i64 n, .slice f1 l1 g1, .int .i64 gv, .slice f2 l2 g2] 55)) w1.heap.size [.int .i64 n, .slice f1 l1 g1, .int .i64 gv, .slice f2 l2 g2]) := Cells.new w1 _ rfl _ _
           clear hb1
           generalize w1.alloc (.cells #[.int .i64 n, .slice f1 l1 g1, .int .i64 gv, .slice f2 l2 g2] 55) = wF at *)
        | (have hb1' : Below wr.heap.size wr w1 := below_over ((Below.refl _ _).alloc (Nat.le_refl _) _).drew hb1
           have OX : Hid (Cells ((((w1.setCell ⟨wr.heap.size, 0, none⟩ (.int .i64 n)).setCell ⟨wr.heap.size, 1, none⟩ (.slice f1 l1 g1)).setCell ⟨wr.heap.size, 2, none⟩ (.int .i64 gv)).setCell ⟨wr.heap.size, 3, none⟩ (.slice f2 l2 g2)) wr.heap.size [.int .i64 n, .slice f1 l1 g1, .int .i64 gv, .slice f2 l2 g2]) := (((BX.s0 _).s1 _).s2 _).s3 _
           have hF : Below wr.heap.size wr ((((w1.setCell ⟨wr.heap.size, 0, none⟩ (.int .i64 n)).setCell ⟨wr.heap.size, 1, none⟩ (.slice f1 l1 g1)).setCell ⟨wr.heap.size, 2, none⟩ (.int .i64 gv)).setCell ⟨wr.heap.size, 3, none⟩ (.slice f2 l2 g2)) := (((hb1'.setCell (p := ⟨wr.heap.size, 0, none⟩) (by simp) _).setCell (p := ⟨wr.heap.size, 1, none⟩) (by simp) _).setCell (p := ⟨wr.heap.size, 2, none⟩) (by simp) _).setCell (p := ⟨wr.heap.size, 3, none⟩) (by simp) _
           clear hb1 hb1' BX b0 b1 b2 b3 e0 e1 e2 e3
           generalize (((w1.setCell ⟨wr.heap.size, 0, none⟩ (.int .i64 n)).setCell ⟨wr.heap.size, 1, none⟩ (.slice f1 l1 g1)).setCell ⟨wr.heap.size, 2, none⟩ (.int .i64 gv)).setCell ⟨wr.heap.size, 3, none⟩ (.slice f2 l2 g2) = wF at *)
        have hwF : Below w.heap.size w wF := below_over hwr hF
        have hWF : Below W.heap.size W wF := below_over hb hF
        obtain ⟨o1, _⟩ := OX.out.g1
        obtain ⟨o2, _⟩ := OX.out.g2
        obtain ⟨mF1, _⟩ := (MR.out.on hF).g1
        obtain ⟨mF2, _⟩ := (MR.out.on hF).g2
        obtain ⟨pF, _⟩ := (PR.out.on hF).g0
        have cF := (hF.cell lb).trans c0
        have PF : Hid (Cells wF w.heap.size [.slice (some ⟨b, o, none⟩) p.length cap]) := PR.out.on hF
        have lbF : b < wF.heap.size := Nat.lt_of_lt_of_le lb hF.size
        clear OX hF hwr hb p0 m0 p0a m0a c0a c1a c2a c0 c1 c2 PR MR ls ls1
        rcases hor.out with ⟨rfl, x, hox, rfl, rfl, rfl, rfl, hxv⟩ | ⟨rfl, hox⟩
        · have HAX : Hid (agree1 c m = (decide (x.args = m.args) && decide (x.gives = m.gives))) := by show _ = _; simp [agree1, hox]
          have hxs := (HSMM.out x (own_mem hox)).1
          have HXI : Hid (SI true B w (.slice f1 x.args.length g1) x.args) := hxv.1
          clear hor hox hxv
          by_cases hgv : x.gives = m.gives
          · rw [hgv] at o2
            have hgb : (m.gives != m.gives) = false := by simp
            go_wp2_with fail
            refine (slicesEqual B B' f1 x1 g1 y1 x.args m.args hxs _ (SI.on HXI.out (Keep.of hwF)) (SI.on HI.out (Keep.of hwF))).mono ?_
            rintro e w2 ⟨rfl, hb2⟩
            have hw2 : Below w.heap.size w w2 := below_over hwF hb2
            have hW2 : Below W.heap.size W w2 := below_over hWF hb2
            obtain ⟨p2, _⟩ := (PF.out.on hb2).g0
            have c2' := (hb2.cell lbF).trans cF
            clear hb2 pF cF PF mF1 mF2 o1 o2
            cases hq : decide (x.args = m.args)
            · have HT : Hid (agreeF p m 6 up = false) := by
                show _ = _
                rw [hag.out, HST.out, HAX.out, hq]; simp
              go_wp2
              go_ret
              exact ⟨retB HT.out.symm, hw2⟩
            · have HT : Hid (agreeF p m 6 up = agreeF p m 6 c.super) := by
                show _ = _
                rw [hag.out, HST.out, HAX.out, hq]; simp [hgv]
              clear hag HST HAX
              go_wp2
              go_roundw
              case rel => exact ⟨c.super, rfl, hsu1, by omega, HT.out, hW2⟩
              case measure => simp [intOf]; omega
          · have hgb : (x.gives != m.gives) = true := by simpa using hgv
            have HT : Hid (agreeF p m 6 up = false) := by
              show _ = _
              rw [hag.out, HST.out, HAX.out]; simp [hgv]
            go_wp2
            go_ret
            exact ⟨retB HT.out.symm, hwF⟩
        · have HT : Hid (agreeF p m 6 up = agreeF p m 6 c.super) := by
            show _ = _
            rw [hag.out, HST.out]; simp [agree1, hox]
          clear hag HST hor hox
          go_wp2
          go_roundw
          case rel => exact ⟨c.super, rfl, hsu1, by omega, HT.out, hWF⟩
          case measure => simp [intOf]; omega
end Pg
end Go.Proofs.YtinanjjhkddikaaGreat
