/- How a machine begins: the program's fresh object, and Started. -/
import Derived.Test.YtffkkhaiedhaiaaJSd0
import Derived.Test.YtffkkhaiedhaiaaJPs1
import Derived.Deep.RegionWith
import Derived.Deep.RegionHeld
namespace Go.Proofs.Ytffkkhaiedhaiaa
namespace Pg
open Go.ChangeShapes Go.WideShapes Go.ChangeAt Go.RowKit St

end Pg
end Go.Proofs.Ytffkkhaiedhaiaa

/- How a machine begins: the program's Started. -/
namespace Go.Proofs.Ytffkkhaiedhaiaa
namespace Pg
open Go.ChangeShapes Go.WideShapes Go.ChangeAt Go.RowKit St

theorem OZ.one {F : Nat → Prop} {w : World} {g c : Nat} {cls : Int} {v : Value} {fl : List Vl} (h : Cells w g [.int .i64 cls, v]) (hv : VZ F w v fl) (hF : ¬ F g) : OZ (fun k => k = g ∨ F k) w (.slice (some ⟨g, 0, none⟩) 1 c) [⟨cls, fl⟩] := by
  refine .inl ⟨g, c, fun i j k => i = 0 ∧ j = 0 ∧ F k, rfl, .inl rfl, cell_lt h.g0.1, fun i hi => ?_, fun i j k hT => ⟨.inr hT.2.2, fun e => hF (e ▸ hT.2.2)⟩, fun i j i' j' k h1 h2 => ⟨h1.1.trans h2.1.symm, h1.2.1.trans h2.2.1.symm⟩, fun i x hx => ?_⟩
  · match i, hi with
    | 0, _ => exact ⟨⟨_, h.g0.1⟩, h.g0.2⟩
    | 1, _ => exact ⟨⟨_, h.g1.1⟩, h.g1.2⟩
  · match i with
    | 0 =>
      simp at hx
      subst hx
      exact ⟨v, h.g0.1, h.g1.1, hv.weak fun k hk => ⟨rfl, rfl, hk⟩⟩
    | i + 1 => simp at hx
theorem FZ.one {F : Nat → Prop} {w : World} {g c : Nat} {cls nm pos : Int} {v : Value} {lo : List Vl} (h : Cells w g [.int .i64 cls, .int .i64 nm, .int .i64 pos, .slice none 0 0, v]) (hv : VZ F w v lo) (hF : ¬ F g) : FZ (fun k => k = g ∨ F k) w (.slice (some ⟨g, 0, none⟩) 1 c) [⟨cls, nm, pos, [], lo⟩] := by
  refine .inl ⟨g, c, fun i j k => i = 0 ∧ j = 1 ∧ F k, rfl, .inl rfl, cell_lt h.g0.1, fun i hi => ?_, fun i j k hT => ⟨.inr hT.2.2, fun e => hF (e ▸ hT.2.2)⟩, fun i j i' j' k h1 h2 => ⟨h1.1.trans h2.1.symm, h1.2.1.trans h2.2.1.symm⟩, fun i x hx => ?_⟩
  · match i, hi with
    | 0, _ => exact ⟨⟨_, h.g0.1⟩, h.g0.2⟩
    | 1, _ => exact ⟨⟨_, h.g1.1⟩, h.g1.2⟩
    | 2, _ => exact ⟨⟨_, h.g2.1⟩, h.g2.2⟩
    | 3, _ => exact ⟨⟨_, h.g3.1⟩, h.g3.2⟩
    | 4, _ => exact ⟨⟨_, h.g4.1⟩, h.g4.2⟩
  · match i with
    | 0 =>
      simp at hx
      subst hx
      exact ⟨.slice none 0 0, v, h.g0.1, h.g1.1, h.g2.1, h.g3.1, h.g4.1, .inr ⟨rfl, rfl⟩, hv.weak fun k hk => ⟨rfl, rfl, hk⟩⟩
    | i + 1 => simp at hx
theorem MZ.zero (S : Nat → Prop) (w : World) : MZ S w (.slice none 0 0) (.slice none 0 0) (.slice none 0 0) zeroM :=
  ⟨fun _ => False, fun _ => False, fun _ => False, fun _ h => h.elim, fun _ h => h.elim, fun _ h => h.elim, fun _ h => h.elim, fun _ h => h.elim, fun _ h => h.elim, .inr ⟨rfl, rfl⟩, .inr ⟨rfl, rfl⟩, .inr ⟨rfl, rfl⟩⟩
/-- All rows of a machine that begins. -/
theorem MZ.start {p : Prg} {F G : Nat → Prop} {w V : World} {b gh gr c1 c2 : Nat} {vf vl : Value} {fl : List Vl} (hfl : fl = (fieldsR p 6 0).map valF) (h1 : Cells V gh [.int .i64 0, vf]) (h2 : VZ F V vf fl) (h3 : Cells V gr [.int .i64 0, .int .i64 0, .int .i64 0, .slice none 0 0, vl]) (h4 : VZ G V vl (frmV [(2, 0)]))
    (hF : ∀ k, F k → b < k ∧ k < V.heap.size) (hG : ∀ k, G k → b < k ∧ k < V.heap.size) (hFG : ∀ k, F k → ¬ G k) (hgh : b < gh) (hgr : b < gr) (hne : gh ≠ gr) (f1 : ¬ F gh) (f2 : ¬ F gr) (g1 : ¬ G gh) (g2 : ¬ G gr) {V' : World} (ht : Tch (fun k => k = b) V V') (hb : w.heap.size ≤ b) :
    MZ (fun k => w.heap.size ≤ k ∧ k < V'.heap.size) V' (.slice (some ⟨gh, 0, none⟩) 1 c1) (.slice (some ⟨gr, 0, none⟩) 1 c2) (.slice none 0 0) (startM p) := by
  subst hfl
  have l1 : gh < V.heap.size := cell_lt h1.g0.1
  have l2 : gr < V.heap.size := cell_lt h3.g0.1
  have hz := ht.size
  refine ⟨fun k => k = gh ∨ F k, fun k => k = gr ∨ G k, fun _ => False, fun k hk => ?_, fun k hk => ?_, fun _ h => h.elim, fun k hk hk2 => ?_, fun _ _ h => h, fun _ _ h => h, (OZ.one h1 h2 f1).tch ht (fun k hk e => ?_), (FZ.one h3 h4 g2).tch ht (fun k hk e => ?_), .inr ⟨rfl, rfl⟩⟩
  · rcases hk with rfl | hk
    · exact ⟨by omega, by omega⟩
    · have := hF k hk; exact ⟨by omega, by omega⟩
  · rcases hk with rfl | hk
    · exact ⟨by omega, by omega⟩
    · have := hG k hk; exact ⟨by omega, by omega⟩
  · rcases hk with rfl | hk
    · rcases hk2 with e | hk2
      · exact hne e
      · exact g1 hk2
    · rcases hk2 with rfl | hk2
      · exact f2 hk
      · exact hFG k hk hk2
  · rcases hk with rfl | hk
    · omega
    · have := hF k hk; omega
  · rcases hk with rfl | hk
    · omega
    · have := hG k hk; omega
/-- The boxes that a region reads. -/
def StS (k1 k2 : Nat) (l1 l2 : List Value) (y : World) : Prop := Cells y k1 l1 ∧ Cells y k2 l2
theorem StS.on {k1 k2 : Nat} {l1 l2 : List Value} {u w : World} (h : StS k1 k2 l1 l2 u) (hb : Below u.heap.size u w) : StS k1 k2 l1 l2 w := ⟨h.1.on hb, h.2.on hb⟩
theorem StS.far {k1 k2 : Nat} {l1 l2 : List Value} {u : World} (h : StS k1 k2 l1 l2 u) (q : Addr) (v : Value) (h1 : q.block ≠ k1) (h2 : q.block ≠ k2) : StS k1 k2 l1 l2 (u.setCell q v) := ⟨h.1.far q v h1, h.2.far q v h2⟩
end Pg
end Go.Proofs.Ytffkkhaiedhaiaa

/- How a machine begins: the specification's fresh object and frame. -/
namespace Go.Proofs.Ytffkkhaiedhaiaa
namespace Pg
open Go.ChangeShapes Go.WideShapes Go.ChangeAt Go.RowKit St

theorem grown_cellV (w : World) (p : Addr) (v : Value) : w.grownBy (w.setCell p v) (some p.block) := by
  have h := (Below.refl 0 w).setCell (p := p) (Nat.zero_le _) v
  exact ⟨h.os, h.tape, h.output, h.size, fun k _ hne => Below.heap_setCell w p v k (fun e => hne (by rw [e]))⟩
theorem own_offV {w w' : World} {B : Nat} {t : TypeId} {q : Nat} {v : Value} {n : Nat} {xs : List Value} {row : Option Nat} (h : w.ownsRow B t q v n xs) (hg : w.grownBy w' row) (hne : v.ownBlock ≠ row) : w'.ownsRow B t q v n xs := h.kept hg (.inr hne)
def OwnV (B : Nat) (w : World) (v : Value) (l : List Vl) : Prop := w.ownsRow B 57 2 v l.length (flatV l)
theorem OwnV.vz {B : Nat} {w : World} {v : Value} {l : List Vl} (h : OwnV B w v l) : VZ (fun k => B ≤ k ∧ k < w.heap.size) w v l := by
  by_cases hv : v = .slice none 0 0
  · refine .inr ⟨hv, ?_⟩
    obtain ⟨h1, ⟨_, h2⟩ | ⟨g, cap, cur, h3, _⟩⟩ := h
    · exact List.eq_nil_of_length_eq_zero h2
    · rw [hv] at h3; cases h3
  · exact GrowV.vz ⟨h, hv⟩
theorem IRow.far {w : World} {g o : Nat} {l : List Int} (h : IRow w g o l) (p : Addr) (v : Value) (hp : p.block ≠ g) : IRow (w.setCell p v) g o l := fun j x hj => (World.cell?_setCell_other _ _ _ _ (fun e => hp (by rw [e]))).trans (h j x hj)
theorem IRow.grown {w w' : World} {row : Option Nat} {g o : Nat} {l : List Int} (h : IRow w g o l) (hg : w.grownBy w' row) (hne : some g ≠ row) : IRow w' g o l := fun j x hj => by
  have hl := cell_lt (h j x hj)
  exact (World.cell?_of_block (w := w) (hg.block g hl hne)).trans (h j x hj)
theorem Cells.grown {w w' : World} {row : Option Nat} {k : Nat} {vs : List Value} (h : Cells w k vs) (hg : w.grownBy w' row) (hne : some k ≠ row) : Cells w' k vs := fun i x hx => by
  obtain ⟨h1, h2⟩ := h i x hx
  have e := hg.block k (cell_lt h1) hne
  exact ⟨(World.cell?_of_block (w := w) e).trans h1, (World.frozen?_of_block (w := w) e).trans h2⟩
theorem own_block_ge {w : World} {B : Nat} {t : TypeId} {q : Nat} {v : Value} {n : Nat} {xs : List Value} (h : w.ownsRow B t q v n xs) {g : Nat} (hg : g < B) : some g ≠ v.ownBlock := fun e => by
  have := (h.lt g e.symm).1
  omega
set_option maxRecDepth 100000 in
set_option maxHeartbeats 2000000 in
theorem l8New_at (B : Nat) (p : Prg) (b o cap : Nat) (u : Nat) (hok : okP p = true) (hu : u < p.length) (w : World) (hp : SK front B w (.slice (some ⟨b, o, none⟩) p.length cap) p) :
    Calls Try.prog 82 #[.agg #[.slice (some ⟨b, o, none⟩) p.length cap], .int .i64 u] w fun e w' => ∃ x y, e = .returned (.agg #[.int .i64 u, .slice x ((fieldsR p 6 u).map valF).length y]) ∧ VZ (fun k => w.heap.size < k ∧ k < w'.heap.size) w' (.slice x ((fieldsR p 6 u).map valF).length y) ((fieldsR p 6 u).map valF) ∧ Below w.heap.size w w' := by
  obtain ⟨i0, hif, hz0, hz1, hz2⟩ := info_parts infoValue
  have hl6 := (okP_len hok).2
  have hlen : (fieldsR p 6 (u : Int)).length ≤ 24 := fieldsR_len (okP_sup hok) hl6 (Nat.le_refl _) (okP_four hok) 6 _ (by omega) (by omega)
  have HC : Hid (∀ x, Below w.heap.size w x → Calls Try.prog 104 #[.agg #[.slice (some ⟨b, o, none⟩) p.length cap], .int .i64 u] x fun e w' => ∃ v, e = .returned v ∧ Grow x.heap.size w' v (fieldsR p 6 u) ∧ Below x.heap.size x w') := fun x hx => l4Fields B p b o cap hok w hp 6 u x (by omega) (by omega) (by omega) hx
  generalize fieldsR p 6 (u : Int) = tys at *
  obtain ⟨ms, hms⟩ : ∃ ms : List Vl, ms = tys.map valF := ⟨_, rfl⟩
  have hml : ms.length = tys.length := by rw [hms, List.length_map]
  rw [← hms]
  have HMS : Hid (ms = tys.map valF) := hms
  clear hms hp hok
  obtain ⟨W, hW⟩ : ∃ W, W = ((w.alloc (.cells #[.slice (some ⟨b, o, none⟩) p.length cap] 39)).alloc (.cells #[.int .i64 0, .slice none 0 0] 118)).alloc (.cells #[.int .i64 (u : Int), .slice none 0 0] 118) := ⟨_, rfl⟩
  have hwW : Below w.heap.size w W := by rw [hW]; exact (((Below.refl _ _).alloc (Nat.le_refl _) _).alloc (by simp) _).alloc (by simp; omega) _
  have R0 : Hid (Cells W (w.heap.size + 1) [.int .i64 0, .slice none 0 0]) := by rw [hW]; exact (Cells.new (w.alloc _) _ (by simp) _ _).alloc _
  have O0 : Hid (Cells W (w.heap.size + 1 + 1) [.int .i64 (u : Int), .slice none 0 0]) := by rw [hW]; exact Cells.new ((w.alloc _).alloc _) _ (by simp) _ _
  have HZ : Hid (W.heap.size = w.heap.size + 1 + 1 + 1) := by rw [hW]; show _ = _; simp
  go_enter Try.func82, Try.ntmps82
  go_wp2_with fail
  rw [← hW]
  clear hW
  refine (HC.out _ hwW).mono ?_
  rintro e w1 ⟨v1, rfl, hg1, hb1⟩
  obtain ⟨g1, c1, rfl, hgB, hgl, hrow, _⟩ := hg1.gint
  have hw1 : Below w.heap.size w w1 := below_over hwW hb1
  have HR1 : Hid (IRow w1 g1 0 tys) := hrow
  have HGB : Hid (w.heap.size + 1 + 1 + 1 ≤ g1) := by show _ ≤ _; have := HZ.out; omega
  have HW1 : Hid (w.heap.size + 1 + 1 + 1 ≤ w1.heap.size) := by show _ ≤ _; have := HZ.out; have := hb1.size; omega
  have R1 : Hid (Cells w1 (w.heap.size + 1) [.int .i64 0, .slice none 0 0]) := R0.out.on hb1
  have O1 : Hid (Cells w1 (w.heap.size + 1 + 1) [.int .i64 (u : Int), .slice none 0 0]) := O0.out.on hb1
  clear hg1 hrow hgB HC hb1 R0 O0
  go_wp2
  go_loopw [7] (fun i wr => ∃ (k : Nat) (v : Value), k ≤ tys.length ∧ i = .int .i64 k ∧ Hid (OwnV w1.heap.size wr v (ms.take k)) ∧ Hid (Cells wr (w.heap.size + 1 + 1) [.int .i64 (u : Int), v]) ∧ Hid (Cells wr (w.heap.size + 1) [.int .i64 0, .slice none 0 0]) ∧ Hid (IRow wr g1 0 tys) ∧ w1.heap.size ≤ wr.heap.size ∧ Hid (Below w.heap.size w wr)) (fun i _ => tys.length - (intOf i).toNat)
  case atStart => exact ⟨0, .slice none 0 0, Nat.zero_le _, rfl, ⟨rfl, .inl ⟨rfl, rfl⟩⟩, O1.out, R1.out, HR1.out, Nat.le_refl _, hw1⟩
  case round =>
    obtain ⟨k, v, hk, rfl, hown, hO, hR, hI, hsz, hb⟩ := hrel
    by_cases hlt : k < tys.length
    · have h0 := hI.out k _ (List.getElem?_eq_getElem hlt)
      rw [Nat.zero_add] at h0
      have hki : (k : Int) < (tys.length : Int) := by omega
      have hkm : k < ms.length := by omega
      have HMK : Hid (ms[k] = valF tys[k]) := by
        show _ = _
        have e1 : ms[k]? = some (valF tys[k]) := by rw [HMS.out, List.getElem?_map, List.getElem?_eq_getElem hlt]; rfl
        rw [List.getElem?_eq_getElem hkm] at e1
        exact Option.some.inj e1
      have HTK : Hid (ms.take (k + 1) = ms.take k ++ [ms[k]]) := List.take_succ_eq_append_getElem hkm
      have hlk : (ms.take k).length = k := by simp; omega
      obtain ⟨va, vc, hvf, hvc⟩ := own_formV hown.out
      rw [hlk] at hvf
      subst hvf
      obtain ⟨o1, p1⟩ := hO.out.g1
      by_cases ht : tys[k] = -1
      · have HMV : Hid (ms[k] = (1, 0)) := by show _ = _; rw [HMK.out, ht]; rfl
        rw [ht] at h0
        have hba : Below wr.heap.size wr (wr.alloc (.cells #[.int .i64 3, .int .i64 0] 57)) := (Below.refl _ _).alloc (Nat.le_refl _) _
        have h1 := (hba.cell (p := ⟨g1, k, none⟩) (cell_lt h0)).trans h0
        have hbu : Below wr.heap.size wr (wr.alloc (.cells #[.int .i64 1, .int .i64 0] 57)) := (Below.refl _ _).alloc (Nat.le_refl _) _
        have hbv : Below wr.heap.size wr ((wr.alloc (.cells #[.int .i64 1, .int .i64 0] 57)).alloc (.cells #[.int .i64 1, .int .i64 0] 57)) := ((Below.refl _ _).alloc (Nat.le_refl _) _).alloc (by simp) _
        have o2 := (hbu.cell (p := ⟨w.heap.size + 1 + 1, 1, none⟩) (cell_lt o1)).trans o1
        have HOV : Hid (((wr.alloc (.cells #[.int .i64 1, .int .i64 0] 57)).alloc (.cells #[.int .i64 1, .int .i64 0] 57)).ownsRow w1.heap.size 57 2 (.slice va k vc) k (flatV (ms.take k))) := by
          have h := (hown.out.alloc (.cells #[.int .i64 1, .int .i64 0] 57)).alloc (.cells #[.int .i64 1, .int .i64 0] 57)
          rw [hlk] at h
          exact h
        have HOC : Hid (Cells ((wr.alloc (.cells #[.int .i64 1, .int .i64 0] 57)).alloc (.cells #[.int .i64 1, .int .i64 0] 57)) (w.heap.size + 1 + 1) [.int .i64 (u : Int), .slice va k vc]) := hO.out.on hbv
        have HRC : Hid (Cells ((wr.alloc (.cells #[.int .i64 1, .int .i64 0] 57)).alloc (.cells #[.int .i64 1, .int .i64 0] 57)) (w.heap.size + 1) [.int .i64 0, .slice none 0 0]) := hR.out.on hbv
        have HIC : Hid (IRow ((wr.alloc (.cells #[.int .i64 1, .int .i64 0] 57)).alloc (.cells #[.int .i64 1, .int .i64 0] 57)) g1 0 tys) := hI.out.on hbv
        have HBC : Hid (Below w.heap.size w ((wr.alloc (.cells #[.int .i64 1, .int .i64 0] 57)).alloc (.cells #[.int .i64 1, .int .i64 0] 57))) := below_over hb.out hbv
        have HLT : Hid (∀ (j : Nat) (q : Value), (flatV [((1, 0) : Vl)])[j]? = some q → ((wr.alloc (.cells #[.int .i64 1, .int .i64 0] 57)).alloc (.cells #[.int .i64 1, .int .i64 0] 57)).cell? ((⟨wr.heap.size + 1, 0, none⟩ : Addr).add j) = some q) := by
          have h := (lit_two (wr.alloc (.cells #[.int .i64 1, .int .i64 0] 57)) (1, 0) 57).out
          simp only [World.size_alloc] at h
          exact h
        have hzV : ((wr.alloc (.cells #[.int .i64 1, .int .i64 0] 57)).alloc (.cells #[.int .i64 1, .int .i64 0] 57)).heap.size = wr.heap.size + 1 + 1 := by simp
        clear hba hbu hbv hown hO hR hI hb o1 p1 hlk hvc 
        go_wp2_with (at_builtin; refine wpList_append_own _ rfl _ _ 47 rfl w1.heap.size 57 i0 (.agg #[.int .i64 0, .int .i64 0]) 2 16 Try.underlying47 hif hz0 hz1 hz2 rfl (by decide) _ _ _ rfl HOV.out ⟨wr.heap.size + 1, 0, none⟩ 1 1 (flatV [(1, 0)]) rfl rfl HLT.out (flatV_one _) (by unfold maxLen; omega) (by omega) (by simp; omega) ?_)
        intro v2 w3 hown2 hgrow hnil
        have hne : ∀ q, q < w1.heap.size → some q ≠ (Value.slice va k vc).ownBlock := fun q hq => own_block_ge HOV.out hq
        have O3 : Hid (Cells w3 (w.heap.size + 1 + 1) [.int .i64 (u : Int), .slice va k vc]) := HOC.out.grown hgrow (hne _ (by have := HW1.out; omega))
        have R3 : Hid (Cells w3 (w.heap.size + 1) [.int .i64 0, .slice none 0 0]) := HRC.out.grown hgrow (hne _ (by have := HW1.out; omega))
        have I3 : Hid (IRow w3 g1 0 tys) := IRow.grown HIC.out hgrow (hne _ hgl)
        have hz3 : w1.heap.size ≤ w3.heap.size := by have := hgrow.size; rw [hzV] at this; omega
        have B3 : Hid (Below w.heap.size w w3) := HBC.out.grown hgrow (by have := HBC.out.size; exact this) (fun q hq => by have := (HOV.out.lt q hq).1; have := HW1.out; omega)
        have HO2 : Hid (OwnV w1.heap.size w3 v2 (ms.take (k + 1))) := by
          show World.ownsRow _ _ _ _ _ _ _
          have e2 : (ms.take (k + 1)).length = k + 1 := by simp; omega
          rw [e2, HTK.out, HMV.out, flatV_app]
          exact hown2
        obtain ⟨vb, vd, hv2, _⟩ := own_formV hown2
        subst hv2
        obtain ⟨o3, p3⟩ := O3.out.g1
        have hn2 : (Value.slice vb (k + 1) vd).ownBlock ≠ some (w.heap.size + 1 + 1) := fun e => by have := (hown2.lt _ e).1; have := HW1.out; omega
        have HO4 : Hid (OwnV w1.heap.size (w3.setCell ⟨w.heap.size + 1 + 1, 1, none⟩ (.slice vb (k + 1) vd)) (.slice vb (k + 1) vd) (ms.take (k + 1))) := own_offV HO2.out (grown_cellV _ ⟨w.heap.size + 1 + 1, 1, none⟩ _) hn2
        have O4 : Hid (Cells (w3.setCell ⟨w.heap.size + 1 + 1, 1, none⟩ (.slice vb (k + 1) vd)) (w.heap.size + 1 + 1) [.int .i64 (u : Int), .slice vb (k + 1) vd]) := O3.out.s1 _
        have R4 : Hid (Cells (w3.setCell ⟨w.heap.size + 1 + 1, 1, none⟩ (.slice vb (k + 1) vd)) (w.heap.size + 1) [.int .i64 0, .slice none 0 0]) := R3.out.far _ _ (by show w.heap.size + 1 + 1 ≠ _; omega)
        have I4 : Hid (IRow (w3.setCell ⟨w.heap.size + 1 + 1, 1, none⟩ (.slice vb (k + 1) vd)) g1 0 tys) := IRow.far I3.out _ _ (by show w.heap.size + 1 + 1 ≠ _; have := HGB.out; omega)
        have B4 : Hid (Below w.heap.size w (w3.setCell ⟨w.heap.size + 1 + 1, 1, none⟩ (.slice vb (k + 1) vd))) := B3.out.setCell (p := ⟨w.heap.size + 1 + 1, 1, none⟩) (by simp; omega) _
        clear hown2 hgrow hnil hne hn2 HO2 O3 R3 I3 B3 HOV HOC HRC HIC HBC HLT h0 h1 o2
        go_wp2
        go_roundw
        case rel => exact ⟨k + 1, _, by omega, by go_num, HO4.out, O4.out, R4.out, I4.out, by simpa using hz3, B4.out⟩
        case measure => simp [intOf]; omega
      · have HMV : Hid (ms[k] = (3, 0)) := by show _ = _; rw [HMK.out]; simp [valF, ht]
        have hzb : (tys[k] == -1) = false := by simp [ht]
        have hba : Below wr.heap.size wr (wr.alloc (.cells #[.int .i64 3, .int .i64 0] 57)) := (Below.refl _ _).alloc (Nat.le_refl _) _
        have h1 := (hba.cell (p := ⟨g1, k, none⟩) (cell_lt h0)).trans h0
        have hbu : Below wr.heap.size wr (wr.alloc (.cells #[.int .i64 3, .int .i64 0] 57)) := (Below.refl _ _).alloc (Nat.le_refl _) _
        have hbv : Below wr.heap.size wr ((wr.alloc (.cells #[.int .i64 3, .int .i64 0] 57)).alloc (.cells #[.int .i64 3, .int .i64 0] 57)) := ((Below.refl _ _).alloc (Nat.le_refl _) _).alloc (by simp) _
        have o2 := (hbu.cell (p := ⟨w.heap.size + 1 + 1, 1, none⟩) (cell_lt o1)).trans o1
        have HOV : Hid (((wr.alloc (.cells #[.int .i64 3, .int .i64 0] 57)).alloc (.cells #[.int .i64 3, .int .i64 0] 57)).ownsRow w1.heap.size 57 2 (.slice va k vc) k (flatV (ms.take k))) := by
          have h := (hown.out.alloc (.cells #[.int .i64 3, .int .i64 0] 57)).alloc (.cells #[.int .i64 3, .int .i64 0] 57)
          rw [hlk] at h
          exact h
        have HOC : Hid (Cells ((wr.alloc (.cells #[.int .i64 3, .int .i64 0] 57)).alloc (.cells #[.int .i64 3, .int .i64 0] 57)) (w.heap.size + 1 + 1) [.int .i64 (u : Int), .slice va k vc]) := hO.out.on hbv
        have HRC : Hid (Cells ((wr.alloc (.cells #[.int .i64 3, .int .i64 0] 57)).alloc (.cells #[.int .i64 3, .int .i64 0] 57)) (w.heap.size + 1) [.int .i64 0, .slice none 0 0]) := hR.out.on hbv
        have HIC : Hid (IRow ((wr.alloc (.cells #[.int .i64 3, .int .i64 0] 57)).alloc (.cells #[.int .i64 3, .int .i64 0] 57)) g1 0 tys) := hI.out.on hbv
        have HBC : Hid (Below w.heap.size w ((wr.alloc (.cells #[.int .i64 3, .int .i64 0] 57)).alloc (.cells #[.int .i64 3, .int .i64 0] 57))) := below_over hb.out hbv
        have HLT : Hid (∀ (j : Nat) (q : Value), (flatV [((3, 0) : Vl)])[j]? = some q → ((wr.alloc (.cells #[.int .i64 3, .int .i64 0] 57)).alloc (.cells #[.int .i64 3, .int .i64 0] 57)).cell? ((⟨wr.heap.size + 1, 0, none⟩ : Addr).add j) = some q) := by
          have h := (lit_two (wr.alloc (.cells #[.int .i64 3, .int .i64 0] 57)) (3, 0) 57).out
          simp only [World.size_alloc] at h
          exact h
        have hzV : ((wr.alloc (.cells #[.int .i64 3, .int .i64 0] 57)).alloc (.cells #[.int .i64 3, .int .i64 0] 57)).heap.size = wr.heap.size + 1 + 1 := by simp
        clear hba hbu hbv hown hO hR hI hb o1 p1 hlk hvc ht
        generalize tys[k] = tk at *
        go_wp2_with (at_builtin; refine wpList_append_own _ rfl _ _ 47 rfl w1.heap.size 57 i0 (.agg #[.int .i64 0, .int .i64 0]) 2 16 Try.underlying47 hif hz0 hz1 hz2 rfl (by decide) _ _ _ rfl HOV.out ⟨wr.heap.size + 1, 0, none⟩ 1 1 (flatV [(3, 0)]) rfl rfl HLT.out (flatV_one _) (by unfold maxLen; omega) (by omega) (by simp; omega) ?_)
        intro v2 w3 hown2 hgrow hnil
        have hne : ∀ q, q < w1.heap.size → some q ≠ (Value.slice va k vc).ownBlock := fun q hq => own_block_ge HOV.out hq
        have O3 : Hid (Cells w3 (w.heap.size + 1 + 1) [.int .i64 (u : Int), .slice va k vc]) := HOC.out.grown hgrow (hne _ (by have := HW1.out; omega))
        have R3 : Hid (Cells w3 (w.heap.size + 1) [.int .i64 0, .slice none 0 0]) := HRC.out.grown hgrow (hne _ (by have := HW1.out; omega))
        have I3 : Hid (IRow w3 g1 0 tys) := IRow.grown HIC.out hgrow (hne _ hgl)
        have hz3 : w1.heap.size ≤ w3.heap.size := by have := hgrow.size; rw [hzV] at this; omega
        have B3 : Hid (Below w.heap.size w w3) := HBC.out.grown hgrow (by have := HBC.out.size; exact this) (fun q hq => by have := (HOV.out.lt q hq).1; have := HW1.out; omega)
        have HO2 : Hid (OwnV w1.heap.size w3 v2 (ms.take (k + 1))) := by
          show World.ownsRow _ _ _ _ _ _ _
          have e2 : (ms.take (k + 1)).length = k + 1 := by simp; omega
          rw [e2, HTK.out, HMV.out, flatV_app]
          exact hown2
        obtain ⟨vb, vd, hv2, _⟩ := own_formV hown2
        subst hv2
        obtain ⟨o3, p3⟩ := O3.out.g1
        have hn2 : (Value.slice vb (k + 1) vd).ownBlock ≠ some (w.heap.size + 1 + 1) := fun e => by have := (hown2.lt _ e).1; have := HW1.out; omega
        have HO4 : Hid (OwnV w1.heap.size (w3.setCell ⟨w.heap.size + 1 + 1, 1, none⟩ (.slice vb (k + 1) vd)) (.slice vb (k + 1) vd) (ms.take (k + 1))) := own_offV HO2.out (grown_cellV _ ⟨w.heap.size + 1 + 1, 1, none⟩ _) hn2
        have O4 : Hid (Cells (w3.setCell ⟨w.heap.size + 1 + 1, 1, none⟩ (.slice vb (k + 1) vd)) (w.heap.size + 1 + 1) [.int .i64 (u : Int), .slice vb (k + 1) vd]) := O3.out.s1 _
        have R4 : Hid (Cells (w3.setCell ⟨w.heap.size + 1 + 1, 1, none⟩ (.slice vb (k + 1) vd)) (w.heap.size + 1) [.int .i64 0, .slice none 0 0]) := R3.out.far _ _ (by show w.heap.size + 1 + 1 ≠ _; omega)
        have I4 : Hid (IRow (w3.setCell ⟨w.heap.size + 1 + 1, 1, none⟩ (.slice vb (k + 1) vd)) g1 0 tys) := IRow.far I3.out _ _ (by show w.heap.size + 1 + 1 ≠ _; have := HGB.out; omega)
        have B4 : Hid (Below w.heap.size w (w3.setCell ⟨w.heap.size + 1 + 1, 1, none⟩ (.slice vb (k + 1) vd))) := B3.out.setCell (p := ⟨w.heap.size + 1 + 1, 1, none⟩) (by simp; omega) _
        clear hown2 hgrow hnil hne hn2 HO2 O3 R3 I3 B3 HOV HOC HRC HIC HBC HLT h0 h1 o2
        go_wp2
        go_roundw
        case rel => exact ⟨k + 1, _, by omega, by go_num, HO4.out, O4.out, R4.out, I4.out, by simpa using hz3, B4.out⟩
        case measure => simp [intOf]; omega
    · have e : ms.take k = ms := List.take_of_length_le (by omega)
      have hkl : k = ms.length := by omega
      have HE := hown.out
      rw [e] at HE
      obtain ⟨va, vc, hvf, _⟩ := own_formV HE
      subst hvf
      have HV : Hid (VZ (fun q => w.heap.size < q ∧ q < wr.heap.size) wr (.slice va ms.length vc) ms) := (OwnV.vz HE).weak fun q hq => ⟨by have := HW1.out; omega, hq.2⟩
      have HVN : Hid (VZ (fun q => w1.heap.size ≤ q ∧ q < wr.heap.size) wr (.slice va ms.length vc) ms) := OwnV.vz HE
      obtain ⟨o0, _⟩ := hO.out.g0
      obtain ⟨o1, _⟩ := hO.out.g1
      obtain ⟨r0, q0⟩ := hR.out.g0
      obtain ⟨r1, q1⟩ := hR.out.g1
      have R5 := (hR.out.s0 (.int .i64 (u : Int))).s1 (.slice va ms.length vc)
      obtain ⟨e0, _⟩ := R5.g0
      obtain ⟨e1, _⟩ := R5.g1
      have HT : Hid (Tch (fun q => q = w.heap.size + 1) wr ((wr.setCell ⟨w.heap.size + 1, 0, none⟩ (.int .i64 (u : Int))).setCell ⟨w.heap.size + 1, 1, none⟩ (.slice va ms.length vc))) := (Tch.set (S := fun q => q = w.heap.size + 1) wr (p := ⟨w.heap.size + 1, 0, none⟩) rfl _).trans (Tch.set (S := fun q => q = w.heap.size + 1) _ (p := ⟨w.heap.size + 1, 1, none⟩) rfl _)
      clear R5 HE e hR hO hI hown hkl hml
      go_wp2
      refine bodyPost_ret (v := .agg #[.int .i64 (u : Int), .slice va ms.length vc]) (by simp [results, Try.results82, go_sem, e0, e1]) rfl ?_
      refine ⟨_, _, rfl, ?_, hb.out.trans (HT.out.below (by have := hb.out.size; omega) (fun k hk => by omega))⟩
      exact (HVN.out.tch HT.out (fun q hq hq2 => by have := HW1.out; omega)).weak (fun q hq => ⟨by have := HW1.out; omega, by simpa using hq.2⟩)
end Pg
end Go.Proofs.Ytffkkhaiedhaiaa
