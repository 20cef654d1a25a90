/- The contract of the checker's effect. -/
import Derived.Test.YtfdlljdljefkfaaGreatDoorJDkC
namespace Go.Proofs.YtfdlljdljefkfaaGreatDoor
namespace Pg
open Go.ChangeShapes Go.WideShapes Go.ChangeAt Go.RowKit St

theorem OwnS.on {B : Nat} {w w' : World} {sv lv : Value} {s : Sta} (h : OwnS B w sv lv s) (hb : Below w.heap.size w w') : OwnS B w' sv lv s := ⟨ownOn h.1 hb, ownOn h.2.1 hb, h.2.2⟩
theorem OwnS.base {B B' : Nat} {w : World} {sv lv : Value} {s : Sta} (h : OwnS B w sv lv s) (hB : B' ≤ B) : OwnS B' w sv lv s := ⟨ownBase h.1 hB, ownBase h.2.1 hB, h.2.2⟩
/-- A new desk. -/
theorem desk_new {u w : World} {n k : Nat} {fs : List Nat} {pv sv lv : Value} {st lo : List Int} (hb : Below u.heap.size u w) (hn : u.heap.size ≤ n) (hk : n ≤ k) (hc : Cells w k [pv, sv, lv, .nilIface]) (ho : OwnS n w sv lv (st, lo)) (hne : sv.ownBlock ≠ some k ∧ lv.ownBlock ≠ some k) (hl : lo.length = 8) (hf : ∀ b ∈ fs, b < n) : DeskAt u w fs w k pv ⟨false, st, lo⟩ := by
  obtain ⟨g, cap, rfl, h1, h2, h3⟩ := own_irow ho.2.1 (by show 0 < lo.length; omega)
  have hroom : Room w g 8 := by
    have := (Grow.gint ⟨ho.2.1, by simp⟩ : GInt n w (.slice (some ⟨g, 0, none⟩) lo.length cap) lo)
    obtain ⟨g', cap', hv, _, _, _, hr⟩ := this
    injection hv with e1
    injection e1 with e1
    injection e1 with e1
    subst e1
    rw [hl] at hr
    exact hr
  have hg : g ≠ k := fun e => hne.2 (by simp [Value.ownBlock, e])
  have hk0 : k < w.heap.size := cell_lt (hc.g0).1
  have hsg : sv.ownBlock ≠ some g := by
    rcases ho.2.2 with e | e
    · rw [e]; simp
    · intro e2; exact e (by rw [e2]; rfl)
  refine ⟨sv, g, cap, .nilIface, hb, Nat.le_trans hn hk, ?_, .inl ⟨rfl, rfl⟩, ownBase ho.1 hn, Nat.le_trans hn h1, hg, hsg, hne.1, hl, h3, hroom, fun b hbf => ?_, KeepsOthers.refl _⟩
  · rw [show (8 : Nat) = lo.length from hl.symm]; exact hc
  · have := hf b hbf
    refine ⟨by omega, rfl, by omega, by omega, fun e => ?_⟩
    have := (ho.1.lt b e).1
    omega

theorem own_gz {B : Nat} {w : World} {v : Value} {l : List Int} (h : w.ownsRow B 2 1 v l.length (nums l)) : GZ B w.heap.size w v l := by
  by_cases hv : v = .slice none 0 0
  · subst hv
    obtain ⟨h1, ⟨_, h2⟩ | ⟨g, cap, cur, hv, _⟩⟩ := h
    · exact .inr ⟨rfl, List.eq_nil_of_length_eq_zero h2⟩
    · cases hv
  · exact GZ.of (Grow.gint ⟨h, hv⟩)
theorem ans_two {u W0 : World} {fs : List Nat} {w : World} {k : Nat} {pv sv : Value} {g c : Nat} {ev : Value} {d : Dsk} (h : DeskR u W0 fs w k pv sv g c ev d) {r : Nat} {x y : Value} (h1 : r ≠ g) (h2 : sv.ownBlock ≠ some r) (h3 : u.heap.size ≤ r) : AnsS u.heap.size ((w.setCell ⟨r, 0, none⟩ x).setCell ⟨r, 1, none⟩ y) sv (.slice (some ⟨g, 0, none⟩) 8 c) (d.st, d.lo) ∧ Below u.heap.size u ((w.setCell ⟨r, 0, none⟩ x).setCell ⟨r, 1, none⟩ y) := by
  have hg : ((w.setCell ⟨r, 0, none⟩ x).setCell ⟨r, 1, none⟩ y).heap[g]? = w.heap[g]? := (Below.heap_setCell _ ⟨r, 1, none⟩ y g (Ne.symm h1)).trans (Below.heap_setCell w ⟨r, 0, none⟩ x g (Ne.symm h1))
  have hb : Below u.heap.size u ((w.setCell ⟨r, 0, none⟩ x).setCell ⟨r, 1, none⟩ y) := (h.below.setCell (p := ⟨r, 0, none⟩) h3 _).setCell (p := ⟨r, 1, none⟩) h3 _
  refine ⟨⟨own_gz (own_off (own_off h.own (grown_cell w ⟨r, 0, none⟩ x) h2) (grown_cell _ ⟨r, 1, none⟩ y) h2), ⟨g, c, ?_, h.hg, ?_, irow_blk h.row hg, ?_⟩, .inr h.sg⟩, hb⟩
  · show _ = Value.slice _ d.lo.length c
    rw [h.len]
  · exact Nat.lt_of_lt_of_le (room_lt h.room (by omega)) (by simp)
  · show Room _ g d.lo.length
    rw [h.len]
    exact room_moved hg h.room
/-- What a step's effect answers. -/
def EffPost (p : Prg) (gives : Int) (i : Tx.Ins) (s : Sta) (w : World) (e : Ending) (w' : World) : Prop :=
  ((∃ t sv lv, effF p gives i s = some t ∧ e = .returned (.tuple #[.agg #[sv, lv], .nilIface]) ∧ AnsS w.heap.size w' sv lv t) ∨
   (effF p gives i s = none ∧ ∃ str, e = .returned (.tuple #[.agg #[.slice none 0 0, .slice none 0 0], .iface 90 (.agg #[.string str])]))) ∧ Below w.heap.size w w'

set_option maxRecDepth 100000 in
set_option maxHeartbeats 8000000 in
theorem effect_at (B : Nat) (p : Prg) (hokp : okP p = true) (hsp : SmallP p) (w : World) (pa : Option Addr) (pc : Nat) (hp : SK front B w (.slice pa p.length pc) p) (cls nm gives : Int) (xa xc : Option Addr) (la ya lc yc : Nat) (hg : -3 ≤ gives) (i : Tx.Ins) (hi : Tx.okT i = true) (B' : Nat) (z1 z2 : Option Addr) (c1 c2 : Nat) (st lo : List Int) (hok : okSt p (st, lo)) (hs : SI true B' w (.slice z1 st.length c1) st) (hl : SI true B' w (.slice z2 lo.length c2) lo) :
    Calls Tryz.prog 47 #[.agg #[.slice pa p.length pc, .int .i64 cls, .int .i64 nm, .slice xa la ya, .int .i64 gives, .slice xc lc yc], .agg #[.int .i64 i.1, .int .i64 i.2.1, .int .i64 i.2.2], .agg #[.slice z1 st.length c1, .slice z2 lo.length c2]] w fun e w' => EffPost p gives i (st, lo) w e w' := by
  have HOKP : Hid (okP p = true) := hokp
  have HSP : Hid (SmallP p) := hsp
  have HP : Hid (SK front B w (.slice pa p.length pc) p) := hp
  have HS : Hid (SI true B' w (.slice z1 st.length c1) st) := hs
  have HL : Hid (SI true B' w (.slice z2 lo.length c2) lo) := hl
  obtain ⟨hst, hlo, hk1, hk2⟩ := okSt_iff.1 hok
  dsimp only at hst hlo hk1 hk2
  have HLO : Hid (lo.length = 8) := hlo
  have HOKD : Hid (Dsk.ok p ⟨false, st, lo⟩) := ⟨hk1, hk2, by show st.length ≤ 1000; omega⟩
  clear hokp hsp hp hs hl hok hk1 hk2 hlo
  obtain ⟨W, hW⟩ : ∃ W, W = (((w.alloc (.cells #[.slice pa p.length pc, .int .i64 cls, .int .i64 nm, .slice xa la ya, .int .i64 gives, .slice xc lc yc] 86)).alloc (.cells #[.int .i64 i.1, .int .i64 i.2.1, .int .i64 i.2.2] 39)).alloc (.cells #[.slice z1 st.length c1, .slice z2 lo.length c2] 32)).alloc (.cells #[.slice none 0 0, .slice none 0 0] 32) := ⟨_, rfl⟩
  have hwW : Below w.heap.size w W := by rw [hW]; exact ((((Below.refl _ _).alloc (Nat.le_refl _) _).alloc (by simp) _).alloc (by simp; omega) _).alloc (by simp; omega) _
  have C0 : Hid (Cells W w.heap.size [.slice pa p.length pc, .int .i64 cls, .int .i64 nm, .slice xa la ya, .int .i64 gives, .slice xc lc yc]) := by rw [hW]; exact (((Cells.new w _ rfl _ _).alloc _).alloc _).alloc _
  have C1 : Hid (Cells W (w.heap.size + 1) [.int .i64 i.1, .int .i64 i.2.1, .int .i64 i.2.2]) := by rw [hW]; exact ((Cells.new (w.alloc _) _ (by simp) _ _).alloc _).alloc _
  have C2 : Hid (Cells W (w.heap.size + 1 + 1) [.slice z1 st.length c1, .slice z2 lo.length c2]) := by rw [hW]; exact (Cells.new ((w.alloc _).alloc _) _ (by simp) _ _).alloc _
  have C3 : Hid (Cells W (w.heap.size + 1 + 1 + 1) [.slice none 0 0, .slice none 0 0]) := by rw [hW]; exact Cells.new (((w.alloc _).alloc _).alloc _) _ (by simp) _ _
  have HZ : Hid (W.heap.size = w.heap.size + 1 + 1 + 1 + 1) := by rw [hW]; show _ = _; simp
  have hW0 : Below W.heap.size W W.drew := (Below.refl _ _).drew
  go_enter Tryz.func47, Tryz.ntmps47
  go_wp2_with fail
  rw [← hW]
  clear hW
  refine wp_region_held_drew (S := fun x => Cells x w.heap.size [.slice pa p.length pc, .int .i64 cls, .int .i64 nm, .slice xa la ya, .int .i64 gives, .slice xc lc yc] ∧ Cells x (w.heap.size + 1 + 1) [.slice z1 st.length c1, .slice z2 lo.length c2]) (by kernel_rfl) ⟨C0.out.on hW0, C2.out.on hW0⟩ (fun hHeld => ?_)
  refine wpAnyH_take (i := 0) (v := ?_) rfl (by kernel_rfl) (by kernel_rfl) (by kernel_rfl) (fun _ _ _ h => h) (Or.inl ⟨by rfl, ?_⟩) hHeld ?_
  rotate_left 1
  · intro w' hSw
    obtain ⟨s1, s2⟩ := hSw
    obtain ⟨t0, _⟩ := s1.g0
    obtain ⟨t1, _⟩ := s2.g0
    obtain ⟨t2, _⟩ := s2.g1
    go_simp
    try with_reducible rfl
  simp only [Act.put]
  refine wpAnyH_take (i := 1) (v := ?_) rfl (by kernel_rfl) (by kernel_rfl) (by kernel_rfl) (fun _ _ _ h => h) (Or.inl ⟨by rfl, ?_⟩) hHeld ?_
  rotate_left 1
  · intro w' hSw
    obtain ⟨s1, s2⟩ := hSw
    obtain ⟨t0, _⟩ := s1.g0
    obtain ⟨t1, _⟩ := s2.g0
    obtain ⟨t2, _⟩ := s2.g1
    go_simp
    try with_reducible rfl
  simp only [Act.put]
  refine wpAnyH_take (i := 2) (v := ?_) rfl (by kernel_rfl) (by kernel_rfl) (by kernel_rfl) (fun _ _ _ h => h) (Or.inl ⟨by rfl, ?_⟩) hHeld ?_
  rotate_left 1
  · intro w' hSw
    obtain ⟨s1, s2⟩ := hSw
    obtain ⟨t0, _⟩ := s1.g0
    obtain ⟨t1, _⟩ := s2.g0
    obtain ⟨t2, _⟩ := s2.g1
    go_simp
    try with_reducible rfl
  simp only [Act.put]
  refine wpAnyH_ready (rs := [3, 5]) (by kernel_rfl) (by simp) ?_
  refine AllReadyH.cons rfl (fun K hK => ?_) (AllReadyH.cons rfl (fun K hK => ?_) AllReadyH.nil)
  · go_simp
    refine (copied_at B' z1 z2 c1 c2 st lo (by omega) (by have := HLO.out; omega) _ (SI.on HS.out (Keep.of (below_over hwW hW0))) (SI.on HL.out (Keep.of (below_over hwW hW0)))).mono ?_
    rintro e w1 ⟨x1, y1, x2, y2, rfl, hown, hb1⟩
    have hW1 : Below W.heap.size W w1 := below_over hW0 hb1
    have HOWN : Hid (OwnS W.drew.heap.size w1 (.slice x1 st.length y1) (.slice x2 lo.length y2) (st, lo)) := hown
    clear hown
    dsimp only
    refine hK.out _ _ ⟨C0.out.on hW1, C2.out.on hW1⟩ (fun hHeld => ?_)
    clear hK K
    refine wpAnyH_take (i := 4) (v := ?_) rfl (by kernel_rfl) (by kernel_rfl) (by kernel_rfl) (fun _ _ _ h => h) (Or.inl ⟨by rfl, ?_⟩) hHeld ?_
    rotate_left 1
    · intro w' hSw
      obtain ⟨s1, s2⟩ := hSw
      obtain ⟨t0, _⟩ := s1.g0
      obtain ⟨t1, _⟩ := s2.g0
      obtain ⟨t2, _⟩ := s2.g1
      go_simp
      try with_reducible rfl
    simp only [Act.put]
    refine wpAnyH_ready (rs := [5]) (by kernel_rfl) (by simp) ?_
    refine AllReadyH.cons rfl (fun K hK => ?_) AllReadyH.nil
    go_simp
    refine hK.out _ _ ⟨C0.out.on (hW1.alloc hW1.size _), C2.out.on (hW1.alloc hW1.size _)⟩ (fun hHeld => ?_)
    clear hK K
    refine wpAnyH_ready (rs := [6]) (by kernel_rfl) (by simp) ?_
    refine AllReadyH.cons rfl (fun K hK => ?_) AllReadyH.nil
    have CX := Cells.new w1 w1.heap.size rfl [.slice none 0 0, .slice none 0 0, .slice none 0 0, .nilIface] 110
    obtain ⟨a0, b0⟩ := CX.g0
    obtain ⟨a1, b1⟩ := CX.g1
    obtain ⟨a2, b2⟩ := CX.g2
    obtain ⟨a3, b3⟩ := CX.g3
    go_simp
    have hWF : Below W.heap.size W (w1.alloc (.cells #[.slice pa p.length pc, .slice x1 st.length y1, .slice x2 lo.length y2, .nilIface] 110)) := hW1.alloc hW1.size _
    have CK : Cells (w1.alloc (.cells #[.slice pa p.length pc, .slice x1 st.length y1, .slice x2 lo.length y2, .nilIface] 110)) w1.heap.size [.slice pa p.length pc, .slice x1 st.length y1, .slice x2 lo.length y2, .nilIface] := Cells.new w1 _ rfl _ _
    have HOW2 : OwnS W.heap.size (w1.alloc (.cells #[.slice pa p.length pc, .slice x1 st.length y1, .slice x2 lo.length y2, .nilIface] 110)) (.slice x1 st.length y1) (.slice x2 lo.length y2) (st, lo) := HOWN.out.on ((Below.refl _ _).alloc (Nat.le_refl _) _)
    have HKN : (Value.slice x1 st.length y1).ownBlock ≠ some w1.heap.size ∧ (Value.slice x2 lo.length y2).ownBlock ≠ some w1.heap.size := ⟨fun e => absurd (HOWN.out.1.lt _ e).2 (by omega), fun e => absurd (HOWN.out.2.1.lt _ e).2 (by omega)⟩
    refine hK.out _ _ ⟨C0.out.on hWF, C2.out.on hWF⟩ (fun hHeld => ?_)
    have HKW : W.heap.size ≤ w1.heap.size := hW1.size
    generalize w1.alloc (.cells #[.slice pa p.length pc, .slice x1 st.length y1, .slice x2 lo.length y2, .nilIface] 110) = wF at *
    generalize w1.heap.size = kF at *
    clear hK K a0 a1 a2 a3 b0 b1 b2 b3 CX HOWN hW1 hb1 hHeld
    refine wpAnyH_done (by kernel_rfl) ?_ _
    have HDK : Hid (DeskAt w wF [w.heap.size + 1 + 1 + 1, w.heap.size, w.heap.size + 1, w.heap.size + 1 + 1] wF kF (.slice pa p.length pc) ⟨false, st, lo⟩) := desk_new (n := W.heap.size) (below_over hwW hWF) hwW.size HKW CK HOW2 HKN HLO.out (by have := HZ.out; simp; omega)
    have CI1 : Hid (Cells wF (w.heap.size + 1) [.int .i64 i.1, .int .i64 i.2.1, .int .i64 i.2.2]) := C1.out.on hWF
    have CC1 : Hid (Cells wF w.heap.size [.slice pa p.length pc, .int .i64 cls, .int .i64 nm, .slice xa la ya, .int .i64 gives, .slice xc lc yc]) := C0.out.on hWF
    have CR1 : Hid (Cells wF (w.heap.size + 1 + 1 + 1) [.slice none 0 0, .slice none 0 0]) := C3.out.on hWF
    clear CK HOW2 HKN
    -- behind the region: the desk stands at block kF of world wF
    obtain ⟨i0, _⟩ := (CI1.out).g0
    obtain ⟨i1, _⟩ := (CI1.out).g1
    obtain ⟨i2, _⟩ := (CI1.out).g2
    obtain ⟨g4, _⟩ := (CC1.out) 4 _ rfl
    go_wp2_with fail
    refine (do_at B p HOKP.out HSP.out w wF [w.heap.size + 1 + 1 + 1, w.heap.size, w.heap.size + 1, w.heap.size + 1 + 1] wF kF pa pc HP.out ⟨false, st, lo⟩ HOKD.out HDK.out i hi gives hg).mono ?_
    rintro e w3 ⟨⟨v, rfl⟩, hd⟩
    have HR3 : Hid (Cells w3 (w.heap.size + 1 + 1 + 1) [.slice none 0 0, .slice none 0 0]) := hd.kept (by simp) CR1.out
    have HN3 : Hid (wF.heap.size ≤ wF.heap.size) := Nat.le_refl _
    cases hef : effF p gives i (st, lo) with
    | none =>
      have hbad : (doD p gives i ⟨false, st, lo⟩).bad = true := by
        have := do_is (p := p) gives i (st, lo) hst
        rw [hef] at this
        exact this
      obtain ⟨sv, g, c, ev, hr⟩ := hd
      obtain ⟨d3, _⟩ := hr.cells.g3
      have hev : ∃ s, ev = .iface 90 (.agg #[.string s]) := by
        rcases hr.err with ⟨_, h⟩ | ⟨h, _⟩
        · rw [hbad] at h; cases h
        · exact h
      obtain ⟨s, rfl⟩ := hev
      have hw3 : Below w.heap.size w w3 := hr.below
      obtain ⟨r0, q0⟩ := HR3.out.g0
      obtain ⟨r1, q1⟩ := HR3.out.g1
      have R5 := ((HR3.out).s0 (.slice none 0 0)).s1 (.slice none 0 0)
      obtain ⟨e0, _⟩ := R5.g0
      obtain ⟨e1, _⟩ := R5.g1
      have HE : Hid (Below w.heap.size w ((w3.drew.setCell ⟨w.heap.size + 1 + 1 + 1, 0, none⟩ (.slice none 0 0)).setCell ⟨w.heap.size + 1 + 1 + 1, 1, none⟩ (.slice none 0 0))) := (hw3.drew.setCell (p := ⟨w.heap.size + 1 + 1 + 1, 0, none⟩) (by simp; omega) _).setCell (p := ⟨w.heap.size + 1 + 1 + 1, 1, none⟩) (by simp; omega) _
      clear hr R5 hw3 hbad
      go_wp2_with fail
      go_region
      all_goals (try go_wp2)
      all_goals
        refine bodyPost_ret (v := .tuple #[.agg #[.slice none 0 0, .slice none 0 0], .iface 90 (.agg #[.string s])]) (by simp [results, Tryz.results47, go_sem, r0, r1]) rfl ?_
        exact ⟨.inr ⟨hef, s, rfl⟩, HE.out⟩
    | some t =>
      have hfine : doD p gives i ⟨false, st, lo⟩ = ⟨false, t.1, t.2⟩ := by
        have := do_is (p := p) gives i (st, lo) hst
        rw [hef] at this
        exact this
      rw [hfine] at hd
      obtain ⟨sv, g, c, ev, hr⟩ := hd
      have hev : ev = .nilIface := by
        rcases hr.err with ⟨h, _⟩ | ⟨_, h⟩
        · exact h
        · cases h
      subst hev
      obtain ⟨xs, ys, rfl, _⟩ := own_form hr.own
      obtain ⟨d1, _⟩ := hr.cells.g1
      obtain ⟨d2, _⟩ := hr.cells.g2
      obtain ⟨d3, _⟩ := hr.cells.g3
      obtain ⟨r0, q0⟩ := HR3.out.g0
      obtain ⟨r1, q1⟩ := HR3.out.g1
      have R5 := ((HR3.out).s0 (.slice xs t.1.length ys)).s1 (.slice (some ⟨g, 0, none⟩) 8 c)
      obtain ⟨e0, _⟩ := R5.g0
      obtain ⟨e1, _⟩ := R5.g1
      have HE : Hid (AnsS w.heap.size ((w3.setCell ⟨w.heap.size + 1 + 1 + 1, 0, none⟩ (.slice xs t.1.length ys)).setCell ⟨w.heap.size + 1 + 1 + 1, 1, none⟩ (.slice (some ⟨g, 0, none⟩) 8 c)) (.slice xs t.1.length ys) (.slice (some ⟨g, 0, none⟩) 8 c) t ∧ Below w.heap.size w ((w3.setCell ⟨w.heap.size + 1 + 1 + 1, 0, none⟩ (.slice xs t.1.length ys)).setCell ⟨w.heap.size + 1 + 1 + 1, 1, none⟩ (.slice (some ⟨g, 0, none⟩) 8 c))) := by
        have hne := hr.far (w.heap.size + 1 + 1 + 1) (by simp)
        exact ans_two hr hne.2.2.2.1 hne.2.2.2.2 (by omega)
      clear hr R5
      go_wp2
      refine bodyPost_ret (v := .tuple #[.agg #[.slice xs t.1.length ys, .slice (some ⟨g, 0, none⟩) 8 c], .nilIface]) (by simp [results, Tryz.results47, go_sem, e0, e1]) rfl ?_
      exact ⟨.inl ⟨t, _, _, hef, rfl, HE.out.1⟩, HE.out.2⟩
  · go_simp
    have hWB : Below W.heap.size W (W.drew.alloc (.cells #[.slice none 0 0, .slice none 0 0, .slice none 0 0, .nilIface] 110)) := hW0.alloc hW0.size _
    have CB := Cells.new W.drew W.heap.size rfl [.slice none 0 0, .slice none 0 0, .slice none 0 0, .nilIface] 110
    refine hK.out _ _ ⟨C0.out.on hWB, C2.out.on hWB⟩ (fun hHeld => ?_)
    clear hK K
    refine wpAnyH_ready (rs := [3]) (by kernel_rfl) (by simp) ?_
    refine AllReadyH.cons rfl (fun K hK => ?_) AllReadyH.nil
    go_simp
    refine (copied_at B' z1 z2 c1 c2 st lo (by omega) (by have := HLO.out; omega) _ (SI.on HS.out (Keep.of (below_over hwW hWB))) (SI.on HL.out (Keep.of (below_over hwW hWB)))).mono ?_
    rintro e w1 ⟨x1, y1, x2, y2, rfl, hown, hb1⟩
    have hW1 : Below W.heap.size W w1 := below_over hWB hb1
    have HOWN : Hid (OwnS (W.drew.alloc (.cells #[.slice none 0 0, .slice none 0 0, .slice none 0 0, .nilIface] 110)).heap.size w1 (.slice x1 st.length y1) (.slice x2 lo.length y2) (st, lo)) := hown
    clear hown
    dsimp only
    refine hK.out _ _ ⟨C0.out.on hW1, C2.out.on hW1⟩ (fun hHeld => ?_)
    clear hK K
    refine wpAnyH_take (i := 4) (v := ?_) rfl (by kernel_rfl) (by kernel_rfl) (by kernel_rfl) (fun _ _ _ h => h) (Or.inl ⟨by rfl, ?_⟩) hHeld ?_
    rotate_left 1
    · intro w' hSw
      obtain ⟨s1, s2⟩ := hSw
      obtain ⟨t0, _⟩ := s1.g0
      obtain ⟨t1, _⟩ := s2.g0
      obtain ⟨t2, _⟩ := s2.g1
      go_simp
      try with_reducible rfl
    simp only [Act.put]
    refine wpAnyH_ready (rs := [6]) (by kernel_rfl) (by simp) ?_
    refine AllReadyH.cons rfl (fun K hK => ?_) AllReadyH.nil
    have CX := CB.on hb1
    obtain ⟨a0, b0⟩ := CX.g0
    obtain ⟨a1, b1⟩ := CX.g1
    obtain ⟨a2, b2⟩ := CX.g2
    obtain ⟨a3, b3⟩ := CX.g3
    have CK := (((CX.s0 (.slice pa p.length pc)).s1 (.slice x1 st.length y1)).s2 (.slice x2 lo.length y2)).s3 .nilIface
    go_simp
    have hWF : Below W.heap.size W ((((w1.setCell ⟨W.heap.size, 0, none⟩ (.slice pa p.length pc)).setCell ⟨W.heap.size, 1, none⟩ (.slice x1 st.length y1)).setCell ⟨W.heap.size, 2, none⟩ (.slice x2 lo.length y2)).setCell ⟨W.heap.size, 3, none⟩ .nilIface) := (((hW1.setCell (p := ⟨W.heap.size, 0, none⟩) (Nat.le_refl _) _).setCell (p := ⟨W.heap.size, 1, none⟩) (Nat.le_refl _) _).setCell (p := ⟨W.heap.size, 2, none⟩) (Nat.le_refl _) _).setCell (p := ⟨W.heap.size, 3, none⟩) (Nat.le_refl _) _
    have HKN : (Value.slice x1 st.length y1).ownBlock ≠ some W.heap.size ∧ (Value.slice x2 lo.length y2).ownBlock ≠ some W.heap.size := ⟨fun e => absurd (HOWN.out.1.lt _ e).1 (by simp), fun e => absurd (HOWN.out.2.1.lt _ e).1 (by simp)⟩
    have HOW2 : OwnS W.heap.size ((((w1.setCell ⟨W.heap.size, 0, none⟩ (.slice pa p.length pc)).setCell ⟨W.heap.size, 1, none⟩ (.slice x1 st.length y1)).setCell ⟨W.heap.size, 2, none⟩ (.slice x2 lo.length y2)).setCell ⟨W.heap.size, 3, none⟩ .nilIface) (.slice x1 st.length y1) (.slice x2 lo.length y2) (st, lo) := ⟨ownBase (own_off HOWN.out.1 (grown_four _ _ _ _ _ _) HKN.1) (by simp), ownBase (own_off HOWN.out.2.1 (grown_four _ _ _ _ _ _) HKN.2) (by simp), HOWN.out.2.2⟩
    refine hK.out _ _ ⟨C0.out.on hWF, C2.out.on hWF⟩ (fun hHeld => ?_)
    have HKW : W.heap.size ≤ W.heap.size := Nat.le_refl _
    generalize (((w1.setCell ⟨W.heap.size, 0, none⟩ (.slice pa p.length pc)).setCell ⟨W.heap.size, 1, none⟩ (.slice x1 st.length y1)).setCell ⟨W.heap.size, 2, none⟩ (.slice x2 lo.length y2)).setCell ⟨W.heap.size, 3, none⟩ .nilIface = wF at *
    clear hK K a0 a1 a2 a3 b0 b1 b2 b3 CX HOWN hW1 hb1 hHeld CB
    refine wpAnyH_done (by kernel_rfl) ?_ _
    have HDK : Hid (DeskAt w wF [w.heap.size + 1 + 1 + 1, w.heap.size, w.heap.size + 1, w.heap.size + 1 + 1] wF W.heap.size (.slice pa p.length pc) ⟨false, st, lo⟩) := desk_new (n := W.heap.size) (below_over hwW hWF) hwW.size HKW CK HOW2 HKN HLO.out (by have := HZ.out; simp; omega)
    have CI1 : Hid (Cells wF (w.heap.size + 1) [.int .i64 i.1, .int .i64 i.2.1, .int .i64 i.2.2]) := C1.out.on hWF
    have CC1 : Hid (Cells wF w.heap.size [.slice pa p.length pc, .int .i64 cls, .int .i64 nm, .slice xa la ya, .int .i64 gives, .slice xc lc yc]) := C0.out.on hWF
    have CR1 : Hid (Cells wF (w.heap.size + 1 + 1 + 1) [.slice none 0 0, .slice none 0 0]) := C3.out.on hWF
    clear CK HOW2 HKN
    -- behind the region: the desk stands at block W.heap.size of world wF
    obtain ⟨i0, _⟩ := (CI1.out).g0
    obtain ⟨i1, _⟩ := (CI1.out).g1
    obtain ⟨i2, _⟩ := (CI1.out).g2
    obtain ⟨g4, _⟩ := (CC1.out) 4 _ rfl
    go_wp2_with fail
    refine (do_at B p HOKP.out HSP.out w wF [w.heap.size + 1 + 1 + 1, w.heap.size, w.heap.size + 1, w.heap.size + 1 + 1] wF W.heap.size pa pc HP.out ⟨false, st, lo⟩ HOKD.out HDK.out i hi gives hg).mono ?_
    rintro e w3 ⟨⟨v, rfl⟩, hd⟩
    have HR3 : Hid (Cells w3 (w.heap.size + 1 + 1 + 1) [.slice none 0 0, .slice none 0 0]) := hd.kept (by simp) CR1.out
    have HN3 : Hid (wF.heap.size ≤ wF.heap.size) := Nat.le_refl _
    cases hef : effF p gives i (st, lo) with
    | none =>
      have hbad : (doD p gives i ⟨false, st, lo⟩).bad = true := by
        have := do_is (p := p) gives i (st, lo) hst
        rw [hef] at this
        exact this
      obtain ⟨sv, g, c, ev, hr⟩ := hd
      obtain ⟨d3, _⟩ := hr.cells.g3
      have hev : ∃ s, ev = .iface 90 (.agg #[.string s]) := by
        rcases hr.err with ⟨_, h⟩ | ⟨h, _⟩
        · rw [hbad] at h; cases h
        · exact h
      obtain ⟨s, rfl⟩ := hev
      have hw3 : Below w.heap.size w w3 := hr.below
      obtain ⟨r0, q0⟩ := HR3.out.g0
      obtain ⟨r1, q1⟩ := HR3.out.g1
      have R5 := ((HR3.out).s0 (.slice none 0 0)).s1 (.slice none 0 0)
      obtain ⟨e0, _⟩ := R5.g0
      obtain ⟨e1, _⟩ := R5.g1
      have HE : Hid (Below w.heap.size w ((w3.drew.setCell ⟨w.heap.size + 1 + 1 + 1, 0, none⟩ (.slice none 0 0)).setCell ⟨w.heap.size + 1 + 1 + 1, 1, none⟩ (.slice none 0 0))) := (hw3.drew.setCell (p := ⟨w.heap.size + 1 + 1 + 1, 0, none⟩) (by simp; omega) _).setCell (p := ⟨w.heap.size + 1 + 1 + 1, 1, none⟩) (by simp; omega) _
      clear hr R5 hw3 hbad
      go_wp2_with fail
      go_region
      all_goals (try go_wp2)
      all_goals
        refine bodyPost_ret (v := .tuple #[.agg #[.slice none 0 0, .slice none 0 0], .iface 90 (.agg #[.string s])]) (by simp [results, Tryz.results47, go_sem, r0, r1]) rfl ?_
        exact ⟨.inr ⟨hef, s, rfl⟩, HE.out⟩
    | some t =>
      have hfine : doD p gives i ⟨false, st, lo⟩ = ⟨false, t.1, t.2⟩ := by
        have := do_is (p := p) gives i (st, lo) hst
        rw [hef] at this
        exact this
      rw [hfine] at hd
      obtain ⟨sv, g, c, ev, hr⟩ := hd
      have hev : ev = .nilIface := by
        rcases hr.err with ⟨h, _⟩ | ⟨_, h⟩
        · exact h
        · cases h
      subst hev
      obtain ⟨xs, ys, rfl, _⟩ := own_form hr.own
      obtain ⟨d1, _⟩ := hr.cells.g1
      obtain ⟨d2, _⟩ := hr.cells.g2
      obtain ⟨d3, _⟩ := hr.cells.g3
      obtain ⟨r0, q0⟩ := HR3.out.g0
      obtain ⟨r1, q1⟩ := HR3.out.g1
      have R5 := ((HR3.out).s0 (.slice xs t.1.length ys)).s1 (.slice (some ⟨g, 0, none⟩) 8 c)
      obtain ⟨e0, _⟩ := R5.g0
      obtain ⟨e1, _⟩ := R5.g1
      have HE : Hid (AnsS w.heap.size ((w3.setCell ⟨w.heap.size + 1 + 1 + 1, 0, none⟩ (.slice xs t.1.length ys)).setCell ⟨w.heap.size + 1 + 1 + 1, 1, none⟩ (.slice (some ⟨g, 0, none⟩) 8 c)) (.slice xs t.1.length ys) (.slice (some ⟨g, 0, none⟩) 8 c) t ∧ Below w.heap.size w ((w3.setCell ⟨w.heap.size + 1 + 1 + 1, 0, none⟩ (.slice xs t.1.length ys)).setCell ⟨w.heap.size + 1 + 1 + 1, 1, none⟩ (.slice (some ⟨g, 0, none⟩) 8 c))) := by
        have hne := hr.far (w.heap.size + 1 + 1 + 1) (by simp)
        exact ans_two hr hne.2.2.2.1 hne.2.2.2.2 (by omega)
      clear hr R5
      go_wp2
      refine bodyPost_ret (v := .tuple #[.agg #[.slice xs t.1.length ys, .slice (some ⟨g, 0, none⟩) 8 c], .nilIface]) (by simp [results, Tryz.results47, go_sem, e0, e1]) rfl ?_
      exact ⟨.inl ⟨t, _, _, hef, rfl, HE.out.1⟩, HE.out.2⟩
end Pg
end Go.Proofs.YtfdlljdljefkfaaGreatDoor
