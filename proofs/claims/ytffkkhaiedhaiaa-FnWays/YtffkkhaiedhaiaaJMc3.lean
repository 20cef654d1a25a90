/- The machine's call: the class that is asked for, and its method. -/
import Derived.Test.YtffkkhaiedhaiaaJMc2
import Derived.Test.YtffkkhaiedhaiaaJMtG
import Derived.Test.YtffkkhaiedhaiaaJMh0
namespace Go.Proofs.Ytffkkhaiedhaiaa
namespace Pg
open Go.ChangeShapes Go.WideShapes Go.ChangeAt Go.RowKit St Wd

set_option maxRecDepth 100000 in
set_option maxHeartbeats 4000000 in
theorem callOwn (Bp : Nat) (p : Prg) (bp po cap : Nat) (hok : okP p = true) (hsp : SmallP p) (B M : Nat) (m : Mc) (hcore : Core m) (q : Nat) (f : Fr) (G fcap : Nat) (vS vL vh vs : Value) (ch cf : List (List Value)) (Th Tf : Nat → Nat → Nat → Prop) (w : World) (hB : B ≤ w.heap.size) (hp : SK front Bp w (.slice (some ⟨bp, po, none⟩) p.length cap) p)
    (hT : Tp B M w m (q + 1) q f G fcap vS vL vh vs ch cf Th Tf) (hq : m.frames.length = q + 1) (hfo : FrOk f)
    (A Bi : Int) (b3 b5 : Nat) (h3 : Cells w b3 [.slice (some ⟨bp, po, none⟩) p.length cap]) (hI : Cells w b5 [.int .i64 17, .int .i64 A, .int .i64 Bi]) (hb5 : b5 ≠ G)
    (hA0 : 0 ≤ A) (hA : A < (p.length : Int)) (s k : Nat) (c : Cls) (own : Meth) (hse : selF p A Bi = (s : Int)) (hc : p[s]? = some c) (hk : c.meths[k]? = some own) (hoi : ownI c Bi = (k : Int)) (hm : methS p (selF p A Bi) Bi = some own)
    (R : Ending → World → Prop) (hR : ∀ w', MSt B M w' (callS p m f A Bi).1 → Below B w w' → R (.returned (.int .i64 (callS p m f A Bi).2)) w')
    {u0 u2 u4 u6 u15 u16 u17 u18 u19 u20 u21 u22 u23 u24 u25 u26 u27 u28 u29 u30 u31 u32 u33 u34 u35 u36 u37 u38 u39 u40 : Value} : Code.wp Try.prog (c9 [true, true, true]) (bodyPost Try.prog Try.f92 R) { tmps := #[u0, .pointer (some ⟨M, 0, none⟩), u2, .pointer (some ⟨b3, 0, none⟩), u4, .pointer (some ⟨b5, 0, none⟩), u6, .pointer (some ⟨G, q * 5, none⟩), undef, undef, undef, undef, undef, undef, undef, u15, u16, u17, u18, u19, u20, u21, u22, u23, u24, u25, u26, u27, u28, u29, u30, u31, u32, u33, u34, u35, u36, u37, u38, u39, u40, undef, undef, undef, undef, undef, undef, undef, undef, undef, undef, undef, undef, undef, undef, undef, undef, undef, undef, undef, undef, undef, undef, undef, undef, undef, undef, undef, undef, undef, undef, undef, undef, undef, undef, undef, undef, undef, undef, undef, undef, undef, undef, undef, undef, undef, undef, undef, undef, undef, undef, undef, undef, undef, undef, undef, undef, undef, undef, undef, undef, undef, undef, undef, undef, undef, undef, undef, undef, undef, undef, undef, undef, undef, undef, undef, undef, undef, undef, undef, undef, undef, undef, undef, undef, undef, undef, undef, undef, undef, undef, undef, undef, undef, undef, undef, undef, undef, undef, undef, undef, undef, undef, undef, undef, undef, undef, undef, undef, undef, undef, undef, undef, undef, undef, undef, undef, undef, undef, undef, undef, undef, undef, undef, undef, undef, undef, undef, undef, undef, undef], defers := [] } w := by
  obtain ⟨hsp', hcs⟩ := List.getElem?_eq_some_iff.1 hc
  obtain ⟨z1, t1, z2, t2, hcl⟩ := hp.cls hsp'
  rw [hcs] at hcl
  have hsc := hsp.2 c (List.mem_of_getElem? hc)
  have hml := hsc.2.1
  have ha3 : own.args.length ≤ 1048576 := (hsc.2.2 own (List.mem_of_getElem? hk)).1
  obtain ⟨hkl, hkk⟩ := List.getElem?_eq_some_iff.1 hk
  have HSM : Hid (SM front Bp w (.slice z2 c.meths.length t2) c.meths) := (hcl w (Below.refl _ _)).2.2.2.2
  obtain ⟨bm, om, av, cva, gc, cc, rfl, hme⟩ := HSM.out.meth hkl
  rw [hkk] at hme
  have hsi : (s : Int) < (p.length : Int) := by omega
  have hki : (k : Int) < (c.meths.length : Int) := by omega
  have HME : Hid (∀ X, Below w.heap.size w X → X.cell? ⟨bm, om + k * 4, none⟩ = some (.int .i64 own.name) ∧ X.cell? ⟨bm, om + k * 4 + 1, none⟩ = some (.slice av own.args.length cva) ∧ X.cell? ⟨bm, om + k * 4 + 2, none⟩ = some (.int .i64 own.gives) ∧ X.cell? ⟨bm, om + k * 4 + 3, none⟩ = some (.slice (some ⟨gc, 0, none⟩) own.code.length cc) ∧ SI true Bp X (.slice av own.args.length cva) own.args) := fun X hX => ⟨(hme X hX).1, (hme X hX).2.1, (hme X hX).2.2.1, (hme X hX).2.2.2.1, (hme X hX).2.2.2.2.2⟩
  have HALL : Hid (∀ x, Below w.heap.size w x → Below w.heap.size w x ∧ x.cell? ⟨b3, 0, none⟩ = some (.slice (some ⟨bp, po, none⟩) p.length cap) ∧ x.cell? ⟨b5, 1, none⟩ = some (.int .i64 A) ∧ x.cell? ⟨b5, 2, none⟩ = some (.int .i64 Bi) ∧ x.cell? ⟨bp, po + s * 3, none⟩ = some (.int .i64 c.super) ∧ x.cell? ⟨bp, po + s * 3 + 1, none⟩ = some (.slice z1 c.fields.length t1) ∧ x.cell? ⟨bp, po + s * 3 + 2, none⟩ = some (.slice (some ⟨bm, om, none⟩) c.meths.length t2)) := fun x hx =>
    ⟨hx, (h3.on hx).g0.1, (hI.on hx).g1.1, (hI.on hx).g2.1, (hcl x hx).1, (hcl x hx).2.1, (hcl x hx).2.2.1⟩
  have HSU := okP_sup hok
  have h6 := (okP_len hok).2
  have HC : Hid (∀ x, Below w.heap.size w x → Calls Try.prog 108 #[.agg #[.slice (some ⟨bp, po, none⟩) p.length cap], .int .i64 A, .int .i64 Bi] x fun e w' => e = .returned (.int .i64 (s : Int)) ∧ Below w.heap.size w w' ∧ Below x.heap.size x w') := fun x hx => by
    refine (l5Selected Bp p (some ⟨bp, po, none⟩) cap A Bi (by omega) hA hsp h6 HSU x (SK.on hp (Keep.of hx))).mono ?_
    rw [hse]
    rintro e w' ⟨rfl, hb'⟩
    exact ⟨rfl, below_over hx hb', hb'⟩
  have HR : Hid (∀ w', MSt B M w' (callS p m f A Bi).1 → Below B w w' → R (.returned (.int .i64 (callS p m f A Bi).2)) w') := hR
  have HT : Hid (∀ X, Below w.heap.size w X → Tp B M X m (q + 1) q f G fcap vS vL vh vs ch cf Th Tf) := fun X hX => hT.on hX
  have HI : Hid (Cells w b5 [.int .i64 17, .int .i64 A, .int .i64 Bi]) := hI
  have H3 : Hid (Cells w b3 [.slice (some ⟨bp, po, none⟩) p.length cap]) := h3
  have HP : Hid (SK front Bp w (.slice (some ⟨bp, po, none⟩) p.length cap) p) := hp
  have HM : Hid (methS p (selF p A Bi) Bi = some own) := hm
  have HOI : Hid (ownI c Bi = (k : Int)) := hoi
  have hlb : b5 < w.heap.size := cell_lt (hI.g0).1
  have hlg := hT.glt
  clear hcl hme hsc hc hk hkk hcs hoi hm hse HSU hR hT hI h3 hp
  unfold c9
  conv => arg 2; whnf
  conv => arg 4; dsimp only
  go_upto_region 4 with fail
  go_cut [8] from 41 to 50 (fun v u => ∃ b8 : Nat, v = .pointer (some ⟨b8, 0, none⟩) ∧ w.heap.size ≤ b8 ∧ Hid (Cells u b8 [.int .i64 c.super, .slice z1 c.fields.length t1, .slice (some ⟨bm, om, none⟩) c.meths.length t2]) ∧ Below w.heap.size w u)
  case first =>
    have hD0 : Below w.heap.size w w.drew := (Below.refl _ _).drew
    refine wp_region_held_drew (S := (fun x => Below w.heap.size w x ∧ x.cell? ⟨b3, 0, none⟩ = some (.slice (some ⟨bp, po, none⟩) p.length cap) ∧ x.cell? ⟨b5, 1, none⟩ = some (.int .i64 A) ∧ x.cell? ⟨b5, 2, none⟩ = some (.int .i64 Bi) ∧ x.cell? ⟨bp, po + s * 3, none⟩ = some (.int .i64 c.super) ∧ x.cell? ⟨bp, po + s * 3 + 1, none⟩ = some (.slice z1 c.fields.length t1) ∧ x.cell? ⟨bp, po + s * 3 + 2, none⟩ = some (.slice (some ⟨bm, om, none⟩) c.meths.length t2))) (by kernel_rfl) (HALL.out _ hD0) (fun hHeld => ?_)
    generalize w.drew = Q0 at hD0 hHeld ⊢
    refine wpAnyH_take (i := 0) (v := ?_) rfl (by kernel_rfl) (by kernel_rfl) (by kernel_rfl) (fun _ _ _ h => h) (Or.inl ⟨by rfl, ?_⟩) hHeld ?_
    rotate_left 1
    · intro w' hSw
      obtain ⟨_, y1, y2, y3, y4, y5, y6⟩ := hSw
      go_simp
      try with_reducible rfl
    simp only [Act.put, List.getElem_toArray, List.getElem_cons_zero]
    refine wpAnyH_take (i := 1) (v := ?_) rfl (by kernel_rfl) (by kernel_rfl) (by kernel_rfl) (fun _ _ _ h => h) (Or.inl ⟨by rfl, ?_⟩) hHeld ?_
    rotate_left 1
    · intro w' hSw
      obtain ⟨_, y1, y2, y3, y4, y5, y6⟩ := hSw
      go_simp
      try with_reducible rfl
    simp only [Act.put, List.getElem_toArray, List.getElem_cons_zero, List.getElem_cons_succ]
    refine wpAnyH_take (i := 2) (v := ?_) rfl (by kernel_rfl) (by kernel_rfl) (by kernel_rfl) (fun _ _ _ h => h) (Or.inl ⟨by rfl, ?_⟩) hHeld ?_
    rotate_left 1
    · intro w' hSw
      obtain ⟨_, y1, y2, y3, y4, y5, y6⟩ := hSw
      go_simp
      try with_reducible rfl
    simp only [Act.put, List.getElem_toArray, List.getElem_cons_zero, List.getElem_cons_succ]
    refine wpAnyH_take (i := 3) (v := ?_) rfl (by kernel_rfl) (by kernel_rfl) (by kernel_rfl) (fun _ _ _ h => h) (Or.inl ⟨by rfl, ?_⟩) hHeld ?_
    rotate_left 1
    · intro w' hSw
      obtain ⟨_, y1, y2, y3, y4, y5, y6⟩ := hSw
      go_simp
      try with_reducible rfl
    simp only [Act.put, List.getElem_toArray, List.getElem_cons_zero, List.getElem_cons_succ]
    refine wpAnyH_take (i := 4) (v := ?_) rfl (by kernel_rfl) (by kernel_rfl) (by kernel_rfl) (fun _ _ _ h => h) (Or.inl ⟨by rfl, ?_⟩) hHeld ?_
    rotate_left 1
    · intro w' hSw
      obtain ⟨_, y1, y2, y3, y4, y5, y6⟩ := hSw
      go_simp
      try with_reducible rfl
    simp only [Act.put, List.getElem_toArray, List.getElem_cons_zero, List.getElem_cons_succ]
    refine wpAnyH_take (i := 5) (v := ?_) rfl (by kernel_rfl) (by kernel_rfl) (by kernel_rfl) (fun _ _ _ h => h) (Or.inl ⟨by rfl, ?_⟩) hHeld ?_
    rotate_left 1
    · intro w' hSw
      obtain ⟨_, y1, y2, y3, y4, y5, y6⟩ := hSw
      go_simp
      try with_reducible rfl
    simp only [Act.put, List.getElem_toArray, List.getElem_cons_zero, List.getElem_cons_succ]
    refine wpAnyH_take (i := 6) (v := ?_) rfl (by kernel_rfl) (by kernel_rfl) (by kernel_rfl) (fun _ _ _ h => h) (Or.inl ⟨by rfl, ?_⟩) hHeld ?_
    rotate_left 1
    · intro w' hSw
      obtain ⟨_, y1, y2, y3, y4, y5, y6⟩ := hSw
      go_simp
      try with_reducible rfl
    simp only [Act.put, List.getElem_toArray, List.getElem_cons_zero, List.getElem_cons_succ]
    have hQ0 := hD0.size
    refine wpAnyH_ready (rs := [7, 10]) (by kernel_rfl) (by simp) ?_
    refine AllReadyH.cons rfl (fun K hK => ?_) (AllReadyH.cons rfl (fun K hK => ?_) AllReadyH.nil)
    · go_simp
      refine (HC.out Q0 hD0).mono ?_
      rintro e Q1 ⟨rfl, hq1, _⟩
      dsimp only
      refine hK.out _ _ (HALL.out Q1 hq1) (fun hHeld => ?_)
      clear hK K
      refine wpAnyH_take (i := 8) (v := ?_) rfl (by kernel_rfl) (by kernel_rfl) (by kernel_rfl) (fun _ _ _ h => h) (Or.inl ⟨by rfl, ?_⟩) hHeld ?_
      rotate_left 1
      · intro w' hSw
        obtain ⟨_, y1, y2, y3, y4, y5, y6⟩ := hSw
        go_simp
        try with_reducible rfl
      simp only [Act.put, List.getElem_toArray, List.getElem_cons_zero, List.getElem_cons_succ]
      refine wpAnyH_take (i := 9) (v := ?_) rfl (by kernel_rfl) (by kernel_rfl) (by kernel_rfl) (fun _ _ _ h => h) (Or.inl ⟨by rfl, ?_⟩) hHeld ?_
      rotate_left 1
      · intro w' hSw
        obtain ⟨_, y1, y2, y3, y4, y5, y6⟩ := hSw
        go_simp
        try with_reducible rfl
      simp only [Act.put, List.getElem_toArray, List.getElem_cons_zero, List.getElem_cons_succ]
      refine wpAnyH_ready (rs := [10]) (by kernel_rfl) (by simp) ?_
      refine AllReadyH.cons rfl (fun K hK => ?_) AllReadyH.nil
      go_simp
      refine hK.out _ _ (HALL.out _ (hq1.alloc hq1.size _)) (fun hHeld => ?_)
      clear hK K
      refine wpAnyH_ready (rs := [11]) (by kernel_rfl) (by simp) ?_
      refine AllReadyH.cons rfl (fun K hK => ?_) AllReadyH.nil
      go_simp
      refine hK.out _ _ (HALL.out _ (hq1.alloc hq1.size _)) (fun hHeld => ?_)
      clear hK K
      refine wpAnyH_done (by kernel_rfl) ?_ _
      have hbE : Below w.heap.size w (Q1.alloc (.cells #[.int .i64 c.super, .slice z1 c.fields.length t1, .slice (some ⟨bm, om, none⟩) c.meths.length t2] 81)) := hq1.alloc hq1.size _
      have C6 : Cells (Q1.alloc (.cells #[.int .i64 c.super, .slice z1 c.fields.length t1, .slice (some ⟨bm, om, none⟩) c.meths.length t2] 81)) Q1.heap.size [.int .i64 c.super, .slice z1 c.fields.length t1, .slice (some ⟨bm, om, none⟩) c.meths.length t2] := Cells.new Q1 _ rfl _ _
      have hs6 : w.heap.size ≤ Q1.heap.size := hq1.size
      clear hHeld hD0 hQ0
      generalize Q1.alloc (.cells #[.int .i64 c.super, .slice z1 c.fields.length t1, .slice (some ⟨bm, om, none⟩) c.meths.length t2] 81) = QE at *
      go_wp2_with fail
      go_meet
      exact ⟨Q1.heap.size, rfl, hs6, C6, hbE⟩
    · go_simp
      have hq2 : Below w.heap.size w (Q0.alloc (.cells #[.int .i64 0, .slice none 0 0, .slice none 0 0] 81)) := hD0.alloc hQ0 _
      have NC : Cells (Q0.alloc (.cells #[.int .i64 0, .slice none 0 0, .slice none 0 0] 81)) Q0.heap.size [.int .i64 0, .slice none 0 0, .slice none 0 0] := Cells.new Q0 _ rfl _ _
      refine hK.out _ _ (HALL.out _ hq2) (fun hHeld => ?_)
      clear hK K
      generalize Q0.alloc (.cells #[.int .i64 0, .slice none 0 0, .slice none 0 0] 81) = Q2 at *
      refine wpAnyH_ready (rs := [7]) (by kernel_rfl) (by simp) ?_
      refine AllReadyH.cons rfl (fun K hK => ?_) AllReadyH.nil
      go_simp
      refine (HC.out Q2 hq2).mono ?_
      rintro e Q1 ⟨rfl, hq1, hq12⟩
      dsimp only
      have NC1 := NC.on hq12
      refine hK.out _ _ (HALL.out Q1 hq1) (fun hHeld => ?_)
      clear hK K
      refine wpAnyH_take (i := 8) (v := ?_) rfl (by kernel_rfl) (by kernel_rfl) (by kernel_rfl) (fun _ _ _ h => h) (Or.inl ⟨by rfl, ?_⟩) hHeld ?_
      rotate_left 1
      · intro w' hSw
        obtain ⟨_, y1, y2, y3, y4, y5, y6⟩ := hSw
        go_simp
        try with_reducible rfl
      simp only [Act.put, List.getElem_toArray, List.getElem_cons_zero, List.getElem_cons_succ]
      refine wpAnyH_take (i := 9) (v := ?_) rfl (by kernel_rfl) (by kernel_rfl) (by kernel_rfl) (fun _ _ _ h => h) (Or.inl ⟨by rfl, ?_⟩) hHeld ?_
      rotate_left 1
      · intro w' hSw
        obtain ⟨_, y1, y2, y3, y4, y5, y6⟩ := hSw
        go_simp
        try with_reducible rfl
      simp only [Act.put, List.getElem_toArray, List.getElem_cons_zero, List.getElem_cons_succ]
      have C6 := ((NC1.s0 (.int .i64 c.super)).s1 (.slice z1 c.fields.length t1)).s2 (.slice (some ⟨bm, om, none⟩) c.meths.length t2)
      have hbE : Below w.heap.size w (((Q1.setCell ⟨Q0.heap.size, 0, none⟩ (.int .i64 c.super)).setCell ⟨Q0.heap.size, 1, none⟩ (.slice z1 c.fields.length t1)).setCell ⟨Q0.heap.size, 2, none⟩ (.slice (some ⟨bm, om, none⟩) c.meths.length t2)) := ((hq1.setCell hQ0 _).setCell hQ0 _).setCell hQ0 _
      obtain ⟨n0, f0⟩ := NC1.g0
      obtain ⟨n1, f1⟩ := NC1.g1
      obtain ⟨n2, f2⟩ := NC1.g2
      refine wpAnyH_ready (rs := [11]) (by kernel_rfl) (by simp) ?_
      refine AllReadyH.cons rfl (fun K hK => ?_) AllReadyH.nil
      go_simp
      refine hK.out _ _ (HALL.out _ hbE) (fun hHeld => ?_)
      clear hK K
      refine wpAnyH_done (by kernel_rfl) ?_ _
      clear hHeld hD0 NC NC1 n0 f0 n1 f1 n2 f2
      generalize ((Q1.setCell ⟨Q0.heap.size, 0, none⟩ (.int .i64 c.super)).setCell ⟨Q0.heap.size, 1, none⟩ (.slice z1 c.fields.length t1)).setCell ⟨Q0.heap.size, 2, none⟩ (.slice (some ⟨bm, om, none⟩) c.meths.length t2) = QE at *
      go_wp2_with fail
      go_meet
      exact ⟨Q0.heap.size, rfl, hQ0, C6, hbE⟩
  case rest =>
    obtain ⟨b8, rfl, hb8, C8, hbU⟩ := hcut
    obtain ⟨w4, rfl⟩ : ∃ x, x = wc := ⟨wc, rfl⟩
    have HALL : Hid (∀ x, Below w4.heap.size w4 x → Below w4.heap.size w4 x ∧ x.cell? ⟨b8, 0, none⟩ = some (.int .i64 c.super) ∧ x.cell? ⟨b8, 1, none⟩ = some (.slice z1 c.fields.length t1) ∧ x.cell? ⟨b8, 2, none⟩ = some (.slice (some ⟨bm, om, none⟩) c.meths.length t2) ∧ x.cell? ⟨b5, 2, none⟩ = some (.int .i64 Bi) ∧ x.cell? ⟨bm, om + k * 4, none⟩ = some (.int .i64 own.name) ∧ x.cell? ⟨bm, om + k * 4 + 1, none⟩ = some (.slice av own.args.length cva) ∧ x.cell? ⟨bm, om + k * 4 + 2, none⟩ = some (.int .i64 own.gives) ∧ x.cell? ⟨bm, om + k * 4 + 3, none⟩ = some (.slice (some ⟨gc, 0, none⟩) own.code.length cc)) := fun x hx => by
      have hwx : Below w.heap.size w x := below_over hbU hx
      obtain ⟨m1, m2, m3, m4, _⟩ := HME.out x hwx
      have c8 := C8.out.on hx
      exact ⟨hx, c8.g0.1, c8.g1.1, c8.g2.1, (HI.out.on hwx).g2.1, m1, m2, m3, m4⟩
    have HC : Hid (∀ x, Below w4.heap.size w4 x → Calls Try.prog 80 #[.agg #[.int .i64 c.super, .slice z1 c.fields.length t1, .slice (some ⟨bm, om, none⟩) c.meths.length t2], .int .i64 Bi] x fun e w' => e = .returned (.int .i64 (k : Int)) ∧ Below w4.heap.size w4 w' ∧ Below x.heap.size x w') := fun x hx => by
      have hwx : Below w.heap.size w x := below_over hbU hx
      refine (l4Own Bp c z1 (some ⟨bm, om, none⟩) t2 c.fields.length t1 Bi hml x (SM.on HSM.out (Keep.of hwx))).mono ?_
      rw [HOI.out]
      rintro e w' ⟨rfl, hb'⟩
      exact ⟨rfl, below_over hx hb', hb'⟩
    clear C8
    go_upto_region 5 with fail
    go_cut [9] from 51 to 58 (fun v u => ∃ b9 : Nat, v = .pointer (some ⟨b9, 0, none⟩) ∧ w4.heap.size ≤ b9 ∧ Hid (Cells u b9 [.int .i64 own.name, .slice av own.args.length cva, .int .i64 own.gives, .slice (some ⟨gc, 0, none⟩) own.code.length cc]) ∧ Below w4.heap.size w4 u)
    case first =>
      have hD0 : Below w4.heap.size w4 w4.drew := (Below.refl _ _).drew
      refine wp_region_held_drew (S := (fun x => Below w4.heap.size w4 x ∧ x.cell? ⟨b8, 0, none⟩ = some (.int .i64 c.super) ∧ x.cell? ⟨b8, 1, none⟩ = some (.slice z1 c.fields.length t1) ∧ x.cell? ⟨b8, 2, none⟩ = some (.slice (some ⟨bm, om, none⟩) c.meths.length t2) ∧ x.cell? ⟨b5, 2, none⟩ = some (.int .i64 Bi) ∧ x.cell? ⟨bm, om + k * 4, none⟩ = some (.int .i64 own.name) ∧ x.cell? ⟨bm, om + k * 4 + 1, none⟩ = some (.slice av own.args.length cva) ∧ x.cell? ⟨bm, om + k * 4 + 2, none⟩ = some (.int .i64 own.gives) ∧ x.cell? ⟨bm, om + k * 4 + 3, none⟩ = some (.slice (some ⟨gc, 0, none⟩) own.code.length cc))) (by kernel_rfl) (HALL.out _ hD0) (fun hHeld => ?_)
      generalize w4.drew = Q0 at hD0 hHeld ⊢
      refine wpAnyH_take (i := 0) (v := ?_) rfl (by kernel_rfl) (by kernel_rfl) (by kernel_rfl) (fun _ _ _ h => h) (Or.inl ⟨by rfl, ?_⟩) hHeld ?_
      rotate_left 1
      · intro w' hSw
        obtain ⟨_, y1, y2, y3, y4, y5, y6, y7, y8⟩ := hSw
        go_simp
        try with_reducible rfl
      simp only [Act.put, List.getElem_toArray, List.getElem_cons_zero]
      refine wpAnyH_take (i := 1) (v := ?_) rfl (by kernel_rfl) (by kernel_rfl) (by kernel_rfl) (fun _ _ _ h => h) (Or.inl ⟨by rfl, ?_⟩) hHeld ?_
      rotate_left 1
      · intro w' hSw
        obtain ⟨_, y1, y2, y3, y4, y5, y6, y7, y8⟩ := hSw
        go_simp
        try with_reducible rfl
      simp only [Act.put, List.getElem_toArray, List.getElem_cons_zero, List.getElem_cons_succ]
      refine wpAnyH_take (i := 2) (v := ?_) rfl (by kernel_rfl) (by kernel_rfl) (by kernel_rfl) (fun _ _ _ h => h) (Or.inl ⟨by rfl, ?_⟩) hHeld ?_
      rotate_left 1
      · intro w' hSw
        obtain ⟨_, y1, y2, y3, y4, y5, y6, y7, y8⟩ := hSw
        go_simp
        try with_reducible rfl
      simp only [Act.put, List.getElem_toArray, List.getElem_cons_zero, List.getElem_cons_succ]
      refine wpAnyH_take (i := 3) (v := ?_) rfl (by kernel_rfl) (by kernel_rfl) (by kernel_rfl) (fun _ _ _ h => h) (Or.inl ⟨by rfl, ?_⟩) hHeld ?_
      rotate_left 1
      · intro w' hSw
        obtain ⟨_, y1, y2, y3, y4, y5, y6, y7, y8⟩ := hSw
        go_simp
        try with_reducible rfl
      simp only [Act.put, List.getElem_toArray, List.getElem_cons_zero, List.getElem_cons_succ]
      refine wpAnyH_take (i := 4) (v := ?_) rfl (by kernel_rfl) (by kernel_rfl) (by kernel_rfl) (fun _ _ _ h => h) (Or.inl ⟨by rfl, ?_⟩) hHeld ?_
      rotate_left 1
      · intro w' hSw
        obtain ⟨_, y1, y2, y3, y4, y5, y6, y7, y8⟩ := hSw
        go_simp
        try with_reducible rfl
      simp only [Act.put, List.getElem_toArray, List.getElem_cons_zero, List.getElem_cons_succ]
      have hQ0 := hD0.size
      refine wpAnyH_ready (rs := [5, 8]) (by kernel_rfl) (by simp) ?_
      refine AllReadyH.cons rfl (fun K hK => ?_) (AllReadyH.cons rfl (fun K hK => ?_) AllReadyH.nil)
      · go_simp
        refine (HC.out Q0 hD0).mono ?_
        rintro e Q1 ⟨rfl, hq1, _⟩
        dsimp only
        refine hK.out _ _ (HALL.out Q1 hq1) (fun hHeld => ?_)
        clear hK K
        refine wpAnyH_take (i := 6) (v := ?_) rfl (by kernel_rfl) (by kernel_rfl) (by kernel_rfl) (fun _ _ _ h => h) (Or.inl ⟨by rfl, ?_⟩) hHeld ?_
        rotate_left 1
        · intro w' hSw
          obtain ⟨_, y1, y2, y3, y4, y5, y6, y7, y8⟩ := hSw
          go_simp
          try with_reducible rfl
        simp only [Act.put, List.getElem_toArray, List.getElem_cons_zero, List.getElem_cons_succ]
        refine wpAnyH_take (i := 7) (v := ?_) rfl (by kernel_rfl) (by kernel_rfl) (by kernel_rfl) (fun _ _ _ h => h) (Or.inl ⟨by rfl, ?_⟩) hHeld ?_
        rotate_left 1
        · intro w' hSw
          obtain ⟨_, y1, y2, y3, y4, y5, y6, y7, y8⟩ := hSw
          go_simp
          try with_reducible rfl
        simp only [Act.put, List.getElem_toArray, List.getElem_cons_zero, List.getElem_cons_succ]
        refine wpAnyH_ready (rs := [8]) (by kernel_rfl) (by simp) ?_
        refine AllReadyH.cons rfl (fun K hK => ?_) AllReadyH.nil
        go_simp
        refine hK.out _ _ (HALL.out _ (hq1.alloc hq1.size _)) (fun hHeld => ?_)
        clear hK K
        refine wpAnyH_ready (rs := [9]) (by kernel_rfl) (by simp) ?_
        refine AllReadyH.cons rfl (fun K hK => ?_) AllReadyH.nil
        go_simp
        refine hK.out _ _ (HALL.out _ (hq1.alloc hq1.size _)) (fun hHeld => ?_)
        clear hK K
        refine wpAnyH_done (by kernel_rfl) ?_ _
        have hbE : Below w4.heap.size w4 (Q1.alloc (.cells #[.int .i64 own.name, .slice av own.args.length cva, .int .i64 own.gives, .slice (some ⟨gc, 0, none⟩) own.code.length cc] 78)) := hq1.alloc hq1.size _
        have C6 : Cells (Q1.alloc (.cells #[.int .i64 own.name, .slice av own.args.length cva, .int .i64 own.gives, .slice (some ⟨gc, 0, none⟩) own.code.length cc] 78)) Q1.heap.size [.int .i64 own.name, .slice av own.args.length cva, .int .i64 own.gives, .slice (some ⟨gc, 0, none⟩) own.code.length cc] := Cells.new Q1 _ rfl _ _
        have hs6 : w4.heap.size ≤ Q1.heap.size := hq1.size
        clear hHeld hD0 hQ0
        generalize Q1.alloc (.cells #[.int .i64 own.name, .slice av own.args.length cva, .int .i64 own.gives, .slice (some ⟨gc, 0, none⟩) own.code.length cc] 78) = QE at *
        go_wp2_with fail
        go_meet
        exact ⟨Q1.heap.size, rfl, hs6, C6, hbE⟩
      · go_simp
        have hq2 : Below w4.heap.size w4 (Q0.alloc (.cells #[.int .i64 0, .slice none 0 0, .int .i64 0, .slice none 0 0] 78)) := hD0.alloc hQ0 _
        have NC : Cells (Q0.alloc (.cells #[.int .i64 0, .slice none 0 0, .int .i64 0, .slice none 0 0] 78)) Q0.heap.size [.int .i64 0, .slice none 0 0, .int .i64 0, .slice none 0 0] := Cells.new Q0 _ rfl _ _
        refine hK.out _ _ (HALL.out _ hq2) (fun hHeld => ?_)
        clear hK K
        generalize Q0.alloc (.cells #[.int .i64 0, .slice none 0 0, .int .i64 0, .slice none 0 0] 78) = Q2 at *
        refine wpAnyH_ready (rs := [5]) (by kernel_rfl) (by simp) ?_
        refine AllReadyH.cons rfl (fun K hK => ?_) AllReadyH.nil
        go_simp
        refine (HC.out Q2 hq2).mono ?_
        rintro e Q1 ⟨rfl, hq1, hq12⟩
        dsimp only
        have NC1 := NC.on hq12
        refine hK.out _ _ (HALL.out Q1 hq1) (fun hHeld => ?_)
        clear hK K
        refine wpAnyH_take (i := 6) (v := ?_) rfl (by kernel_rfl) (by kernel_rfl) (by kernel_rfl) (fun _ _ _ h => h) (Or.inl ⟨by rfl, ?_⟩) hHeld ?_
        rotate_left 1
        · intro w' hSw
          obtain ⟨_, y1, y2, y3, y4, y5, y6, y7, y8⟩ := hSw
          go_simp
          try with_reducible rfl
        simp only [Act.put, List.getElem_toArray, List.getElem_cons_zero, List.getElem_cons_succ]
        refine wpAnyH_take (i := 7) (v := ?_) rfl (by kernel_rfl) (by kernel_rfl) (by kernel_rfl) (fun _ _ _ h => h) (Or.inl ⟨by rfl, ?_⟩) hHeld ?_
        rotate_left 1
        · intro w' hSw
          obtain ⟨_, y1, y2, y3, y4, y5, y6, y7, y8⟩ := hSw
          go_simp
          try with_reducible rfl
        simp only [Act.put, List.getElem_toArray, List.getElem_cons_zero, List.getElem_cons_succ]
        have C6 := (((NC1.s0 (.int .i64 own.name)).s1 (.slice av own.args.length cva)).s2 (.int .i64 own.gives)).s3 (.slice (some ⟨gc, 0, none⟩) own.code.length cc)
        have hbE : Below w4.heap.size w4 ((((Q1.setCell ⟨Q0.heap.size, 0, none⟩ (.int .i64 own.name)).setCell ⟨Q0.heap.size, 1, none⟩ (.slice av own.args.length cva)).setCell ⟨Q0.heap.size, 2, none⟩ (.int .i64 own.gives)).setCell ⟨Q0.heap.size, 3, none⟩ (.slice (some ⟨gc, 0, none⟩) own.code.length cc)) := (((hq1.setCell hQ0 _).setCell hQ0 _).setCell hQ0 _).setCell hQ0 _
        obtain ⟨n0, f0⟩ := NC1.g0
        obtain ⟨n1, f1⟩ := NC1.g1
        obtain ⟨n2, f2⟩ := NC1.g2
        obtain ⟨n3, f3⟩ := NC1.g3
        refine wpAnyH_ready (rs := [9]) (by kernel_rfl) (by simp) ?_
        refine AllReadyH.cons rfl (fun K hK => ?_) AllReadyH.nil
        go_simp
        refine hK.out _ _ (HALL.out _ hbE) (fun hHeld => ?_)
        clear hK K
        refine wpAnyH_done (by kernel_rfl) ?_ _
        clear hHeld hD0 NC NC1 n0 f0 n1 f1 n2 f2 n3 f3
        generalize (((Q1.setCell ⟨Q0.heap.size, 0, none⟩ (.int .i64 own.name)).setCell ⟨Q0.heap.size, 1, none⟩ (.slice av own.args.length cva)).setCell ⟨Q0.heap.size, 2, none⟩ (.int .i64 own.gives)).setCell ⟨Q0.heap.size, 3, none⟩ (.slice (some ⟨gc, 0, none⟩) own.code.length cc) = QE at *
        go_wp2_with fail
        go_meet
        exact ⟨Q0.heap.size, rfl, hQ0, C6, hbE⟩
    case rest =>
      obtain ⟨b9, rfl, hb9, C9, hbV⟩ := hcut
      have hwc : Below w.heap.size w wc := below_over hbU hbV
      clear HALL HC
      repeat (fail_if_success (with_reducible refine (id : Code.wp Try.prog (Code.seq (Code.region 6 _ _) _) _ _ _ → _) ?_)
              go_step)
      exact callKeep Bp p bp po cap hok hsp B M m hcore q f G fcap vS vL vh vs ch cf Th Tf wc (Nat.le_trans hB hwc.size) (SK.on HP.out (Keep.of hwc)) (HT.out wc hwc) hq hfo A Bi b3 b5 (H3.out.on hwc) (HI.out.on hwc) hb5 own ha3 b9 Bp av _ _ ⟨cva, rfl⟩ C9.out (HME.out wc hwc).2.2.2.2 HM.out (by omega) R (fun w' h1 h2 => HR.out w' h1 ((hwc.mono hB).trans h2))
end Pg
end Go.Proofs.Ytffkkhaiedhaiaa
