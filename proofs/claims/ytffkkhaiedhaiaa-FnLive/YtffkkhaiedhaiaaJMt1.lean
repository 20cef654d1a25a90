/- One step of the specification's machine, in memory. -/
import Derived.Test.YtffkkhaiedhaiaaJMc4
import Derived.Test.YtffkkhaiedhaiaaJMg1
import Derived.Test.YtffkkhaiedhaiaaJMtC
import Derived.Test.YtffkkhaiedhaiaaJPg3
import Derived.Test.YtffkkhaiedhaiaaJNx4
import Derived.Lib.QuietBelow
import Derived.BigQuiet
import Derived.Deep.CutRange
import Derived.Deep.RegionHeld3
namespace Go.Proofs.Ytffkkhaiedhaiaa
namespace Pg
open Go.ChangeShapes Go.WideShapes Go.ChangeAt Go.RowKit St Wd

set_option maxRecDepth 100000 in
set_option maxHeartbeats 4000000 in
theorem l8Step_at (Bp : Nat) (p : Prg) (bp po cap : Nat) (hok : okP p = true) (B M : Nat) (m : Mc) (hm0 : Core m) (hfr : m.frames ≠ []) (hps : ∀ f ∈ m.frames, 0 ≤ f.pos ∧ f.pos ≤ 1000) (w : World) (hB : B ≤ w.heap.size) (hm : MSt B M w m)
    (hp : SK front Bp w (.slice (some ⟨bp, po, none⟩) p.length cap) p) (hCO : ∀ f, m.frames.getLast? = some f → CallOk Bp p bp po cap B M m f) :
    Calls Try.prog 56 #[.agg #[.slice (some ⟨bp, po, none⟩) p.length cap], .pointer (some ⟨M, 0, none⟩)] w fun e w' => e = .returned (.int .i64 (stepS p m).2) ∧ MSt B M w' (stepS p m).1 ∧ Below B w w' := by
  have h6 := (okP_len hok).2
  have hl0 : 0 < m.frames.length := List.length_pos_iff.2 hfr
  obtain ⟨q, hq⟩ : ∃ q, m.frames.length = q + 1 := ⟨m.frames.length - 1, by omega⟩
  obtain ⟨f, hf⟩ : ∃ f, m.frames[q]? = some f := ⟨m.frames[q]'(by omega), List.getElem?_eq_getElem (by omega)⟩
  have hlast : m.frames.getLast? = some f := by rw [List.getLast?_eq_getElem?, hq]; simpa using hf
  have hmem : f ∈ m.frames := List.mem_of_getElem? hf
  have HCALL : Hid (CallOk Bp p bp po cap B M m f) := hCO f hlast
  have HM0 : Hid (Core m) := hm0
  have HPS : Hid (∀ f ∈ m.frames, 0 ≤ f.pos ∧ f.pos ≤ 1000) := hps
  have hfo := hm0.fr f hmem
  have hpf := hps f hmem
  have h30 := hm0.f30
  obtain ⟨G, fcap, vS, vL, vh, vs, ch, cf, Th, Tf, hT⟩ := hm.tp hf
  rw [hq] at hT
  obtain ⟨W, hW⟩ : ∃ W, W = w.alloc (.cells #[.slice (some ⟨bp, po, none⟩) p.length cap] 39) := ⟨_, rfl⟩
  have hwW : Below w.heap.size w W := by rw [hW]; exact (Below.refl _ _).alloc (Nat.le_refl _) _
  have P0 : Hid (Cells W w.heap.size [.slice (some ⟨bp, po, none⟩) p.length cap]) := by rw [hW]; exact Cells.new w _ rfl _ _
  have HT : Hid (∀ X, Below w.heap.size w X → Tp B M X m (q + 1) q f G fcap vS vL vh vs ch cf Th Tf) := fun X hX => hT.on hX
  have HP : Hid (SK front Bp w (.slice (some ⟨bp, po, none⟩) p.length cap) p) := hp
  have HW : Hid (W = w.alloc (.cells #[.slice (some ⟨bp, po, none⟩) p.length cap] 39)) := hW
  have HST : Hid (stepS p m = match ownS p f with | none => (m, 6) | some own => if f.pos < 0 ∨ (own.code.length : Int) ≤ f.pos then (m, 6) else stepI p m f own ((own.code[f.pos.toNat]?).getD (0, 0, 0))) := by show _ = _; unfold stepS; rw [hlast]; rfl
  have r1W := (HT.out W hwW).cells.g1.1
  have k0 := (HT.out W hwW).cell (d := 0) (by omega)
  have k1 := (HT.out W hwW).cell (d := 1) (by omega)
  have k2 := (HT.out W hwW).cell (d := 2) (by omega)
  have p0 := P0.out.g0.1
  simp only [Nat.add_zero] at k0
  replace k0 : W.cell? ⟨G, q * 5, none⟩ = some (.int .i64 f.cls) := k0
  replace k1 : W.cell? ⟨G, q * 5 + 1, none⟩ = some (.int .i64 f.name) := k1
  replace k2 : W.cell? ⟨G, q * 5 + 2, none⟩ = some (.int .i64 f.pos) := k2
  have HMS : Hid (∀ X, Below w.heap.size w X → MSt B M X m) := fun X hX => (HT.out X hX).st
  clear hW hp hT hm hlast hl0
  have e1 := cell_regrown r1W
  have e2 := cell_regrown k0
  have e3 := cell_regrown k1
  have e4 := cell_regrown p0
  go_enter Try.func56, Try.ntmps56
  go_upto_region 1 with fail
  rw [← HW.out]
  clear HW
  refine wp_region_quiet_below (by kernel_rfl) (by kernel_rfl) ?_
  repeat (go_big_quiet_step (fail))
  refine wpQuiet_nil ?_
  intro _ hw'
  obtain ⟨⟨dq, osq⟩, hw''⟩ := hw'
  subst hw''
  have hbq := below_regrown W dq osq
  have hwQ : Below w.heap.size w (Sort.grow (redrawn W dq) osq) := below_over hwW hbq
  have P0Q : Hid (Cells (Sort.grow (redrawn W dq) osq) w.heap.size [.slice (some ⟨bp, po, none⟩) p.length cap]) := P0.out.on hbq
  have k0 := e2 dq osq
  have k1 := e3 dq osq
  have p0 := e4 dq osq
  have k2 : (Sort.grow (redrawn W dq) osq).cell? ⟨G, q * 5 + 2, none⟩ = some (.int .i64 f.pos) := (HT.out _ hwQ).cell (d := 2) (by omega)
  clear e1 e2 e3 e4 P0 hwW hbq r1W
  generalize Sort.grow (redrawn W dq) osq = X at *
  have e2 := cell_regrown k0
  have e3 := cell_regrown k1
  have e4 := cell_regrown p0
  by_cases hc0 : f.cls < 0
  · have HE : Hid (stepS p m = (m, 6)) := by show _ = _; rw [HST.out]; simp [ownS, hc0]
    have hd : decide (f.cls < 0) = true := by simpa using hc0
    clear HST
    go_upto_region 2 with fail
    refine wp_region_quiet_below (by kernel_rfl) (by kernel_rfl) ?_
    repeat (go_big_quiet_step (fail))
    refine wpQuiet_nil ?_
    intro _ hw'
    obtain ⟨⟨dq, osq⟩, hw''⟩ := hw'
    subst hw''
    have hbY := below_regrown X dq osq
    have hwY : Below w.heap.size w (Sort.grow (redrawn X dq) osq) := below_over hwQ hbY
    clear e2 e3 e4 k0 k1 k2 p0 P0Q
    have HY : Hid (MSt B M (Sort.grow (redrawn X dq) osq) m) := HMS.out _ hwY
    have hBY : Below B w (Sort.grow (redrawn X dq) osq) := hwY.mono hB
    clear hbY hwY
    generalize Sort.grow (redrawn X dq) osq = Y at *
    go_wp2
    go_ret
    exact ⟨by rw [HE.out]; rfl, by rw [HE.out]; exact HY.out, hBY⟩
  · obtain ⟨j, hj⟩ : ∃ j : Nat, f.cls = (j : Int) := ⟨f.cls.toNat, by omega⟩
    rw [hj] at k0 e2
    have hd0 : decide ((j : Int) < 0) = false := by simp
    by_cases hjp : j < p.length
    · have hji : ¬ ((j : Int) ≥ (p.length : Int)) := by omega
      have hjl : (j : Int) < (p.length : Int) := by omega
      have hd1 : decide ((j : Int) ≥ (p.length : Int)) = false := by simp; omega
      obtain ⟨z1, t1, z2, t2, hcl⟩ := HP.out.cls hjp
      have HCL := hcl
      obtain ⟨d0, d1, d2, hsi, hsm⟩ := hcl X hwQ
      have HOS : Hid (ownS p f = ownF p[j] f.name) := by show _ = _; unfold ownS; rw [if_neg hc0, hj, Int.toNat_natCast, List.getElem?_eq_getElem hjp]
      have HSM : Hid (SM front Bp w (.slice z2 p[j].meths.length t2) p[j].meths) := (hcl w (Below.refl _ _)).2.2.2.2
      have hml : p[j].meths.length ≤ 1048576 := by
        have := okP_at hok hjp
        rw [okAt_of (List.getElem?_eq_getElem hjp)] at this
        have := (okC_few this).2
        omega
      have HCLH : Hid (∀ Y, Below w.heap.size w Y → Y.cell? ⟨bp, po + j * 3, none⟩ = some (.int .i64 p[j].super) ∧ Y.cell? ⟨bp, po + j * 3 + 1, none⟩ = some (.slice z1 p[j].fields.length t1) ∧ Y.cell? ⟨bp, po + j * 3 + 2, none⟩ = some (.slice z2 p[j].meths.length t2)) := fun Y hY => ⟨(hcl Y hY).1, (hcl Y hY).2.1, (hcl Y hY).2.2.1⟩
      have HTWO := ownI_two p[j] f.name
      have cO : ∀ d os, Calls Try.prog 80 #[.agg #[.int .i64 p[j].super, .slice z1 p[j].fields.length t1, .slice z2 p[j].meths.length t2], .int .i64 f.name] (Sort.grow (redrawn X d) os) fun e w'' => e = .returned (.int .i64 (ownI p[j] f.name)) ∧ ∃ q : Regrown, w'' = Sort.grow (redrawn X q.d) q.os := fun d os => (l4Own Bp p[j] z1 z2 t2 p[j].fields.length t1 f.name hml _ (SM.on hsm (Keep.of (below_regrown X d os)))).regrown_of
      have e5 := cell_regrown d0
      have e6 := cell_regrown d1
      have e7 := cell_regrown d2
      clear hcl HCL hsi hsm d0 d1 d2
      generalize hcc : p[j] = c at *
      clear hcc
      rcases HTWO with ⟨ho1, ho2⟩ | ⟨k, own, ho1, hk, ho2⟩
      · have HE : Hid (stepS p m = (m, 6)) := by show _ = _; rw [HST.out, HOS.out, ho2]
        rw [ho1] at cO
        clear HST HOS ho2 ho1
        go_upto_region 2 with fail
        refine wp_region_quiet_below (by kernel_rfl) (by kernel_rfl) ?_
        repeat (go_big_quiet_step ((go_at_call 80; exact cO _ _)))
        refine wpQuiet_nil ?_
        intro _ hw'
        obtain ⟨⟨dq, osq⟩, hw''⟩ := hw'
        subst hw''
        have hbY := below_regrown X dq osq
        have hwY : Below w.heap.size w (Sort.grow (redrawn X dq) osq) := below_over hwQ hbY
        clear e2 e3 e4 e5 e6 e7 cO k0 k1 k2 p0 P0Q
        have HY : Hid (MSt B M (Sort.grow (redrawn X dq) osq) m) := HMS.out _ hwY
        have hBY : Below B w (Sort.grow (redrawn X dq) osq) := hwY.mono hB
        clear hbY hwY
        generalize Sort.grow (redrawn X dq) osq = Y at *
        go_wp2
        go_ret
        exact ⟨by rw [HE.out]; rfl, by rw [HE.out]; exact HY.out, hBY⟩
      · rw [ho1] at cO
        have hkn : decide ((k : Int) < 0) = false := by simp
        go_upto_region 2 with fail
        refine wp_region_quiet_below (by kernel_rfl) (by kernel_rfl) ?_
        repeat (go_big_quiet_step ((go_at_call 80; exact cO _ _)))
        refine wpQuiet_nil ?_
        intro _ hw'
        obtain ⟨⟨dq, osq⟩, hw''⟩ := hw'
        subst hw''
        have hbY := below_regrown X dq osq
        have hwY : Below w.heap.size w (Sort.grow (redrawn X dq) osq) := below_over hwQ hbY
        clear e2 e3 e4 e5 e6 e7 cO k0 k1 k2 p0
        have P0Y : Hid (Cells (Sort.grow (redrawn X dq) osq) w.heap.size [.slice (some ⟨bp, po, none⟩) p.length cap]) := P0Q.out.on hbY
        clear P0Q hbY hwQ
        generalize Sort.grow (redrawn X dq) osq = Y at *
        clear X dq osq
        have hkl := (List.getElem?_eq_some_iff.1 hk).1
        obtain ⟨bm, om, av, cva, gc, cc, rfl, hme⟩ := HSM.out.meth hkl
        rw [(List.getElem?_eq_some_iff.1 hk).2] at hme
        have HME : Hid (∀ X, Below w.heap.size w X → X.cell? ⟨bm, om + k * 4, none⟩ = some (.int .i64 own.name) ∧ X.cell? ⟨bm, om + k * 4 + 1, none⟩ = some (.slice av own.args.length cva) ∧ X.cell? ⟨bm, om + k * 4 + 2, none⟩ = some (.int .i64 own.gives) ∧ X.cell? ⟨bm, om + k * 4 + 3, none⟩ = some (.slice (some ⟨gc, 0, none⟩) own.code.length cc)) := fun X hX => ⟨(hme X hX).1, (hme X hX).2.1, (hme X hX).2.2.1, (hme X hX).2.2.2.1⟩
        have HCO : Hid (∀ X, Below w.heap.size w X → Row X gc 0 own.code) := fun X hX => (hme X hX).2.2.2.2.1
        have hko : Lay.codeOk own.code = true := ownS_code hok (f := f) (own := own) (by rw [HOS.out, ho2])
        have HST2 : Hid (stepS p m = if f.pos < 0 ∨ (own.code.length : Int) ≤ f.pos then (m, 6) else stepI p m f own ((own.code[f.pos.toNat]?).getD (0, 0, 0))) := by show _ = _; rw [HST.out, HOS.out, ho2]
        have HALL : Hid (∀ x, Below Y.heap.size Y x → Below Y.heap.size Y x ∧ x.cell? ⟨w.heap.size, 0, none⟩ = some (.slice (some ⟨bp, po, none⟩) p.length cap) ∧ x.cell? ⟨G, q * 5, none⟩ = some (.int .i64 (j : Int)) ∧ x.cell? ⟨G, q * 5 + 1, none⟩ = some (.int .i64 f.name) ∧ x.cell? ⟨bp, po + j * 3, none⟩ = some (.int .i64 c.super) ∧ x.cell? ⟨bp, po + j * 3 + 1, none⟩ = some (.slice z1 c.fields.length t1) ∧ x.cell? ⟨bp, po + j * 3 + 2, none⟩ = some (.slice (some ⟨bm, om, none⟩) c.meths.length t2) ∧ x.cell? ⟨bm, om + k * 4, none⟩ = some (.int .i64 own.name) ∧ x.cell? ⟨bm, om + k * 4 + 1, none⟩ = some (.slice av own.args.length cva) ∧ x.cell? ⟨bm, om + k * 4 + 2, none⟩ = some (.int .i64 own.gives) ∧ x.cell? ⟨bm, om + k * 4 + 3, none⟩ = some (.slice (some ⟨gc, 0, none⟩) own.code.length cc)) := fun x hx => by
          have hwx : Below w.heap.size w x := below_over hwY hx
          obtain ⟨a1, a2, a3⟩ := HCLH.out x hwx
          obtain ⟨b1, b2, b3, b4⟩ := HME.out x hwx
          have t0 : x.cell? ⟨G, q * 5 + 0, none⟩ = some (.int .i64 f.cls) := (HT.out x hwx).cell (d := 0) (by omega)
          have t1' : x.cell? ⟨G, q * 5 + 1, none⟩ = some (.int .i64 f.name) := (HT.out x hwx).cell (d := 1) (by omega)
          rw [hj, Nat.add_zero] at t0
          exact ⟨hx, (P0Y.out.on hx).g0.1, t0, t1', a1, a2, a3, b1, b2, b3, b4⟩
        have HC : Hid (∀ x, Below Y.heap.size Y x → Calls Try.prog 80 #[.agg #[.int .i64 c.super, .slice z1 c.fields.length t1, .slice (some ⟨bm, om, none⟩) c.meths.length t2], .int .i64 f.name] x fun e w' => e = .returned (.int .i64 (k : Int)) ∧ Below Y.heap.size Y w' ∧ Below x.heap.size x w') := fun x hx => by
          have hwx : Below w.heap.size w x := below_over hwY hx
          refine (l4Own Bp c z1 (some ⟨bm, om, none⟩) t2 c.fields.length t1 f.name hml x (SM.on HSM.out (Keep.of hwx))).mono ?_
          rw [ho1]
          rintro e w' ⟨rfl, hb'⟩
          exact ⟨rfl, below_over hx hb', hb'⟩
        have NCa : Hid (∀ wA, Below (Y.alloc (.cells #[.int .i64 0, .slice none 0 0, .int .i64 0, .slice none 0 0] 78)).drew.heap.size (Y.alloc (.cells #[.int .i64 0, .slice none 0 0, .int .i64 0, .slice none 0 0] 78)).drew wA → Cells wA Y.heap.size [.int .i64 0, .slice none 0 0, .int .i64 0, .slice none 0 0]) := fun wA hb => Cells.on (Cells.drewC (Cells.new Y _ rfl _ _)) hb
        have hwYs := hwY.size
        clear hme HSM ho1 ho2 HST HOS hd0 hd1 hkn
        have hkli : (k : Int) < (c.meths.length : Int) := by omega
        go_upto_region 4 with fail
        go_cut [6] from 14 to 79 (fun v u => ∃ b6 : Nat, v = .pointer (some ⟨b6, 0, none⟩) ∧ Y.heap.size ≤ b6 ∧ Hid (Cells u b6 [.int .i64 own.name, .slice av own.args.length cva, .int .i64 own.gives, .slice (some ⟨gc, 0, none⟩) own.code.length cc]) ∧ Below Y.heap.size Y u)
        case first =>
          have hD0 : Below Y.heap.size Y Y.drew := (Below.refl _ _).drew
          refine wp_region_held_drew (S := (fun x => Below Y.heap.size Y x ∧ x.cell? ⟨w.heap.size, 0, none⟩ = some (.slice (some ⟨bp, po, none⟩) p.length cap) ∧ x.cell? ⟨G, q * 5, none⟩ = some (.int .i64 (j : Int)) ∧ x.cell? ⟨G, q * 5 + 1, none⟩ = some (.int .i64 f.name) ∧ x.cell? ⟨bp, po + j * 3, none⟩ = some (.int .i64 c.super) ∧ x.cell? ⟨bp, po + j * 3 + 1, none⟩ = some (.slice z1 c.fields.length t1) ∧ x.cell? ⟨bp, po + j * 3 + 2, none⟩ = some (.slice (some ⟨bm, om, none⟩) c.meths.length t2) ∧ x.cell? ⟨bm, om + k * 4, none⟩ = some (.int .i64 own.name) ∧ x.cell? ⟨bm, om + k * 4 + 1, none⟩ = some (.slice av own.args.length cva) ∧ x.cell? ⟨bm, om + k * 4 + 2, none⟩ = some (.int .i64 own.gives) ∧ x.cell? ⟨bm, om + k * 4 + 3, none⟩ = some (.slice (some ⟨gc, 0, none⟩) own.code.length cc))) (by kernel_rfl) (HALL.out _ hD0) (fun hHeld => ?_)
          generalize Y.drew = Q0 at hD0 hHeld ⊢
          refine wpAnyH_take (i := 0) (v := ?_) rfl (by kernel_rfl) (by kernel_rfl) (by kernel_rfl) (fun _ _ _ h => h) (Or.inl ⟨by rfl, ?_⟩) hHeld ?_
          rotate_left 1
          · intro w' hSw
            obtain ⟨_, y1, y2, y3, y4, y5, y6, y7, y8, y9, yA⟩ := hSw
            go_simp
            try with_reducible rfl
          simp only [Act.put, List.getElem_toArray, List.getElem_cons_zero]
          refine wpAnyH_take (i := 1) (v := ?_) rfl (by kernel_rfl) (by kernel_rfl) (by kernel_rfl) (fun _ _ _ h => h) (Or.inl ⟨by rfl, ?_⟩) hHeld ?_
          rotate_left 1
          · intro w' hSw
            obtain ⟨_, y1, y2, y3, y4, y5, y6, y7, y8, y9, yA⟩ := hSw
            go_simp
            try with_reducible rfl
          simp only [Act.put, List.getElem_toArray, List.getElem_cons_zero, List.getElem_cons_succ]
          refine wpAnyH_take (i := 2) (v := ?_) rfl (by kernel_rfl) (by kernel_rfl) (by kernel_rfl) (fun _ _ _ h => h) (Or.inl ⟨by rfl, ?_⟩) hHeld ?_
          rotate_left 1
          · intro w' hSw
            obtain ⟨_, y1, y2, y3, y4, y5, y6, y7, y8, y9, yA⟩ := hSw
            go_simp
            try with_reducible rfl
          simp only [Act.put, List.getElem_toArray, List.getElem_cons_zero, List.getElem_cons_succ]
          refine wpAnyH_take (i := 3) (v := ?_) rfl (by kernel_rfl) (by kernel_rfl) (by kernel_rfl) (fun _ _ _ h => h) (Or.inl ⟨by rfl, ?_⟩) hHeld ?_
          rotate_left 1
          · intro w' hSw
            obtain ⟨_, y1, y2, y3, y4, y5, y6, y7, y8, y9, yA⟩ := hSw
            go_simp
            try with_reducible rfl
          simp only [Act.put, List.getElem_toArray, List.getElem_cons_zero, List.getElem_cons_succ]
          refine wpAnyH_take (i := 4) (v := ?_) rfl (by kernel_rfl) (by kernel_rfl) (by kernel_rfl) (fun _ _ _ h => h) (Or.inl ⟨by rfl, ?_⟩) hHeld ?_
          rotate_left 1
          · intro w' hSw
            obtain ⟨_, y1, y2, y3, y4, y5, y6, y7, y8, y9, yA⟩ := hSw
            go_simp
            try with_reducible rfl
          simp only [Act.put, List.getElem_toArray, List.getElem_cons_zero, List.getElem_cons_succ]
          refine wpAnyH_take (i := 5) (v := ?_) rfl (by kernel_rfl) (by kernel_rfl) (by kernel_rfl) (fun _ _ _ h => h) (Or.inl ⟨by rfl, ?_⟩) hHeld ?_
          rotate_left 1
          · intro w' hSw
            obtain ⟨_, y1, y2, y3, y4, y5, y6, y7, y8, y9, yA⟩ := hSw
            go_simp
            try with_reducible rfl
          simp only [Act.put, List.getElem_toArray, List.getElem_cons_zero, List.getElem_cons_succ]
          refine wpAnyH_take (i := 6) (v := ?_) rfl (by kernel_rfl) (by kernel_rfl) (by kernel_rfl) (fun _ _ _ h => h) (Or.inl ⟨by rfl, ?_⟩) hHeld ?_
          rotate_left 1
          · intro w' hSw
            obtain ⟨_, y1, y2, y3, y4, y5, y6, y7, y8, y9, yA⟩ := hSw
            go_simp
            try with_reducible rfl
          simp only [Act.put, List.getElem_toArray, List.getElem_cons_zero, List.getElem_cons_succ]
          refine wpAnyH_take (i := 7) (v := ?_) rfl (by kernel_rfl) (by kernel_rfl) (by kernel_rfl) (fun _ _ _ h => h) (Or.inl ⟨by rfl, ?_⟩) hHeld ?_
          rotate_left 1
          · intro w' hSw
            obtain ⟨_, y1, y2, y3, y4, y5, y6, y7, y8, y9, yA⟩ := hSw
            go_simp
            try with_reducible rfl
          simp only [Act.put, List.getElem_toArray, List.getElem_cons_zero, List.getElem_cons_succ]
          refine wpAnyH_take (i := 8) (v := ?_) rfl (by kernel_rfl) (by kernel_rfl) (by kernel_rfl) (fun _ _ _ h => h) (Or.inl ⟨by rfl, ?_⟩) hHeld ?_
          rotate_left 1
          · intro w' hSw
            obtain ⟨_, y1, y2, y3, y4, y5, y6, y7, y8, y9, yA⟩ := hSw
            go_simp
            try with_reducible rfl
          simp only [Act.put, List.getElem_toArray, List.getElem_cons_zero, List.getElem_cons_succ]
          refine wpAnyH_take (i := 9) (v := ?_) rfl (by kernel_rfl) (by kernel_rfl) (by kernel_rfl) (fun _ _ _ h => h) (Or.inl ⟨by rfl, ?_⟩) hHeld ?_
          rotate_left 1
          · intro w' hSw
            obtain ⟨_, y1, y2, y3, y4, y5, y6, y7, y8, y9, yA⟩ := hSw
            go_simp
            try with_reducible rfl
          simp only [Act.put, List.getElem_toArray, List.getElem_cons_zero, List.getElem_cons_succ]
          refine wpAnyH_take (i := 10) (v := ?_) rfl (by kernel_rfl) (by kernel_rfl) (by kernel_rfl) (fun _ _ _ h => h) (Or.inl ⟨by rfl, ?_⟩) hHeld ?_
          rotate_left 1
          · intro w' hSw
            obtain ⟨_, y1, y2, y3, y4, y5, y6, y7, y8, y9, yA⟩ := hSw
            go_simp
            try with_reducible rfl
          simp only [Act.put, List.getElem_toArray, List.getElem_cons_zero, List.getElem_cons_succ]
          refine wpAnyH_take (i := 11) (v := ?_) rfl (by kernel_rfl) (by kernel_rfl) (by kernel_rfl) (fun _ _ _ h => h) (Or.inl ⟨by rfl, ?_⟩) hHeld ?_
          rotate_left 1
          · intro w' hSw
            obtain ⟨_, y1, y2, y3, y4, y5, y6, y7, y8, y9, yA⟩ := hSw
            go_simp
            try with_reducible rfl
          simp only [Act.put, List.getElem_toArray, List.getElem_cons_zero, List.getElem_cons_succ]
          refine wpAnyH_take (i := 12) (v := ?_) rfl (by kernel_rfl) (by kernel_rfl) (by kernel_rfl) (fun _ _ _ h => h) (Or.inl ⟨by rfl, ?_⟩) hHeld ?_
          rotate_left 1
          · intro w' hSw
            obtain ⟨_, y1, y2, y3, y4, y5, y6, y7, y8, y9, yA⟩ := hSw
            go_simp
            try with_reducible rfl
          simp only [Act.put, List.getElem_toArray, List.getElem_cons_zero, List.getElem_cons_succ]
          refine wpAnyH_take (i := 13) (v := ?_) rfl (by kernel_rfl) (by kernel_rfl) (by kernel_rfl) (fun _ _ _ h => h) (Or.inl ⟨by rfl, ?_⟩) hHeld ?_
          rotate_left 1
          · intro w' hSw
            obtain ⟨_, y1, y2, y3, y4, y5, y6, y7, y8, y9, yA⟩ := hSw
            go_simp
            try with_reducible rfl
          simp only [Act.put, List.getElem_toArray, List.getElem_cons_zero, List.getElem_cons_succ]
          refine wpAnyH_take (i := 14) (v := ?_) rfl (by kernel_rfl) (by kernel_rfl) (by kernel_rfl) (fun _ _ _ h => h) (Or.inl ⟨by rfl, ?_⟩) hHeld ?_
          rotate_left 1
          · intro w' hSw
            obtain ⟨_, y1, y2, y3, y4, y5, y6, y7, y8, y9, yA⟩ := hSw
            go_simp
            try with_reducible rfl
          simp only [Act.put, List.getElem_toArray, List.getElem_cons_zero, List.getElem_cons_succ]
          refine wpAnyH_take (i := 15) (v := ?_) rfl (by kernel_rfl) (by kernel_rfl) (by kernel_rfl) (fun _ _ _ h => h) (Or.inl ⟨by rfl, ?_⟩) hHeld ?_
          rotate_left 1
          · intro w' hSw
            obtain ⟨_, y1, y2, y3, y4, y5, y6, y7, y8, y9, yA⟩ := hSw
            go_simp
            try with_reducible rfl
          simp only [Act.put, List.getElem_toArray, List.getElem_cons_zero, List.getElem_cons_succ]
          refine wpAnyH_take (i := 16) (v := ?_) rfl (by kernel_rfl) (by kernel_rfl) (by kernel_rfl) (fun _ _ _ h => h) (Or.inl ⟨by rfl, ?_⟩) hHeld ?_
          rotate_left 1
          · intro w' hSw
            obtain ⟨_, y1, y2, y3, y4, y5, y6, y7, y8, y9, yA⟩ := hSw
            go_simp
            try with_reducible rfl
          simp only [Act.put, List.getElem_toArray, List.getElem_cons_zero, List.getElem_cons_succ]
          refine wpAnyH_take (i := 17) (v := ?_) rfl (by kernel_rfl) (by kernel_rfl) (by kernel_rfl) (fun _ _ _ h => h) (Or.inl ⟨by rfl, ?_⟩) hHeld ?_
          rotate_left 1
          · intro w' hSw
            obtain ⟨_, y1, y2, y3, y4, y5, y6, y7, y8, y9, yA⟩ := hSw
            go_simp
            try with_reducible rfl
          simp only [Act.put, List.getElem_toArray, List.getElem_cons_zero, List.getElem_cons_succ]
          refine wpAnyH_take (i := 18) (v := ?_) rfl (by kernel_rfl) (by kernel_rfl) (by kernel_rfl) (fun _ _ _ h => h) (Or.inl ⟨by rfl, ?_⟩) hHeld ?_
          rotate_left 1
          · intro w' hSw
            obtain ⟨_, y1, y2, y3, y4, y5, y6, y7, y8, y9, yA⟩ := hSw
            go_simp
            try with_reducible rfl
          simp only [Act.put, List.getElem_toArray, List.getElem_cons_zero, List.getElem_cons_succ]
          refine wpAnyH_take (i := 19) (v := ?_) rfl (by kernel_rfl) (by kernel_rfl) (by kernel_rfl) (fun _ _ _ h => h) (Or.inl ⟨by rfl, ?_⟩) hHeld ?_
          rotate_left 1
          · intro w' hSw
            obtain ⟨_, y1, y2, y3, y4, y5, y6, y7, y8, y9, yA⟩ := hSw
            go_simp
            try with_reducible rfl
          simp only [Act.put, List.getElem_toArray, List.getElem_cons_zero, List.getElem_cons_succ]
          refine wpAnyH_take (i := 20) (v := ?_) rfl (by kernel_rfl) (by kernel_rfl) (by kernel_rfl) (fun _ _ _ h => h) (Or.inl ⟨by rfl, ?_⟩) hHeld ?_
          rotate_left 1
          · intro w' hSw
            obtain ⟨_, y1, y2, y3, y4, y5, y6, y7, y8, y9, yA⟩ := hSw
            go_simp
            try with_reducible rfl
          simp only [Act.put, List.getElem_toArray, List.getElem_cons_zero, List.getElem_cons_succ]
          have hQ0 := hD0.size
          refine wpAnyH_ready (rs := [21, 24]) (by kernel_rfl) (by simp) ?_
          refine AllReadyH.cons rfl (fun K hK => ?_) (AllReadyH.cons rfl (fun K hK => ?_) AllReadyH.nil)
          · go_simp
            refine (HC.out Q0 hD0).mono ?_
            rintro e Q1 ⟨rfl, hq1, _⟩
            dsimp only
            refine hK.out _ _ (HALL.out Q1 hq1) (fun hHeld => ?_)
            clear hK K
            refine wpAnyH_take (i := 22) (v := ?_) rfl (by kernel_rfl) (by kernel_rfl) (by kernel_rfl) (fun _ _ _ h => h) (Or.inl ⟨by rfl, ?_⟩) hHeld ?_
            rotate_left 1
            · intro w' hSw
              obtain ⟨_, y1, y2, y3, y4, y5, y6, y7, y8, y9, yA⟩ := hSw
              go_simp
              try with_reducible rfl
            simp only [Act.put, List.getElem_toArray, List.getElem_cons_zero, List.getElem_cons_succ]
            refine wpAnyH_take (i := 23) (v := ?_) rfl (by kernel_rfl) (by kernel_rfl) (by kernel_rfl) (fun _ _ _ h => h) (Or.inl ⟨by rfl, ?_⟩) hHeld ?_
            rotate_left 1
            · intro w' hSw
              obtain ⟨_, y1, y2, y3, y4, y5, y6, y7, y8, y9, yA⟩ := hSw
              go_simp
              try with_reducible rfl
            simp only [Act.put, List.getElem_toArray, List.getElem_cons_zero, List.getElem_cons_succ]
            refine wpAnyH_ready (rs := [24]) (by kernel_rfl) (by simp) ?_
            refine AllReadyH.cons rfl (fun K hK => ?_) AllReadyH.nil
            go_simp
            refine hK.out _ _ (HALL.out _ (hq1.alloc hq1.size _)) (fun hHeld => ?_)
            clear hK K
            refine wpAnyH_ready (rs := [25]) (by kernel_rfl) (by simp) ?_
            refine AllReadyH.cons rfl (fun K hK => ?_) AllReadyH.nil
            go_simp
            refine hK.out _ _ (HALL.out _ (hq1.alloc hq1.size _)) (fun hHeld => ?_)
            clear hK K
            refine wpAnyH_done (by kernel_rfl) ?_ _
            have hbE : Below Y.heap.size Y (Q1.alloc (.cells #[.int .i64 own.name, .slice av own.args.length cva, .int .i64 own.gives, .slice (some ⟨gc, 0, none⟩) own.code.length cc] 78)) := hq1.alloc hq1.size _
            have C6 : Cells (Q1.alloc (.cells #[.int .i64 own.name, .slice av own.args.length cva, .int .i64 own.gives, .slice (some ⟨gc, 0, none⟩) own.code.length cc] 78)) Q1.heap.size [.int .i64 own.name, .slice av own.args.length cva, .int .i64 own.gives, .slice (some ⟨gc, 0, none⟩) own.code.length cc] := Cells.new Q1 _ rfl _ _
            have hs6 : Y.heap.size ≤ Q1.heap.size := hq1.size
            clear hHeld hD0 hQ0
            generalize Q1.alloc (.cells #[.int .i64 own.name, .slice av own.args.length cva, .int .i64 own.gives, .slice (some ⟨gc, 0, none⟩) own.code.length cc] 78) = QE at *
            go_wp2_with fail
            go_meet
            exact ⟨Q1.heap.size, rfl, hs6, C6, hbE⟩
          · go_simp
            have hq2 : Below Y.heap.size Y (Q0.alloc (.cells #[.int .i64 0, .slice none 0 0, .int .i64 0, .slice none 0 0] 78)) := hD0.alloc hQ0 _
            have NC : Cells (Q0.alloc (.cells #[.int .i64 0, .slice none 0 0, .int .i64 0, .slice none 0 0] 78)) Q0.heap.size [.int .i64 0, .slice none 0 0, .int .i64 0, .slice none 0 0] := Cells.new Q0 _ rfl _ _
            refine hK.out _ _ (HALL.out _ hq2) (fun hHeld => ?_)
            clear hK K
            generalize Q0.alloc (.cells #[.int .i64 0, .slice none 0 0, .int .i64 0, .slice none 0 0] 78) = Q2 at *
            refine wpAnyH_ready (rs := [21]) (by kernel_rfl) (by simp) ?_
            refine AllReadyH.cons rfl (fun K hK => ?_) AllReadyH.nil
            go_simp
            refine (HC.out Q2 hq2).mono ?_
            rintro e Q1 ⟨rfl, hq1, hq12⟩
            dsimp only
            have NC1 := NC.on hq12
            refine hK.out _ _ (HALL.out Q1 hq1) (fun hHeld => ?_)
            clear hK K
            refine wpAnyH_take (i := 22) (v := ?_) rfl (by kernel_rfl) (by kernel_rfl) (by kernel_rfl) (fun _ _ _ h => h) (Or.inl ⟨by rfl, ?_⟩) hHeld ?_
            rotate_left 1
            · intro w' hSw
              obtain ⟨_, y1, y2, y3, y4, y5, y6, y7, y8, y9, yA⟩ := hSw
              go_simp
              try with_reducible rfl
            simp only [Act.put, List.getElem_toArray, List.getElem_cons_zero, List.getElem_cons_succ]
            refine wpAnyH_take (i := 23) (v := ?_) rfl (by kernel_rfl) (by kernel_rfl) (by kernel_rfl) (fun _ _ _ h => h) (Or.inl ⟨by rfl, ?_⟩) hHeld ?_
            rotate_left 1
            · intro w' hSw
              obtain ⟨_, y1, y2, y3, y4, y5, y6, y7, y8, y9, yA⟩ := hSw
              go_simp
              try with_reducible rfl
            simp only [Act.put, List.getElem_toArray, List.getElem_cons_zero, List.getElem_cons_succ]
            have C6 := (((NC1.s0 (.int .i64 own.name)).s1 (.slice av own.args.length cva)).s2 (.int .i64 own.gives)).s3 (.slice (some ⟨gc, 0, none⟩) own.code.length cc)
            have hbE : Below Y.heap.size Y ((((Q1.setCell ⟨Q0.heap.size, 0, none⟩ (.int .i64 own.name)).setCell ⟨Q0.heap.size, 1, none⟩ (.slice av own.args.length cva)).setCell ⟨Q0.heap.size, 2, none⟩ (.int .i64 own.gives)).setCell ⟨Q0.heap.size, 3, none⟩ (.slice (some ⟨gc, 0, none⟩) own.code.length cc)) := (((hq1.setCell hQ0 _).setCell hQ0 _).setCell hQ0 _).setCell hQ0 _
            obtain ⟨n0, f0⟩ := NC1.g0
            obtain ⟨n1, f1⟩ := NC1.g1
            obtain ⟨n2, f2⟩ := NC1.g2
            obtain ⟨n3, f3⟩ := NC1.g3
            refine wpAnyH_ready (rs := [25]) (by kernel_rfl) (by simp) ?_
            refine AllReadyH.cons rfl (fun K hK => ?_) AllReadyH.nil
            go_simp
            refine hK.out _ _ (HALL.out _ hbE) (fun hHeld => ?_)
            clear hK K
            refine wpAnyH_done (by kernel_rfl) ?_ _
            clear hHeld hD0 NC NC1 n0 n1 n2 n3 f0 f1 f2 f3
            generalize (((Q1.setCell ⟨Q0.heap.size, 0, none⟩ (.int .i64 own.name)).setCell ⟨Q0.heap.size, 1, none⟩ (.slice av own.args.length cva)).setCell ⟨Q0.heap.size, 2, none⟩ (.int .i64 own.gives)).setCell ⟨Q0.heap.size, 3, none⟩ (.slice (some ⟨gc, 0, none⟩) own.code.length cc) = QE at *
            go_wp2_with fail
            go_meet
            exact ⟨Q0.heap.size, rfl, hQ0, C6, hbE⟩
        case rest =>
          obtain ⟨b6, rfl, hb6, C6, hbU⟩ := hcut
          have hwC : Below w.heap.size w wc := below_over hwY hbU
          have P0C : Hid (Cells wc w.heap.size [.slice (some ⟨bp, po, none⟩) p.length cap]) := P0Y.out.on hbU
          have k2C : wc.cell? ⟨G, q * 5 + 2, none⟩ = some (.int .i64 f.pos) := (HT.out wc hwC).cell (d := 2) (by omega)
          have c63 := C6.out.g3.1
          obtain ⟨pn, hpn⟩ : ∃ pn : Nat, f.pos = (pn : Int) := ⟨f.pos.toNat, by omega⟩
          rw [hpn] at k2C
          have e2 := cell_regrown k2C
          have e6 := cell_regrown c63
          have hd0 : decide ((pn : Int) < 0) = false := by simp
          have hb6w : w.heap.size ≤ b6 := Nat.le_trans hwYs hb6
          clear HALL HC NCa P0Y hbU HCLH
          by_cases hlen : pn < own.code.length
          · have hli : (pn : Int) < (own.code.length : Int) := by omega
            have hd1 : decide ((pn : Int) ≥ (own.code.length : Int)) = false := by simp; omega
            have HS3 : Hid (stepS p m = stepI p m f own (insF own.code pn)) := by
              show _ = _
              rw [HST2.out, if_neg (by omega), hpn, Int.toNat_natCast]
              rfl
            go_upto_region 5 with fail
            refine wp_region_quiet_below (by kernel_rfl) (by kernel_rfl) ?_
            repeat (go_big_quiet_step (fail))
            refine wpQuiet_nil ?_
            intro _ hw'
            obtain ⟨⟨dq, osq⟩, hw''⟩ := hw'
            subst hw''
            have hbZ := below_regrown wc dq osq
            have hwZ : Below w.heap.size w (Sort.grow (redrawn wc dq) osq) := below_over hwC hbZ
            have P0Z : Hid (Cells (Sort.grow (redrawn wc dq) osq) w.heap.size [.slice (some ⟨bp, po, none⟩) p.length cap]) := P0C.out.on hbZ
            have C6Z : Hid (Cells (Sort.grow (redrawn wc dq) osq) b6 [.int .i64 own.name, .slice av own.args.length cva, .int .i64 own.gives, .slice (some ⟨gc, 0, none⟩) own.code.length cc]) := C6.out.on hbZ
            clear P0C C6 e2 e6 c63 k2C hbZ hwC HST2
            generalize Sort.grow (redrawn wc dq) osq = Z at *
            have k2 : Z.cell? ⟨G, q * 5 + 2, none⟩ = some (.int .i64 (pn : Int)) := by rw [← hpn]; exact (HT.out Z hwZ).cell (d := 2) (by omega)
            have c63 := C6Z.out.g3.1
            obtain ⟨i0, i1, i2⟩ := HCO.out Z hwZ pn _ (ins_is hlen)
            simp only [Nat.zero_add] at i0 i1 i2
            have hio := Lay.ok_at hko (ins_is hlen)
            have hGZ : G < w.heap.size := (HT.out w (Below.refl _ _)).glt
            generalize insF own.code pn = ins at *
            obtain ⟨op, A, Bi⟩ := ins
            dsimp only at i0 i1 i2 hio
            have lgc : gc < Z.heap.size := cell_lt i0
            have lG : G < Z.heap.size := cell_lt k2
            have lb6 : b6 < Z.heap.size := cell_lt c63
            go_upto_region 7 with fail
            apply meetM
            case h => intro hp; go_region_law fail; all_goals exact hp
            have hbA : Below Z.heap.size Z ((Z.alloc (.cells #[.int .i64 op, .int .i64 A, .int .i64 Bi] 76)).drew) := ((Below.refl _ _).alloc (Nat.le_refl _) _).drew
            have hwA : Below w.heap.size w ((Z.alloc (.cells #[.int .i64 op, .int .i64 A, .int .i64 Bi] 76)).drew) := below_over hwZ hbA
            have CI : Hid (Cells ((Z.alloc (.cells #[.int .i64 op, .int .i64 A, .int .i64 Bi] 76)).drew) Z.heap.size [.int .i64 op, .int .i64 A, .int .i64 Bi]) := Cells.drewC (Cells.new Z _ rfl _ _)
            have hiw : w.heap.size ≤ Z.heap.size := hwZ.size
            have P0A : Hid (Cells ((Z.alloc (.cells #[.int .i64 op, .int .i64 A, .int .i64 Bi] 76)).drew) w.heap.size [.slice (some ⟨bp, po, none⟩) p.length cap]) := P0Z.out.on hbA
            have C6A : Hid (Cells ((Z.alloc (.cells #[.int .i64 op, .int .i64 A, .int .i64 Bi] 76)).drew) b6 [.int .i64 own.name, .slice av own.args.length cva, .int .i64 own.gives, .slice (some ⟨gc, 0, none⟩) own.code.length cc]) := C6Z.out.on hbA
            clear hbA hwZ P0Z C6Z k2 c63 i0 i1 i2 lgc lG lb6
            generalize ((Z.alloc (.cells #[.int .i64 op, .int .i64 A, .int .i64 Bi] 76)).drew) = V at *
            generalize Z.heap.size = bi at *
            have c3 : V.cell? ⟨G, q * 5 + 3, none⟩ = some vS := (HT.out V hwA).cell (d := 3) (by omega)
            obtain ⟨aS, cS, hvS⟩ := (HT.out V hwA).stk.form
            subst hvS
            have ci0 := CI.out.g0.1
            obtain ⟨h1, h2⟩ := Tx.ok_op hio
            have hs8 := hfo.s8
            have htk : takesS op ≤ 2 := by unfold takesS; split <;> (try split) <;> omega
            have hpt : putsS op ≤ 2 := by unfold putsS; split <;> (try split) <;> omega
            have HIF : Hid (stepI p m f own (op, A, Bi) = if f.stk.length < takesS op ∨ 8 < f.stk.length - takesS op + putsS op then (m, 6) else stepI p m f own (op, A, Bi)) := by
              show _ = _
              by_cases hc : f.stk.length < takesS op ∨ 8 < f.stk.length - takesS op + putsS op
              · rw [if_pos hc]
                unfold stepI
                exact if_pos hc
              · rw [if_neg hc]
            go_wp2_with fail
            refine (l8Takes_at op h1 h2 _).mono ?_
            rintro e w1 ⟨rfl, rfl⟩
            dsimp only
            by_cases hc1 : f.stk.length < takesS op
            · have hc1i : ((f.stk.length : Nat) : Int) < ((takesS op : Nat) : Int) := by omega
              have HE : Hid (stepS p m = (m, 6)) := by show _ = _; rw [HS3.out, HIF.out, if_pos (.inl hc1)]
              have HV : Hid (MSt B M V m) := HMS.out _ hwA
              have hBV : Below B w V := hwA.mono hB
              clear HIF HS3
              go_wp2
              go_ret
              exact ⟨by rw [HE.out]; rfl, by rw [HE.out]; exact HV.out, hBV⟩
            · have hc1i : ¬ ((f.stk.length : Nat) : Int) < ((takesS op : Nat) : Int) := by omega
              obtain ⟨d0, hd0'⟩ : ∃ d0 : Nat, Hid (d0 = f.stk.length - takesS op) := ⟨_, rfl⟩
              obtain ⟨s0, hs0⟩ : ∃ s0 : Nat, Hid (s0 = d0 + putsS op) := ⟨_, rfl⟩
              go_wp2_with fail
              refine (l8Puts_at op h1 h2 _).mono ?_
              rintro e w1 ⟨rfl, rfl⟩
              dsimp only
              by_cases hc2 : 8 < s0
              · have hc2i : (8 : Int) < (f.stk.length : Int) - (takesS op : Int) + (putsS op : Int) := by have := hd0'.out; have := hs0.out; omega
                have HE : Hid (stepS p m = (m, 6)) := by show _ = _; rw [HS3.out, HIF.out, if_pos (.inr (by have := hd0'.out; have := hs0.out; omega))]
                have HV : Hid (MSt B M V m) := HMS.out _ hwA
                have hBV : Below B w V := hwA.mono hB
                clear HIF HS3
                go_wp2
                go_ret
                exact ⟨by rw [HE.out]; rfl, by rw [HE.out]; exact HV.out, hBV⟩
              · have hc2i : ¬ (8 : Int) < (f.stk.length : Int) - (takesS op : Int) + (putsS op : Int) := by have := hd0'.out; have := hs0.out; omega
                clear HIF
                go_upto_if 127 with fail
                have hbB : Below V.heap.size V ((V.alloc (.cells #[.int .i64 0, .int .i64 0] 57)).alloc (.cells #[.int .i64 0, .int .i64 0] 57)) := ((Below.refl _ _).alloc (Nat.le_refl _) _).alloc (by simp) _
                have CT : Cells ((V.alloc (.cells #[.int .i64 0, .int .i64 0] 57)).alloc (.cells #[.int .i64 0, .int .i64 0] 57)) V.heap.size [.int .i64 0, .int .i64 0] := (Cells.new V _ rfl _ _).alloc _
                have CN : Hid (Cells ((V.alloc (.cells #[.int .i64 0, .int .i64 0] 57)).alloc (.cells #[.int .i64 0, .int .i64 0] 57)) (V.heap.size + 1) [.int .i64 0, .int .i64 0]) := Cells.new (V.alloc _) _ (by simp) _ _
                have hVs : w.heap.size ≤ V.heap.size := hwA.size
                generalize ((V.alloc (.cells #[.int .i64 0, .int .i64 0] 57)).alloc (.cells #[.int .i64 0, .int .i64 0] 57)) = U at *
                have hwU : Below w.heap.size w U := below_over hwA hbB
                have c3U : U.cell? ⟨G, q * 5 + 3, none⟩ = some (.slice aS f.stk.length cS) := (HT.out U hwU).cell (d := 3) (by omega)
                have hSU := (HT.out U hwU).stk.sv
                clear c3 ci0
                generalize hbt : V.heap.size = bt at *
                go_cut [] from 127 to 135 (fun u => Hid (Cells u bt [.int .i64 (topV f.stk).1, .int .i64 (topV f.stk).2]) ∧ Hid (Cells u (bt + 1) [.int .i64 0, .int .i64 0]) ∧ Below bt V u)
                case first =>
                  by_cases hn0 : f.stk = []
                  · have hi0 : ¬ (0 : Int) < (f.stk.length : Int) := by rw [hn0]; simp
                    have HTV : Hid (topV f.stk = (0, 0)) := by show _ = _; rw [hn0]; rfl
                    clear hn0
                    go_wp2_with fail
                    go_meet
                    exact ⟨by rw [HTV.out]; exact CT, CN.out, hbB⟩
                  · obtain ⟨n1, hn1⟩ : ∃ n1, f.stk.length = n1 + 1 := ⟨f.stk.length - 1, by have := List.length_pos_iff.2 hn0; omega⟩
                    obtain ⟨bs, os, ha, _, hx⟩ := hSU.get (k := n1) (by omega)
                    subst ha
                    obtain ⟨x, hxe⟩ : ∃ x, x = f.stk[n1]'(by omega) := ⟨_, rfl⟩
                    rw [← hxe] at hx
                    have HTV : Hid (topV f.stk = x) := by
                      show _ = _
                      unfold topV
                      rw [List.getLast?_eq_getElem?, show f.stk.length - 1 = n1 by omega, List.getElem?_eq_getElem (by omega), hxe]
                      rfl
                    obtain ⟨x0, x1⟩ := hx
                    have hN : Hid (f.stk.length = n1 + 1) := hn1
                    have hi0 : (0 : Int) < (f.stk.length : Int) := by omega
                    have hi1 : (f.stk.length : Int) - 1 = (n1 : Int) := by omega
                    have hi2 : (n1 : Int) < (f.stk.length : Int) := by omega
                    have hi3 : n1 < f.stk.length := by omega
                    clear hxe hn1 hn0
                    obtain ⟨t0, f0⟩ := CT.g0
                    obtain ⟨t1, f1⟩ := CT.g1
                    have hbU := cell_lt t0
                    have HCT : Hid (Cells ((U.setCell ⟨bt, 0, none⟩ (.int .i64 x.1)).setCell ⟨bt, 1, none⟩ (.int .i64 x.2)) bt [.int .i64 x.1, .int .i64 x.2]) := (CT.s0 _).s1 _
                    have CN2 : Hid (Cells ((U.setCell ⟨bt, 0, none⟩ (.int .i64 x.1)).setCell ⟨bt, 1, none⟩ (.int .i64 x.2)) (bt + 1) [.int .i64 0, .int .i64 0]) := fun i y hy => by
                      obtain ⟨h1, h2⟩ := CN.out i y hy
                      constructor
                      · simpa [go_sem] using h1
                      · simpa [go_sem] using h2
                    have hbS : Hid (Below bt V ((U.setCell ⟨bt, 0, none⟩ (.int .i64 x.1)).setCell ⟨bt, 1, none⟩ (.int .i64 x.2))) := (hbB.setCell (Nat.le_refl _) _).setCell (Nat.le_refl _) _
                    go_wp2_with fail
                    go_meet
                    exact ⟨by rw [HTV.out]; exact HCT.out, CN2.out, hbS.out⟩
                case rest =>
                  obtain ⟨CT1, CN1, hb1⟩ := hcut
                  go_upto_if 137 with fail
                  have hw1 : Below w.heap.size w wc := below_over hwA (hbt ▸ hb1)
                  have c31 : wc.cell? ⟨G, q * 5 + 3, none⟩ = some (.slice aS f.stk.length cS) := (HT.out wc hw1).cell (d := 3) (by omega)
                  have hS1 := (HT.out wc hw1).stk.sv
                  clear CT CN c3U hSU hwU hbB
                  go_cut [] from 137 to 145 (fun u => Hid (Cells u bt [.int .i64 (topV f.stk).1, .int .i64 (topV f.stk).2]) ∧ Hid (Cells u (bt + 1) [.int .i64 (nextV f.stk).1, .int .i64 (nextV f.stk).2]) ∧ Below bt V u)
                  case first =>
                    by_cases hn1 : f.stk.length ≤ 1
                    · have hi0 : ¬ (1 : Int) < (f.stk.length : Int) := by omega
                      have HTV : Hid (nextV f.stk = (0, 0)) := by
                        show _ = _
                        unfold nextV
                        rw [show f.stk.dropLast = [] from List.length_eq_zero_iff.1 (by rw [List.length_dropLast]; omega)]
                        rfl
                      go_wp2_with fail
                      go_meet
                      exact ⟨CT1, by rw [HTV.out]; exact CN1.out, hb1⟩
                    · obtain ⟨n2, hn2⟩ : ∃ n2, f.stk.length = n2 + 2 := ⟨f.stk.length - 2, by omega⟩
                      obtain ⟨bs, os, ha, _, hx⟩ := hS1.get (k := n2) (by omega)
                      subst ha
                      obtain ⟨x, hxe⟩ : ∃ x, x = f.stk[n2]'(by omega) := ⟨_, rfl⟩
                      rw [← hxe] at hx
                      have HTV : Hid (nextV f.stk = x) := by
                        show _ = _
                        unfold nextV
                        rw [List.getLast?_eq_getElem?, List.length_dropLast, show f.stk.length - 1 - 1 = n2 by omega, List.getElem?_dropLast, if_pos (by omega), List.getElem?_eq_getElem (by omega), hxe]
                        rfl
                      obtain ⟨x0, x1⟩ := hx
                      have hi0 : (1 : Int) < (f.stk.length : Int) := by omega
                      have hi1 : (f.stk.length : Int) - 2 = (n2 : Int) := by omega
                      have hi2 : (n2 : Int) < (f.stk.length : Int) := by omega
                      have hi3 : n2 < f.stk.length := by omega
                      clear hxe hn2 hn1
                      obtain ⟨t0, f0⟩ := CN1.out.g0
                      obtain ⟨t1, f1⟩ := CN1.out.g1
                      have hbU := cell_lt t0
                      have HCT : Hid (Cells ((wc.setCell ⟨bt + 1, 0, none⟩ (.int .i64 x.1)).setCell ⟨bt + 1, 1, none⟩ (.int .i64 x.2)) (bt + 1) [.int .i64 x.1, .int .i64 x.2]) := (CN1.out.s0 _).s1 _
                      have CN2 : Hid (Cells ((wc.setCell ⟨bt + 1, 0, none⟩ (.int .i64 x.1)).setCell ⟨bt + 1, 1, none⟩ (.int .i64 x.2)) bt [.int .i64 (topV f.stk).1, .int .i64 (topV f.stk).2]) := fun i y hy => by
                        obtain ⟨h1, h2⟩ := CT1.out i y hy
                        constructor
                        · simpa [go_sem] using h1
                        · simpa [go_sem] using h2
                      have hbS : Hid (Below bt V ((wc.setCell ⟨bt + 1, 0, none⟩ (.int .i64 x.1)).setCell ⟨bt + 1, 1, none⟩ (.int .i64 x.2))) := (hb1.setCell (Nat.le_succ _) _).setCell (Nat.le_succ _) _
                      go_wp2_with fail
                      go_meet
                      exact ⟨CN2.out, by rw [HTV.out]; exact HCT.out, hbS.out⟩
                  case rest =>
                    obtain ⟨CT2, CN2, hb2⟩ := hcut
                    have hbV : Below V.heap.size V wc := by rw [hbt]; exact hb2
                    have hwc : Below w.heap.size w wc := below_over hwA hbV
                    have C : StepC Bp p bp po cap B M m q f own op A Bi w.heap.size b6 bi bt G fcap (.slice aS f.stk.length cS) vL vh vs (.slice av own.args.length cva) gc cc ch cf Th Tf w wc :=
                      ⟨hB, hok, HP.out, HT.out w (Below.refl _ _), hq, HM0.out, hwc, P0A.out.on hbV, C6A.out.on hbV, CI.out.on hbV, CT2.out, CN2.out, Nat.le_refl _, by omega, hiw, by omega, hpf, HPS.out, hio, by omega, by have := hd0'.out; have := hs0.out; omega⟩
                    have HC : Hid (StepC Bp p bp po cap B M m q f own op A Bi w.heap.size b6 bi bt G fcap (.slice aS f.stk.length cS) vL vh vs (.slice av own.args.length cva) gc cc ch cf Th Tf w wc) := C
                    clear C
                    go_step
                    refine wp_seq_k ?_
                    intro K1 hK1
                    have HK1 : Hid _ := hK1
                    clear hK1
                    go_wp2_with fail
                    refine HK1.out _ _ ?_
                    refine wp_seq_k ?_
                    intro K2 hK2
                    refine stepSwitch HC.out HCALL.out _ (fun w' hM hb => ?_) K2 hK2
                    rw [HS3.out]
                    exact ⟨rfl, hM, (hwc.mono hB).trans hb⟩
          · have HE : Hid (stepS p m = (m, 6)) := by show _ = _; rw [HST2.out, if_pos (.inr (by omega))]
            have hli : (own.code.length : Int) ≤ (pn : Int) := by omega
            have hd1 : decide ((pn : Int) ≥ (own.code.length : Int)) = true := by simp; omega
            clear HST2
            go_upto_region 5 with fail
            refine wp_region_quiet_below (by kernel_rfl) (by kernel_rfl) ?_
            repeat (go_big_quiet_step (fail))
            refine wpQuiet_nil ?_
            intro _ hw'
            obtain ⟨⟨dq, osq⟩, hw''⟩ := hw'
            subst hw''
            have hbZ := below_regrown wc dq osq
            have hwZ : Below w.heap.size w (Sort.grow (redrawn wc dq) osq) := below_over hwC hbZ
            clear e2 e6 c63 k2C P0C C6
            have HZ : Hid (MSt B M (Sort.grow (redrawn wc dq) osq) m) := HMS.out _ hwZ
            have hBZ : Below B w (Sort.grow (redrawn wc dq) osq) := hwZ.mono hB
            clear hbZ hwZ
            generalize Sort.grow (redrawn wc dq) osq = Z at *
            go_wp2
            go_ret
            exact ⟨by rw [HE.out]; rfl, by rw [HE.out]; exact HZ.out, hBZ⟩
    · have hji : (p.length : Int) ≤ (j : Int) := by omega
      have hji2 : ¬ (j : Int) < (p.length : Int) := by omega
      have hd1 : decide ((j : Int) ≥ (p.length : Int)) = true := by simp; omega
      have hd2 : decide ((p.length : Int) ≤ (j : Int)) = true := by simp; omega
      have HE : Hid (stepS p m = (m, 6)) := by show _ = _; rw [HST.out]; simp [ownS, hj, List.getElem?_eq_none (show p.length ≤ j by omega)]
      clear HST
      go_upto_region 2 with fail
      refine wp_region_quiet_below (by kernel_rfl) (by kernel_rfl) ?_
      repeat (go_big_quiet_step (fail))
      refine wpQuiet_nil ?_
      intro _ hw'
      obtain ⟨⟨dq, osq⟩, hw''⟩ := hw'
      subst hw''
      have hbY := below_regrown X dq osq
      have hwY : Below w.heap.size w (Sort.grow (redrawn X dq) osq) := below_over hwQ hbY
      clear e2 e3 e4 k0 k1 k2 p0 P0Q
      have HY : Hid (MSt B M (Sort.grow (redrawn X dq) osq) m) := HMS.out _ hwY
      have hBY : Below B w (Sort.grow (redrawn X dq) osq) := hwY.mono hB
      clear hbY hwY
      generalize Sort.grow (redrawn X dq) osq = Y at *
      go_wp2
      go_ret
      exact ⟨by rw [HE.out]; rfl, by rw [HE.out]; exact HY.out, hBY⟩
end Pg
end Go.Proofs.Ytffkkhaiedhaiaa
