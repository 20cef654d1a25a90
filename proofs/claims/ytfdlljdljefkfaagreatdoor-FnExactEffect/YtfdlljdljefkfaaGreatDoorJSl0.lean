/- Contracts of the specification's effect of a step (call). -/
import Derived.Test.YtfdlljdljefkfaaGreatDoorJSf9
import Derived.Test.YtfdlljdljefkfaaGreatDoorJKs1
namespace Go.Proofs.YtfdlljdljefkfaaGreatDoor
namespace Pg
open Go.ChangeShapes Go.WideShapes Go.ChangeAt Go.RowKit St

theorem wrapSm {k j : Nat} (h : k + 1 + j < 9) : wrap64 ((k : Int) + 1) = (k : Int) + 1 ∧ wrap64 ((k : Int) + 1 + (j : Int)) = (k : Int) + 1 + (j : Int) ∧ wrap64 ((j : Int) + 1) = (j : Int) + 1 := by
  unfold wrap64
  omega
theorem subSm {L N k : Nat} (h : L = k + N + 1) : L - N - 1 = k := by
  omega
theorem subLt {L N k : Nat} (h : L = k + N + 1) : (∀ j, j < N → k + 1 + j < L) ∧ k ≤ L := ⟨fun j hj => by omega, by omega⟩
theorem lessSm {N j : Nat} (h : j < N) : N - (intOf (.int .i64 ((j : Int) + 1))).toNat < N - (intOf (.int .i64 (j : Int))).toNat := by
  simp only [intOf]
  omega
theorem idxSm {k j N L : Nat} (h : j < N) (hl : k + 1 + j < L) : ((k : Int) + 1 + (j : Int)).toNat = k + 1 + j ∧ (j : Int) < (N : Int) ∧ (k : Int) + 1 + (j : Int) < (L : Int) ∧ 0 ≤ (k : Int) + 1 + (j : Int) := by
  omega
theorem args_kind {n : Nat} {m : Meth} (h : okMB n m = true) : m.args.all (kindB n) = true := by
  rw [List.all_eq_true]
  intro x hx
  exact ty_kind (List.all_eq_true.1 (okM_parts h).2.1 x hx)
set_option maxRecDepth 100000 in
set_option maxHeartbeats 4000000 in
theorem l7Call_at (B : Nat) (p : Prg) (hok' : okP p = true) (hsp : SmallP p) (w : World) (pa : Option Addr) (pc : Nat) (hp : SK front B w (.slice pa p.length pc) p) (a b : Int) (ha0 : 0 ≤ a) (z1 z2 : Option Addr) (c1 c2 : Nat) (st lo : List Int) (hst : okSt p (st, lo)) (hc1 : st.length ≤ c1) (hs : SI true B w (.slice z1 st.length c1) st) (hl : SI true B w (.slice z2 lo.length c2) lo) :
    Calls Tryz.prog 42 #[.agg #[.slice pa p.length pc], .agg #[.int .i64 17, .int .i64 a, .int .i64 b], .agg #[.slice z1 st.length c1, .slice z2 lo.length c2]] w fun e w' => L7Post (if a < (p.length : Int) then (callF p a b).bind fun m => tpF p (st, lo) (a :: m.args) [m.gives] else none) w e w' := by
  have HOKP : Hid (okP p = true) := hok'
  have HSP : Hid (SmallP p) := hsp
  have h6 : p.length ≤ 6 := (okP_len hok').2
  have hp0 : 0 < p.length := (okP_len hok').1
  have HSU : Hid (SupOk p p.length) := (ok_sup hok').sup
  have HP : Hid (SK front B w (.slice pa p.length pc) p) := hp
  have HS : Hid (SI true B w (.slice z1 st.length c1) st) := hs
  have HL : Hid (SI true B w (.slice z2 lo.length c2) lo) := hl
  obtain ⟨hst8, hlo8, hkst, hklo⟩ := okSt_iff.1 hst
  dsimp only at hst8 hlo8 hkst hklo
  have HST : Hid (st.length ≤ 8 ∧ lo.length = 8) := ⟨hst8, hlo8⟩
  have HKS : Hid (st.all (kindB p.length) = true ∧ lo.all (kindB p.length) = true) := ⟨hkst, hklo⟩
  have HBW : Hid (B ≤ w.heap.size) := si_base hl (by omega)
  clear hok' hsp hp hs hl hst hlo8 hkst hklo
  obtain ⟨W, hW⟩ : ∃ W, W = (((w.alloc (.cells #[.slice pa p.length pc] 37)).alloc (.cells #[.int .i64 17, .int .i64 a, .int .i64 b] 39)).alloc (.cells #[.slice z1 st.length c1, .slice z2 lo.length c2] 32)).alloc (.cells #[.slice none 0 0, .slice none 0 0] 32) := ⟨_, rfl⟩
  have hwW : Below w.heap.size w W := by rw [hW]; exact ((((Below.refl _ _).alloc (Nat.le_refl _) _).alloc (by simp) _).alloc (by simp; omega) _).alloc (by simp; omega) _
  have C0 : Hid (Cells W w.heap.size [.slice pa p.length pc]) := by rw [hW]; exact (((Cells.new w _ rfl _ _).alloc _).alloc _).alloc _
  have C1 : Hid (Cells W (w.heap.size + 1) [.int .i64 17, .int .i64 a, .int .i64 b]) := by rw [hW]; exact ((Cells.new (w.alloc _) _ (by simp) _ _).alloc _).alloc _
  have C2 : Hid (Cells W (w.heap.size + 1 + 1) [.slice z1 st.length c1, .slice z2 lo.length c2]) := by rw [hW]; exact (Cells.new ((w.alloc _).alloc _) _ (by simp) _ _).alloc _
  have R0 : Hid (Cells W (w.heap.size + 1 + 1 + 1) [.slice none 0 0, .slice none 0 0]) := by rw [hW]; exact Cells.new (((w.alloc _).alloc _).alloc _) _ (by simp) _ _
  have HZ : Hid (W.heap.size = w.heap.size + 1 + 1 + 1 + 1) := by rw [hW]; show _ = _; simp
  obtain ⟨G, HG⟩ : ∃ G, Hid ((if a < (p.length : Int) then (callF p a b).bind fun m => tpF p (st, lo) (a :: m.args) [m.gives] else none) = G) := ⟨_, rfl⟩
  rw [HG.out]
  have hW0 : Below W.heap.size W W := Below.refl _ _
  go_enter Tryz.func42, Tryz.ntmps42
  by_cases hc : (p.length : Int) ≤ a
  · have HEF : Hid (G = none) := by show _ = _; rw [← HG.out, if_neg (by omega)]
    go_wp2
    rw [← hW]
    obtain ⟨r0, _⟩ := R0.out.g0
    obtain ⟨r1, _⟩ := R0.out.g1
    refine bodyPost_ret (v := .tuple #[.agg #[.slice none 0 0, .slice none 0 0], .bool false]) (by simp [results, Tryz.results42, go_sem, r0, r1]) rfl ?_
    exact ⟨.inr ⟨HEF.out, none, 0, 0, none, 0, 0, rfl⟩, hwW⟩
  · have hc' : a < (p.length : Int) := by omega
    go_wp2_with fail
    rw [← hW]
    clear hW
    refine (l5Selected B p pa pc a b (by omega) hc' HSP.out h6 HSU.out W (SK.on HP.out (Keep.of hwW))).mono ?_
    rintro e w2 ⟨rfl, hb2⟩
    have hW2 : Below W.heap.size W w2 := hb2
    clear hb2
    obtain ⟨s, HSL⟩ : ∃ s, Hid (selF p a b = s) := ⟨_, rfl⟩
    rw [HSL.out]
    by_cases hs : s < 0
    · have HEF : Hid (G = none) := by
        show _ = _
        rw [← HG.out, if_pos hc']
        unfold callF
        rw [HSL.out, if_pos hs]; rfl
      have RA := R0.out.on hW2
      obtain ⟨r0, q0⟩ := RA.g0
      obtain ⟨r1, q1⟩ := RA.g1
      have R5 := (RA.s0 (.slice none 0 0)).s1 (.slice none 0 0)
      obtain ⟨e0, _⟩ := R5.g0
      obtain ⟨e1, _⟩ := R5.g1
      have HB : Hid (Below w.heap.size w ((w2.setCell ⟨w.heap.size + 1 + 1 + 1, 0, none⟩ (.slice none 0 0)).setCell ⟨w.heap.size + 1 + 1 + 1, 1, none⟩ (.slice none 0 0))) := ((below_over hwW hW2).setCell (p := ⟨w.heap.size + 1 + 1 + 1, 0, none⟩) (by simp; omega) _).setCell (p := ⟨w.heap.size + 1 + 1 + 1, 1, none⟩) (by simp; omega) _
      clear RA R5 
      go_wp2
      refine bodyPost_ret (v := .tuple #[.agg #[.slice none 0 0, .slice none 0 0], .bool false]) (by simp [results, Tryz.results42, go_sem, e0, e1]) rfl ?_
      exact ⟨.inr ⟨HEF.out, none, 0, 0, none, 0, 0, rfl⟩, HB.out⟩
    · rcases selF_cases p a b with hsel | ⟨u, hsel, K, hK, hO⟩
      · exfalso; rw [HSL.out] at hsel; omega
      · rw [HSL.out] at hsel
        subst hsel
        obtain ⟨hup, rfl⟩ := List.getElem?_eq_some_iff.1 hK
        obtain ⟨kb, ko, hpa, -, vf, vm, d0, d1, d2, hcv⟩ := HP.out.get hup
        subst hpa
        obtain ⟨y1, t1, rfl⟩ := hcv.1.form
        obtain ⟨y2, t2, rfl⟩ := hcv.2.form
        have l0 : kb < w.heap.size := cell_lt d0
        have HM : Hid (SM front B w (.slice y2 p[u].meths.length t2) p[u].meths) := hcv.2
        have hsc := HSP.out.2 _ (List.getElem_mem hup)
        have HSMM : Hid (∀ m ∈ p[u].meths, SmallM m) := hsc.2.2
        have hsl := hsc.2.1
        have HCF : Hid (callF p a b = ownF p[u] b) := by
          show _ = _
          unfold callF
          rw [HSL.out, if_neg (by omega), Int.toNat_natCast, List.getElem?_eq_getElem hup]; rfl
        generalize p[u] = C at *
        rcases ownI_cases C b with ⟨hI, hF⟩ | ⟨kk, m, hkk, hx, hI, hF⟩
        · exfalso; rw [hF] at hO; cases hO
        · have HCM : Hid (callF p a b = some m) := by show _ = _; rw [HCF.out]; exact hF
          have HMK : Hid (okMB p.length m = true) := call_ok HOKP.out HCM.out
          have hkki : (kk : Int) < (C.meths.length : Int) := by omega
          obtain ⟨bx, ox, rfl, -, wa, wc, g0, g1, g2, g3, hxv⟩ := HM.out.get hkk
          obtain ⟨x3, y3, rfl⟩ := hxv.1.form
          have exx : C.meths[kk] = m := by
            rw [List.getElem?_eq_getElem hkk] at hx
            simpa using hx
          rw [exx] at g0 g1 g2 hxv
          obtain ⟨gc, y4, rfl⟩ := front.form hxv.2
          have lx : bx < w.heap.size := cell_lt g1
          have HXV : Hid (MV front B w (.slice x3 m.args.length y3) (.slice gc m.code.length y4) m) := hxv
          have HWC : Hid (∀ y, At1 W (w.heap.size + 1 + 1 + 1) y → y.cell? ⟨w.heap.size, 0, none⟩ = some (.slice (some ⟨kb, ko, none⟩) p.length pc) ∧ y.cell? ⟨w.heap.size + 1, 2, none⟩ = some (.int .i64 b) ∧ y.cell? ⟨kb, ko + u * 3, none⟩ = some (.int .i64 C.super) ∧ y.cell? ⟨kb, ko + u * 3 + 1, none⟩ = some (.slice y1 C.fields.length t1) ∧ y.cell? ⟨kb, ko + u * 3 + 2, none⟩ = some (.slice (some ⟨bx, ox, none⟩) C.meths.length t2)) := fun y hy => ⟨hy _ _ _ (by omega) (by have := HZ.out; omega) C0.out.g0.1, hy _ _ _ (by omega) (by have := HZ.out; omega) C1.out.g2.1, hy _ _ _ (by omega) (by have := HZ.out; omega) ((hwW.cell l0).trans d0), hy _ _ _ (by omega) (by have := HZ.out; omega) ((hwW.cell l0).trans d1), hy _ _ _ (by omega) (by have := HZ.out; omega) ((hwW.cell l0).trans d2)⟩
          have HWM : Hid (∀ y, At1 W (w.heap.size + 1 + 1 + 1) y → y.cell? ⟨bx, ox + kk * 4, none⟩ = some (.int .i64 m.name) ∧ y.cell? ⟨bx, ox + kk * 4 + 1, none⟩ = some (.slice x3 m.args.length y3) ∧ y.cell? ⟨bx, ox + kk * 4 + 2, none⟩ = some (.int .i64 m.gives) ∧ y.cell? ⟨bx, ox + kk * 4 + 3, none⟩ = some (.slice gc m.code.length y4)) := fun y hy => ⟨hy _ _ _ (by omega) (by have := HZ.out; omega) ((hwW.cell lx).trans g0), hy _ _ _ (by omega) (by have := HZ.out; omega) ((hwW.cell lx).trans g1), hy _ _ _ (by omega) (by have := HZ.out; omega) ((hwW.cell lx).trans g2), hy _ _ _ (by omega) (by have := HZ.out; omega) ((hwW.cell lx).trans g3)⟩
          have hui : (u : Int) < (p.length : Int) := by omega
          have HI : Hid (ownI C b = (kk : Int)) := hI
          clear d0 d1 d2 g0 g1 g2 g3 hxv hcv hsc exx hx hF hO hI hK
          go_wp2_with fail
          go_cut [9] (fun v y => ∃ k, v = .pointer (some ⟨k, 0, none⟩) ∧ W.heap.size ≤ k ∧ Cells y k [.int .i64 m.name, .slice x3 m.args.length y3, .int .i64 m.gives, .slice gc m.code.length y4] ∧ Below W.heap.size W y)
          case first =>
            rename_i J KK hJ hKK
            have hWd : Below W.heap.size W w2.drew := hW2.drew
            refine wp_region_held_drew (S := At1 W (w.heap.size + 1 + 1 + 1)) (by kernel_rfl) (At1.of hWd) (fun hHeld => ?_)
            generalize w2.drew = X0 at hWd hHeld ⊢
            refine wpAnyH_take (i := 0) (v := ?_) rfl (by kernel_rfl) (by kernel_rfl) (by kernel_rfl) (fun _ _ _ h => h) (Or.inl ⟨by rfl, ?_⟩) hHeld ?_
            rotate_left 1
            · intro w' hSw
              obtain ⟨s0, s1, s2, s3, s4⟩ := HWC.out _ hSw
              go_simp
              try with_reducible rfl
            simp only [Act.put, List.getElem_toArray, List.getElem_cons_zero]
            refine wpAnyH_take (i := 1) (v := ?_) rfl (by kernel_rfl) (by kernel_rfl) (by kernel_rfl) (fun _ _ _ h => h) (Or.inl ⟨by rfl, ?_⟩) hHeld ?_
            rotate_left 1
            · intro w' hSw
              obtain ⟨s0, s1, s2, s3, s4⟩ := HWC.out _ hSw
              go_simp
              try with_reducible rfl
            simp only [Act.put, List.getElem_toArray, List.getElem_cons_zero, List.getElem_cons_succ]
            refine wpAnyH_take (i := 2) (v := ?_) rfl (by kernel_rfl) (by kernel_rfl) (by kernel_rfl) (fun _ _ _ h => h) (Or.inl ⟨by rfl, ?_⟩) hHeld ?_
            rotate_left 1
            · intro w' hSw
              obtain ⟨s0, s1, s2, s3, s4⟩ := HWC.out _ hSw
              go_simp
              try with_reducible rfl
            simp only [Act.put, List.getElem_toArray, List.getElem_cons_zero, List.getElem_cons_succ]
            refine wpAnyH_take (i := 3) (v := ?_) rfl (by kernel_rfl) (by kernel_rfl) (by kernel_rfl) (fun _ _ _ h => h) (Or.inl ⟨by rfl, ?_⟩) hHeld ?_
            rotate_left 1
            · intro w' hSw
              obtain ⟨s0, s1, s2, s3, s4⟩ := HWC.out _ hSw
              go_simp
              try with_reducible rfl
            simp only [Act.put, List.getElem_toArray, List.getElem_cons_zero, List.getElem_cons_succ]
            refine wpAnyH_take (i := 4) (v := ?_) rfl (by kernel_rfl) (by kernel_rfl) (by kernel_rfl) (fun _ _ _ h => h) (Or.inl ⟨by rfl, ?_⟩) hHeld ?_
            rotate_left 1
            · intro w' hSw
              obtain ⟨s0, s1, s2, s3, s4⟩ := HWC.out _ hSw
              go_simp
              try with_reducible rfl
            simp only [Act.put, List.getElem_toArray, List.getElem_cons_zero, List.getElem_cons_succ]
            refine wpAnyH_take (i := 5) (v := ?_) rfl (by kernel_rfl) (by kernel_rfl) (by kernel_rfl) (fun _ _ _ h => h) (Or.inl ⟨by rfl, ?_⟩) hHeld ?_
            rotate_left 1
            · intro w' hSw
              obtain ⟨s0, s1, s2, s3, s4⟩ := HWC.out _ hSw
              go_simp
              try with_reducible rfl
            simp only [Act.put, List.getElem_toArray, List.getElem_cons_zero, List.getElem_cons_succ]
            refine wpAnyH_take (i := 6) (v := ?_) rfl (by kernel_rfl) (by kernel_rfl) (by kernel_rfl) (fun _ _ _ h => h) (Or.inl ⟨by rfl, ?_⟩) hHeld ?_
            rotate_left 1
            · intro w' hSw
              obtain ⟨s0, s1, s2, s3, s4⟩ := HWC.out _ hSw
              go_simp
              try with_reducible rfl
            simp only [Act.put, List.getElem_toArray, List.getElem_cons_zero, List.getElem_cons_succ]
            refine wpAnyH_take (i := 7) (v := ?_) rfl (by kernel_rfl) (by kernel_rfl) (by kernel_rfl) (fun _ _ _ h => h) (Or.inl ⟨by rfl, ?_⟩) hHeld ?_
            rotate_left 1
            · intro w' hSw
              obtain ⟨s0, s1, s2, s3, s4⟩ := HWC.out _ hSw
              go_simp
              try with_reducible rfl
            simp only [Act.put, List.getElem_toArray, List.getElem_cons_zero, List.getElem_cons_succ]
            refine wpAnyH_take (i := 8) (v := ?_) rfl (by kernel_rfl) (by kernel_rfl) (by kernel_rfl) (fun _ _ _ h => h) (Or.inl ⟨by rfl, ?_⟩) hHeld ?_
            rotate_left 1
            · intro w' hSw
              obtain ⟨s0, s1, s2, s3, s4⟩ := HWC.out _ hSw
              go_simp
              try with_reducible rfl
            simp only [Act.put, List.getElem_toArray, List.getElem_cons_zero, List.getElem_cons_succ]
            refine wpAnyH_take (i := 9) (v := ?_) rfl (by kernel_rfl) (by kernel_rfl) (by kernel_rfl) (fun _ _ _ h => h) (Or.inl ⟨by rfl, ?_⟩) hHeld ?_
            rotate_left 1
            · intro w' hSw
              obtain ⟨s0, s1, s2, s3, s4⟩ := HWC.out _ hSw
              go_simp
              try with_reducible rfl
            simp only [Act.put, List.getElem_toArray, List.getElem_cons_zero, List.getElem_cons_succ]
            refine wpAnyH_take (i := 10) (v := ?_) rfl (by kernel_rfl) (by kernel_rfl) (by kernel_rfl) (fun _ _ _ h => h) (Or.inl ⟨by rfl, ?_⟩) hHeld ?_
            rotate_left 1
            · intro w' hSw
              obtain ⟨s0, s1, s2, s3, s4⟩ := HWC.out _ hSw
              go_simp
              try with_reducible rfl
            simp only [Act.put, List.getElem_toArray, List.getElem_cons_zero, List.getElem_cons_succ]
            refine wpAnyH_take (i := 11) (v := ?_) rfl (by kernel_rfl) (by kernel_rfl) (by kernel_rfl) (fun _ _ _ h => h) (Or.inl ⟨by rfl, ?_⟩) hHeld ?_
            rotate_left 1
            · intro w' hSw
              obtain ⟨s0, s1, s2, s3, s4⟩ := HWC.out _ hSw
              go_simp
              try with_reducible rfl
            simp only [Act.put, List.getElem_toArray, List.getElem_cons_zero, List.getElem_cons_succ]
            refine wpAnyH_take (i := 12) (v := ?_) rfl (by kernel_rfl) (by kernel_rfl) (by kernel_rfl) (fun _ _ _ h => h) (Or.inl ⟨by rfl, ?_⟩) hHeld ?_
            rotate_left 1
            · intro w' hSw
              obtain ⟨s0, s1, s2, s3, s4⟩ := HWC.out _ hSw
              go_simp
              try with_reducible rfl
            simp only [Act.put, List.getElem_toArray, List.getElem_cons_zero, List.getElem_cons_succ]
            refine wpAnyH_ready (rs := [13, 16]) (by kernel_rfl) (by simp) ?_
            refine AllReadyH.cons rfl (fun K hK => ?_) (AllReadyH.cons rfl (fun K hK => ?_) AllReadyH.nil)
            · go_simp
              refine (l4Own B C y1 (some ⟨bx, ox, none⟩) t2 C.fields.length t1 b hsl X0 (SM.on HM.out (Keep.of (below_over hwW hWd)))).mono ?_
              rintro e X1 ⟨rfl, hb1⟩
              have hX1 : Below W.heap.size W X1 := below_over hWd hb1
              dsimp only
              rw [HI.out]
              refine hK.out _ _ (At1.of hX1) (fun hHeld => ?_)
              clear hK K
              refine wpAnyH_take (i := 14) (v := ?_) rfl (by kernel_rfl) (by kernel_rfl) (by kernel_rfl) (fun _ _ _ h => h) (Or.inl ⟨by rfl, ?_⟩) hHeld ?_
              rotate_left 1
              · intro w' hSw
                obtain ⟨s0, s1, s2, s3⟩ := HWM.out _ hSw
                go_simp
                try with_reducible rfl
              simp only [Act.put, List.getElem_toArray, List.getElem_cons_zero, List.getElem_cons_succ]
              refine wpAnyH_take (i := 15) (v := ?_) rfl (by kernel_rfl) (by kernel_rfl) (by kernel_rfl) (fun _ _ _ h => h) (Or.inl ⟨by rfl, ?_⟩) hHeld ?_
              rotate_left 1
              · intro w' hSw
                obtain ⟨s0, s1, s2, s3⟩ := HWM.out _ hSw
                go_simp
                try with_reducible rfl
              simp only [Act.put, List.getElem_toArray, List.getElem_cons_zero, List.getElem_cons_succ]
              refine wpAnyH_ready (rs := [16]) (by kernel_rfl) (by simp) ?_
              refine AllReadyH.cons rfl (fun K hK => ?_) AllReadyH.nil
              go_simp
              have hX2 : Below W.heap.size W (X1.alloc (.cells #[.int .i64 0, .slice none 0 0, .int .i64 0, .slice none 0 0] 51)) := hX1.alloc hX1.size _
              have CX : Cells (X1.alloc (.cells #[.int .i64 0, .slice none 0 0, .int .i64 0, .slice none 0 0] 51)) X1.heap.size [.int .i64 0, .slice none 0 0, .int .i64 0, .slice none 0 0] := Cells.new X1 _ rfl _ _
              have hk : W.heap.size ≤ X1.heap.size := hX1.size
              refine hK.out _ _ (At1.of hX2) (fun hHeld => ?_)
              clear hK K
              refine wpAnyH_ready (rs := [17]) (by kernel_rfl) (by simp) ?_
              refine AllReadyH.cons rfl (fun K hK => ?_) AllReadyH.nil
              obtain ⟨m0, f0⟩ := CX.g0
              obtain ⟨m1, f1⟩ := CX.g1
              obtain ⟨m2, f2⟩ := CX.g2
              obtain ⟨m3, f3⟩ := CX.g3
              have CZ : Cells (X1.alloc (.cells #[.int .i64 m.name, .slice x3 m.args.length y3, .int .i64 m.gives, .slice gc m.code.length y4] 51)) X1.heap.size [.int .i64 m.name, .slice x3 m.args.length y3, .int .i64 m.gives, .slice gc m.code.length y4] := Cells.new X1 _ rfl _ _
              have hZ : Below W.heap.size W (X1.alloc (.cells #[.int .i64 m.name, .slice x3 m.args.length y3, .int .i64 m.gives, .slice gc m.code.length y4] 51)) := hX1.alloc hX1.size _
              go_simp
              refine hK.out _ _ (At1.of hZ) (fun hHeld => ?_)
              clear hK K m0 m1 m2 m3 f0 f1 f2 f3
              refine wpAnyH_done (by kernel_rfl) ?_ _
              go_simp
              refine hKK _ _ (Met.intro (hJ _ _ ?_))
              (repeat apply Exists.intro)
              exact ⟨⟨_, rfl, hk, CZ, hZ⟩, rfl⟩
            · go_simp
              have hX2 : Below W.heap.size W (X0.alloc (.cells #[.int .i64 0, .slice none 0 0, .int .i64 0, .slice none 0 0] 51)) := hWd.alloc hWd.size _
              have CY : Cells (X0.alloc (.cells #[.int .i64 0, .slice none 0 0, .int .i64 0, .slice none 0 0] 51)) X0.heap.size [.int .i64 0, .slice none 0 0, .int .i64 0, .slice none 0 0] := Cells.new X0 _ rfl _ _
              have hk : W.heap.size ≤ X0.heap.size := hWd.size
              refine hK.out _ _ (At1.of hX2) (fun hHeld => ?_)
              clear hK K
              refine wpAnyH_ready (rs := [13]) (by kernel_rfl) (by simp) ?_
              refine AllReadyH.cons rfl (fun K hK => ?_) AllReadyH.nil
              go_simp
              refine (l4Own B C y1 (some ⟨bx, ox, none⟩) t2 C.fields.length t1 b hsl (X0.alloc (.cells #[.int .i64 0, .slice none 0 0, .int .i64 0, .slice none 0 0] 51)) (SM.on HM.out (Keep.of (below_over hwW hX2)))).mono ?_
              rintro e X1 ⟨rfl, hb1⟩
              have hX1 : Below W.heap.size W X1 := below_over hX2 hb1
              have CX := CY.on hb1
              dsimp only
              rw [HI.out]
              refine hK.out _ _ (At1.of hX1) (fun hHeld => ?_)
              clear hK K
              refine wpAnyH_take (i := 14) (v := ?_) rfl (by kernel_rfl) (by kernel_rfl) (by kernel_rfl) (fun _ _ _ h => h) (Or.inl ⟨by rfl, ?_⟩) hHeld ?_
              rotate_left 1
              · intro w' hSw
                obtain ⟨s0, s1, s2, s3⟩ := HWM.out _ hSw
                go_simp
                try with_reducible rfl
              simp only [Act.put, List.getElem_toArray, List.getElem_cons_zero, List.getElem_cons_succ]
              refine wpAnyH_take (i := 15) (v := ?_) rfl (by kernel_rfl) (by kernel_rfl) (by kernel_rfl) (fun _ _ _ h => h) (Or.inl ⟨by rfl, ?_⟩) hHeld ?_
              rotate_left 1
              · intro w' hSw
                obtain ⟨s0, s1, s2, s3⟩ := HWM.out _ hSw
                go_simp
                try with_reducible rfl
              simp only [Act.put, List.getElem_toArray, List.getElem_cons_zero, List.getElem_cons_succ]
              refine wpAnyH_ready (rs := [17]) (by kernel_rfl) (by simp) ?_
              refine AllReadyH.cons rfl (fun K hK => ?_) AllReadyH.nil
              obtain ⟨m0, f0⟩ := CX.g0
              obtain ⟨m1, f1⟩ := CX.g1
              obtain ⟨m2, f2⟩ := CX.g2
              obtain ⟨m3, f3⟩ := CX.g3
              have CZ := (((CX.s0 (.int .i64 m.name)).s1 (.slice x3 m.args.length y3)).s2 (.int .i64 m.gives)).s3 (.slice gc m.code.length y4)
              have hZ : Below W.heap.size W ((((X1.setCell ⟨X0.heap.size, 0, none⟩ (.int .i64 m.name)).setCell ⟨X0.heap.size, 1, none⟩ (.slice x3 m.args.length y3)).setCell ⟨X0.heap.size, 2, none⟩ (.int .i64 m.gives)).setCell ⟨X0.heap.size, 3, none⟩ (.slice gc m.code.length y4)) := (((hX1.setCell (p := ⟨X0.heap.size, 0, none⟩) hk _).setCell (p := ⟨X0.heap.size, 1, none⟩) hk _).setCell (p := ⟨X0.heap.size, 2, none⟩) hk _).setCell (p := ⟨X0.heap.size, 3, none⟩) hk _
              go_simp
              refine hK.out _ _ (At1.of hZ) (fun hHeld => ?_)
              clear hK K m0 m1 m2 m3 f0 f1 f2 f3
              refine wpAnyH_done (by kernel_rfl) ?_ _
              go_simp
              refine hKK _ _ (Met.intro (hJ _ _ ?_))
              (repeat apply Exists.intro)
              exact ⟨⟨_, rfl, hk, CZ, hZ⟩, rfl⟩
          case rest =>
            obtain ⟨k, rfl, hkW, hck, hbu⟩ := hcut
            clear HWC HWM HI hkki hui
            have HCK : Hid (Cells wc k [.int .i64 m.name, .slice x3 m.args.length y3, .int .i64 m.gives, .slice gc m.code.length y4]) := hck
            have ha3 : m.args.length ≤ 3 := (okM_parts HMK.out).1
            obtain ⟨n1, _⟩ := hck.g1
            obtain ⟨t0, _⟩ := (C2.out.on hbu).g0
            obtain ⟨i1, _⟩ := (C1.out.on hbu).g1
            obtain ⟨p0, _⟩ := (C0.out.on hbu).g0
            clear hck
            obtain ⟨N, HN⟩ : ∃ N, Hid (m.args.length = N) := ⟨_, rfl⟩
            rw [HN.out] at ha3 n1 HCK
            by_cases hkp : st.length < N + 1
            · have hwr1 : wrap64 ((st.length : Int) - (N : Int)) = (st.length : Int) - (N : Int) := by unfold wrap64; omega
              have hwr2 : wrap64 ((st.length : Int) - (N : Int) - 1) = (st.length : Int) - (N : Int) - 1 := by unfold wrap64; omega
              have hneg : (st.length : Int) - (N : Int) - 1 < 0 := by omega
              have hdn : decide ((st.length : Int) - (N : Int) - 1 < 0) = true := by simp; omega
              have HEF : Hid (G = none) := by
                show _ = _
                rw [← HG.out, if_pos hc', HCM.out, Option.bind_some]
                unfold tpF
                rw [tk_call, HN.out, if_pos hkp]; rfl
              go_wp2_with fail
              refine wp_region_quiet_below (by kernel_rfl) (by kernel_rfl) ?_
              repeat (go_big_quiet_step (fail))
              refine wpQuiet_nil ?_
              intro _ hw'
              obtain ⟨⟨dq, osq⟩, hw''⟩ := hw'
              subst hw''
              have hX : Below W.heap.size W (Sort.grow (redrawn wc dq) osq) := below_over hbu (below_regrown wc dq osq)
              clear n1 t0 i1 p0
              generalize Sort.grow (redrawn wc dq) osq = X at *
              have RA := R0.out.on hX
              obtain ⟨r0, q0⟩ := RA.g0
              obtain ⟨r1, q1⟩ := RA.g1
              have R5 := (RA.s0 (.slice none 0 0)).s1 (.slice none 0 0)
              obtain ⟨e0, _⟩ := R5.g0
              obtain ⟨e1, _⟩ := R5.g1
              have HB : Hid (Below w.heap.size w ((X.setCell ⟨w.heap.size + 1 + 1 + 1, 0, none⟩ (.slice none 0 0)).setCell ⟨w.heap.size + 1 + 1 + 1, 1, none⟩ (.slice none 0 0))) := ((below_over hwW hX).setCell (p := ⟨w.heap.size + 1 + 1 + 1, 0, none⟩) (by simp; omega) _).setCell (p := ⟨w.heap.size + 1 + 1 + 1, 1, none⟩) (by simp; omega) _
              clear RA R5 
              go_wp2
              refine bodyPost_ret (v := .tuple #[.agg #[.slice none 0 0, .slice none 0 0], .bool false]) (by simp [results, Tryz.results42, go_sem, e0, e1]) rfl ?_
              exact ⟨.inr ⟨HEF.out, none, 0, 0, none, 0, 0, rfl⟩, HB.out⟩
            · obtain ⟨kp, hkq⟩ : ∃ kp : Nat, st.length = kp + N + 1 := ⟨st.length - N - 1, by omega⟩
              have HKQ : Hid (st.length = kp + N + 1) := hkq
              have hkl : kp < st.length := by omega
              obtain ⟨gs, os, hz1, -, as0⟩ := HS.out.get hkl
              subst hz1
              have ls : gs < w.heap.size := cell_lt as0
              have hk0 := get_kind HKS.out.1 hp0 kp
              obtain ⟨T0, HT0⟩ : ∃ T, Hid (st.getD kp 0 = T) := ⟨_, rfl⟩
              have as1 : w.cell? ⟨gs, os + kp, none⟩ = some (.int .i64 T0) := by rw [← HT0.out, List.getD_eq_getElem?_getD, List.getElem?_eq_getElem hkl]; simpa [IntAt] using as0
              rw [HT0.out] at hk0
              have sV := (below_over hwW hbu).cell ls |>.trans as1
              have hwr1 : wrap64 ((st.length : Int) - (N : Int)) = (kp : Int) + 1 := by unfold wrap64; omega
              have hwr2 : wrap64 ((kp : Int) + 1 - 1) = (kp : Int) := by unfold wrap64; omega
              have hkn : ¬ (kp : Int) < 0 := by omega
              have hkd : decide ((kp : Int) < 0) = false := by simp
              have hki : (kp : Int) < (st.length : Int) := by omega
              clear as0 as1 hkq
              go_wp2_with fail
              rw [show ((st.length : Int) - (N : Int) - 1) = (kp : Int) from by have := HKQ.out; omega]
              cases hf0 : fitB p T0 a
              · have HEF : Hid (G = none) := by
                  show _ = _
                  rw [← HG.out, if_pos hc', HCM.out, Option.bind_some]
                  unfold tpF
                  rw [tk_call, HN.out, if_neg hkp, if_neg]; rfl
                  rintro ⟨h, _⟩
                  rw [show st.length - N - 1 = kp from by have := HKQ.out; omega, HT0.out, hf0] at h
                  cases h
                have e0 := cell_regrown p0
                have e1 := cell_regrown t0
                have e2 := cell_regrown i1
                have e3 := cell_regrown sV
                have q0 : ∀ d os, Calls Tryz.prog 41 #[.agg #[.slice (some ⟨kb, ko, none⟩) p.length pc], .int .i64 T0, .int .i64 a] (Sort.grow (redrawn wc d) os) fun e w'' => e = .returned (.bool false) ∧ ∃ p : Regrown, w'' = Sort.grow (redrawn wc p.d) p.os := by
                  intro d os
                  have h := l6Fits B p (some ⟨kb, ko, none⟩) pc T0 a hk0.1 hk0.2 (by omega) hc' h6 HSU.out _ (SK.on HP.out (Keep.of (below_over hwW (below_over hbu (below_regrown wc d os)))))
                  rw [hf0] at h
                  exact Calls.regrown_of h
                refine wp_region_quiet_below (by kernel_rfl) (by kernel_rfl) ?_
                repeat (go_big_quiet_step (fail))
                go_big_quiet_step ((go_at_call 41; exact q0 _ _))
                repeat (go_big_quiet_step (fail))
                refine wpQuiet_nil ?_
                intro _ hw'
                obtain ⟨⟨dq, osq⟩, hw''⟩ := hw'
                subst hw''
                have hX : Below W.heap.size W (Sort.grow (redrawn wc dq) osq) := below_over hbu (below_regrown wc dq osq)
                clear n1 t0 i1 p0 sV e0 e1 e2 e3 q0
                generalize Sort.grow (redrawn wc dq) osq = X at *
                have RA := R0.out.on hX
                obtain ⟨r0, q0⟩ := RA.g0
                obtain ⟨r1, q1⟩ := RA.g1
                have R5 := (RA.s0 (.slice none 0 0)).s1 (.slice none 0 0)
                obtain ⟨e0, _⟩ := R5.g0
                obtain ⟨e1, _⟩ := R5.g1
                have HB : Hid (Below w.heap.size w ((X.setCell ⟨w.heap.size + 1 + 1 + 1, 0, none⟩ (.slice none 0 0)).setCell ⟨w.heap.size + 1 + 1 + 1, 1, none⟩ (.slice none 0 0))) := ((below_over hwW hX).setCell (p := ⟨w.heap.size + 1 + 1 + 1, 0, none⟩) (by simp; omega) _).setCell (p := ⟨w.heap.size + 1 + 1 + 1, 1, none⟩) (by simp; omega) _
                clear RA R5 
                go_wp2
                refine bodyPost_ret (v := .tuple #[.agg #[.slice none 0 0, .slice none 0 0], .bool false]) (by simp [results, Tryz.results42, go_sem, e0, e1]) rfl ?_
                exact ⟨.inr ⟨HEF.out, none, 0, 0, none, 0, 0, rfl⟩, HB.out⟩
              · have e0 := cell_regrown p0
                have e1 := cell_regrown t0
                have e2 := cell_regrown i1
                have e3 := cell_regrown sV
                have q0 : ∀ d os, Calls Tryz.prog 41 #[.agg #[.slice (some ⟨kb, ko, none⟩) p.length pc], .int .i64 T0, .int .i64 a] (Sort.grow (redrawn wc d) os) fun e w'' => e = .returned (.bool true) ∧ ∃ p : Regrown, w'' = Sort.grow (redrawn wc p.d) p.os := by
                  intro d os
                  have h := l6Fits B p (some ⟨kb, ko, none⟩) pc T0 a hk0.1 hk0.2 (by omega) hc' h6 HSU.out _ (SK.on HP.out (Keep.of (below_over hwW (below_over hbu (below_regrown wc d os)))))
                  rw [hf0] at h
                  exact Calls.regrown_of h
                refine wp_region_quiet_below (by kernel_rfl) (by kernel_rfl) ?_
                repeat (go_big_quiet_step (fail))
                go_big_quiet_step ((go_at_call 41; exact q0 _ _))
                repeat (go_big_quiet_step (fail))
                refine wpQuiet_nil ?_
                intro _ hw'
                obtain ⟨⟨dq, osq⟩, hw''⟩ := hw'
                subst hw''
                have hX : Below W.heap.size W (Sort.grow (redrawn wc dq) osq) := below_over hbu (below_regrown wc dq osq)
                have HCX : Hid (Cells (Sort.grow (redrawn wc dq) osq) k [.int .i64 m.name, .slice x3 N y3, .int .i64 m.gives, .slice gc m.code.length y4]) := HCK.out.on (below_regrown wc dq osq)
                clear n1 t0 i1 p0 sV e0 e1 e2 e3 q0 HCK hwr1 hwr2 hkn hkd
                generalize Sort.grow (redrawn wc dq) osq = X at *
                obtain ⟨n1, _⟩ := HCX.out.g1
                go_wp2
                clear n1 hup l0 hsl hkk lx hs ls hkl hki hk0 hkW
                go_loopw [11] (fun i wr => ∃ j : Nat, j ≤ N ∧ i = .int .i64 j ∧ Hid (∀ q, q < j → fitB p (st.getD (kp + 1 + q) 0) (m.args.getD q 0) = true) ∧ Below X.heap.size X wr) (fun i _ => N - (intOf i).toNat)
                case atStart => exact ⟨0, Nat.zero_le _, rfl, fun q hq => absurd hq (Nat.not_lt_zero _), Below.refl _ _⟩
                case round =>
                  obtain ⟨j, hj, rfl, hall, hb⟩ := hrel
                  have hwr : Below W.heap.size W wr := below_over hX hb
                  obtain ⟨n1, _⟩ := (HCX.out.on hb).g1
                  obtain ⟨n2, _⟩ := (HCX.out.on hb).g2
                  obtain ⟨t0, _⟩ := (C2.out.on hwr).g0
                  obtain ⟨t1, _⟩ := (C2.out.on hwr).g1
                  obtain ⟨p0, _⟩ := (C0.out.on hwr).g0
                  by_cases hlt : j < N
                  · have hkj : kp + 1 + j < st.length := (subLt HKQ.out).1 j hlt
                    obtain ⟨gs', os', hzz, -, as0⟩ := (SI.on HS.out (Keep.of (below_over hwW hwr))).get hkj
                    cases hzz
                    obtain ⟨ga, oa, hx3, -, aa0⟩ := (SI.on HXV.out.1 (Keep.of (below_over hwW hwr))).get (k := j) (by rw [HN.out]; exact hlt)
                    subst hx3
                    have hk1 := get_kind HKS.out.1 hp0 (kp + 1 + j)
                    have hk2 := get_kind (args_kind HMK.out) hp0 j
                    obtain ⟨T1, HT1⟩ : ∃ T, Hid (st.getD (kp + 1 + j) 0 = T) := ⟨_, rfl⟩
                    obtain ⟨Y1, HY1⟩ : ∃ T, Hid (m.args.getD j 0 = T) := ⟨_, rfl⟩
                    have as1 : wr.cell? ⟨gs, os + (kp + 1 + j), none⟩ = some (.int .i64 T1) := by rw [← HT1.out, List.getD_eq_getElem?_getD, List.getElem?_eq_getElem hkj]; simpa [IntAt] using as0
                    have aa1 : wr.cell? ⟨ga, oa + j, none⟩ = some (.int .i64 Y1) := by rw [← HY1.out, List.getD_eq_getElem?_getD, List.getElem?_eq_getElem (by rw [HN.out]; exact hlt)]; simpa [IntAt] using aa0
                    rw [HT1.out] at hk1
                    rw [HY1.out] at hk2
                    have hji : (j : Int) < (N : Int) := (idxSm hlt hkj).2.1
                    clear as0 aa0
                    have e0 := cell_regrown p0
                    have e1 := cell_regrown t0
                    have e2 := cell_regrown n1
                    have e3 := cell_regrown as1
                    have e4 := cell_regrown aa1
                    go_wp2_with fail
                    cases hf1 : fitB p T1 Y1
                    · have q0 : ∀ d os, Calls Tryz.prog 41 #[.agg #[.slice (some ⟨kb, ko, none⟩) p.length pc], .int .i64 T1, .int .i64 Y1] (Sort.grow (redrawn wr d) os) fun e w'' => e = .returned (.bool false) ∧ ∃ p : Regrown, w'' = Sort.grow (redrawn wr p.d) p.os := by
                        intro d os
                        have h := l6Fits B p (some ⟨kb, ko, none⟩) pc T1 Y1 hk1.1 hk1.2 hk2.1 hk2.2 h6 HSU.out _ (SK.on HP.out (Keep.of (below_over hwW (below_over hwr (below_regrown wr d os)))))
                        rw [hf1] at h
                        exact Calls.regrown_of h
                      have HEF : Hid (G = none) := by
                        show _ = _
                        rw [← HG.out, if_pos hc', HCM.out, Option.bind_some]
                        unfold tpF
                        rw [tk_call, HN.out, if_neg hkp, if_neg]; rfl
                        rintro ⟨_, h⟩
                        have h := h j hlt
                        rw [show st.length - N - 1 = kp from subSm HKQ.out, HT1.out, HY1.out, hf1] at h
                        cases h
                      refine wp_region_quiet_below (by kernel_rfl) (by kernel_rfl) ?_
                      repeat (go_big_quiet_step (fail))
                      go_big_quiet_step ((go_at_call 41; exact q0 _ _))
                      repeat (go_big_quiet_step (fail))
                      refine wpQuiet_nil ?_
                      intro _ hw'
                      obtain ⟨⟨dq, osq⟩, hw''⟩ := hw'
                      subst hw''
                      have hY : Below W.heap.size W (Sort.grow (redrawn wr dq) osq) := below_over hwr (below_regrown wr dq osq)
                      clear n1 n2 t0 t1 p0 as1 aa1 e0 e1 e2 e3 e4 q0
                      generalize Sort.grow (redrawn wr dq) osq = Y at *
                      have RA := R0.out.on hY
                      obtain ⟨r0, q0⟩ := RA.g0
                      obtain ⟨r1, q1⟩ := RA.g1
                      have R5 := (RA.s0 (.slice none 0 0)).s1 (.slice none 0 0)
                      obtain ⟨e0, _⟩ := R5.g0
                      obtain ⟨e1, _⟩ := R5.g1
                      have HB : Hid (Below w.heap.size w ((Y.setCell ⟨w.heap.size + 1 + 1 + 1, 0, none⟩ (.slice none 0 0)).setCell ⟨w.heap.size + 1 + 1 + 1, 1, none⟩ (.slice none 0 0))) := ((below_over hwW hY).setCell (p := ⟨w.heap.size + 1 + 1 + 1, 0, none⟩) (by simp; omega) _).setCell (p := ⟨w.heap.size + 1 + 1 + 1, 1, none⟩) (by simp; omega) _
                      clear RA R5 
                      go_wp2
                      refine bodyPost_ret (v := .tuple #[.agg #[.slice none 0 0, .slice none 0 0], .bool false]) (by simp [results, Tryz.results42, go_sem, e0, e1]) rfl ?_
                      exact ⟨.inr ⟨HEF.out, none, 0, 0, none, 0, 0, rfl⟩, HB.out⟩
                    · have q0 : ∀ d os, Calls Tryz.prog 41 #[.agg #[.slice (some ⟨kb, ko, none⟩) p.length pc], .int .i64 T1, .int .i64 Y1] (Sort.grow (redrawn wr d) os) fun e w'' => e = .returned (.bool true) ∧ ∃ p : Regrown, w'' = Sort.grow (redrawn wr p.d) p.os := by
                        intro d os
                        have h := l6Fits B p (some ⟨kb, ko, none⟩) pc T1 Y1 hk1.1 hk1.2 hk2.1 hk2.2 h6 HSU.out _ (SK.on HP.out (Keep.of (below_over hwW (below_over hwr (below_regrown wr d os)))))
                        rw [hf1] at h
                        exact Calls.regrown_of h
                      have hall2 : Hid (∀ q, q < j + 1 → fitB p (st.getD (kp + 1 + q) 0) (m.args.getD q 0) = true) := by
                        intro q hq
                        by_cases hqj : q = j
                        · subst hqj; rw [HT1.out, HY1.out]; exact hf1
                        · exact hall.out q (Nat.lt_of_le_of_ne (Nat.le_of_lt_succ hq) hqj)
                      refine wp_region_quiet_below (by kernel_rfl) (by kernel_rfl) ?_
                      repeat (go_big_quiet_step (fail))
                      go_big_quiet_step ((go_at_call 41; exact q0 _ _))
                      repeat (go_big_quiet_step (fail))
                      refine wpQuiet_nil ?_
                      intro _ hw'
                      obtain ⟨⟨dq, osq⟩, hw''⟩ := hw'
                      subst hw''
                      have hY : Below X.heap.size X (Sort.grow (redrawn wr dq) osq) := below_over hb (below_regrown wr dq osq)
                      clear n1 n2 t0 t1 p0 as1 aa1 e0 e1 e2 e3 e4 q0
                      generalize Sort.grow (redrawn wr dq) osq = Y at *
                      go_wp2
                      exact ⟨⟨j + 1, hlt, by simp, hall2, hY⟩, lessSm hlt⟩
                  · have hnl : ¬ (j : Int) < (N : Int) := fun h => hlt (Int.ofNat_lt.1 h)
                    have HEF : Hid (G = putF lo (st.take kp) [m.gives]) := by
                      show _ = _
                      rw [← HG.out, if_pos hc', HCM.out, Option.bind_some]
                      unfold tpF
                      rw [tk_call, HN.out, if_neg hkp, show st.length - N - 1 = kp from subSm HKQ.out, if_pos ⟨by rw [HT0.out]; exact hf0, fun q hq => hall.out q (Nat.lt_of_lt_of_le hq (Nat.not_lt.1 hlt))⟩, Option.bind_some]
                    have HKR : Hid (SI true B (wr.alloc (.cells #[.int .i64 m.gives] 2)) (.slice (some ⟨wr.heap.size, 0, none⟩) 1 1) [m.gives]) := by
                      have h := SI.weak (grow_lit1 wr m.gives).gint.si (Nat.le_trans HBW.out (Nat.le_trans hwW.size hwr.size))
                      exact h
                    have hhY : Below W.heap.size W (wr.alloc (.cells #[.int .i64 m.gives] 2)) := (hwr.alloc hwr.size _)
                    have HKE : Hid (kp ≤ st.length) := (subLt HKQ.out).2
                    go_wp2_with fail
                    refine (l7Put_at B (some ⟨gs, os, none⟩) z2 c1 c2 st lo (by have := HST.out; omega) (by have := HST.out; omega) hc1 kp HKE.out 1 [m.gives] (by simp) (wr.alloc (.cells #[.int .i64 m.gives] 2)) (SI.on HS.out (Keep.of (below_over hwW hhY))) (SI.on HL.out (Keep.of (below_over hwW hhY))) (some ⟨wr.heap.size, 0, none⟩) HKR.out).mono ?_
                    rintro e w5 ⟨x1, y1, x2, y2, rfl, hown, hb5⟩
                    have hW5 : Below W.heap.size W w5 := below_over hhY hb5
                    have RA := R0.out.on hW5
                    obtain ⟨r0, q0⟩ := RA.g0
                    obtain ⟨r1, q1⟩ := RA.g1
                    obtain ⟨LL, hLL⟩ : ∃ LL, LL = (st.take kp ++ [m.gives]).length := ⟨_, rfl⟩
                    rw [← hLL] at hown
                    rw [← hLL]
                    have HLL : Hid (LL = (st.take kp ++ [m.gives]).length) := hLL
                    have HOW : Hid (OwnS w.heap.size ((w5.setCell ⟨w.heap.size + 1 + 1 + 1, 0, none⟩ (.slice x1 LL y1)).setCell ⟨w.heap.size + 1 + 1 + 1, 1, none⟩ (.slice x2 lo.length y2)) (.slice x1 LL y1) (.slice x2 lo.length y2) (st.take kp ++ [m.gives], lo)) := own_cell2 hown (by have := HZ.out; have := hhY.size; omega) (by have := HZ.out; have := hhY.size; omega)
                    have HBE : Hid (Below w.heap.size w ((w5.setCell ⟨w.heap.size + 1 + 1 + 1, 0, none⟩ (.slice x1 LL y1)).setCell ⟨w.heap.size + 1 + 1 + 1, 1, none⟩ (.slice x2 lo.length y2))) := ((below_over hwW hW5).setCell (p := ⟨w.heap.size + 1 + 1 + 1, 0, none⟩) (by simp; omega) _).setCell (p := ⟨w.heap.size + 1 + 1 + 1, 1, none⟩) (by simp; omega) _
                    have R5 := (RA.s0 (.slice x1 LL y1)).s1 (.slice x2 lo.length y2)
                    obtain ⟨e0, _⟩ := R5.g0
                    obtain ⟨e1, _⟩ := R5.g1
                    clear RA R5 hown hLL hb5 hhY 
                    go_wp2
                    refine bodyPost_ret (v := .tuple #[.agg #[.slice x1 LL y1, .slice x2 lo.length y2], .bool (decide (LL ≤ 8))]) (by simp [results, Tryz.results42, go_sem, e0, e1]) rfl ?_
                    have hLL := HLL.out
                    subst hLL
                    exact l7_end HEF.out HOW.out HBE.out
end Pg
end Go.Proofs.YtfdlljdljefkfaaGreatDoor
