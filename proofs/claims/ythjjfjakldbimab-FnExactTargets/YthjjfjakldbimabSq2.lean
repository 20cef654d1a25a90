/- Contract of the library's leaving out of doubles. -/
import Derived.Test.YthjjfjakldbimabSq1
namespace Go.Proofs.Ythjjfjakldbimab
namespace Pg
open Go.ChangeShapes Go.WideShapes Go.ChangeAt Go.RowKit St

theorem grown_cells {g : Nat} {u : World} : ∀ (vs : List Value) (o : Nat) (v : World), u.grownBy v (some g) → u.grownBy (v.setCells g o vs) (some g)
  | [], _, _, h => h
  | x :: r, o, _, h => grown_cells r (o + 1) _ (grown_set h o x)
set_option maxRecDepth 100000 in
set_option maxHeartbeats 4000000 in
theorem slicesCompact (g cap : Nat) (s : List Int) (hl : s.length ≤ 12) (hcap : s.length ≤ cap) (hs : Srt s s.length) (w : World) (hr : IRow w g 0 s) (hm : Room w g s.length) :
    Calls Try.prog 47 #[.slice (some ⟨g, 0, none⟩) s.length cap] w fun e w' => ∃ r : List Int, e = .returned (.slice (some ⟨g, 0, none⟩) r.length cap) ∧ Rise r ∧ (∀ x, x ∈ r ↔ x ∈ s) ∧ r.length ≤ s.length ∧ IRow w' g 0 r ∧ Room w' g r.length ∧ w.grownBy w' (some g) := by
  have HR : Hid (IRow w g 0 s) := hr
  have HM : Hid (Room w g s.length) := hm
  have HS : Hid (Srt s s.length) := hs
  clear hr hm hs
  by_cases hshort : s.length < 2
  · have hsi : (s.length : Int) < 2 := by omega
    have HE : Hid (Rise s) := by
      show Rise s
      refine List.pairwise_iff_getElem.2 ?_
      intro i j hi hj hij
      omega
    go_enter Try.func47, Try.ntmps47
    go_wp2
    go_ret
    exact ⟨s, rfl, HE.out, fun _ => Iff.rfl, Nat.le_refl _, HR.out, HM.out, grown_refl _ _⟩
  · have hsi : ¬ (s.length : Int) < 2 := by omega
    go_enter Try.func47, Try.ntmps47
    go_wp2
    go_loopw [3] (fun v wr => ∃ k : Nat, v = .int .i64 ((k : Int) + 1) ∧ k + 1 ≤ s.length ∧ Hid (Str s (k + 1)) ∧ Hid (Below w.heap.size w wr)) (fun v _ => s.length - (intOf v).toNat)
    case atStart => exact ⟨0, rfl, by omega, Str.one s, Below.refl _ _⟩
    case round =>
      obtain ⟨k, rfl, hk, hstr, hb⟩ := hrel
      by_cases hlt : k + 1 < s.length
      · have hk0 : k < s.length := by omega
        have R0 : Hid (IRow wr g 0 s) := HR.out.on hb.out
        have M0 : Hid (Room wr g s.length) := HM.out.on hb.out
        have c1 := R0.out (k + 1) _ (List.getElem?_eq_getElem hlt)
        have c0 := R0.out k _ (List.getElem?_eq_getElem hk0)
        have X0 : Hid (s[k]? = some s[k]) := List.getElem?_eq_getElem hk0
        have X1 : Hid (s[k + 1]? = some s[k + 1]) := List.getElem?_eq_getElem hlt
        generalize s[k] = x at *
        generalize s[k + 1] = y at *
        have hxy : x ≤ y := HS.out k (k + 1) x y (by omega) hlt X0.out X1.out
        rw [Nat.zero_add] at c0 c1
        have hki0 : (0 : Int) ≤ (k : Int) := by omega
        have hki1 : (0 : Int) ≤ (k : Int) + 1 := by omega
        have hki2 : (k : Int) + 1 < (s.length : Int) := by omega
        have hki3 : (k : Int) < (s.length : Int) := by omega
        have htn : ((k : Int) + 1).toNat = k + 1 := by omega
        have hsub : (k : Int) + 1 - 1 = (k : Int) := by omega
        have hws : IntKind.i64.wrap (k : Int) = (k : Int) := by simp [IntKind.wrap, IntKind.signed, IntKind.bits]; omega
        have e0 := cell_regrown c0
        have e1 := cell_regrown c1
        by_cases hq : y = x
        · subst hq
          have HC : Hid (Cpt s s (k + 1) (k + 1 + 1)) := Cpt.start hstr.out X0.out X1.out
          clear hstr X0 X1 hxy
          go_wp2_with fail
          refine wp_region_quiet_below (by kernel_rfl) (by kernel_rfl) ?_
          repeat (go_big_quiet_step (fail))
          refine wpQuiet_nil ?_
          intro _ hw'
          obtain ⟨⟨dq, osq⟩, hw''⟩ := hw'
          subst hw''
          have hbq := below_over hb.out (below_regrown wr dq osq)
          have HROW : Hid (IRow (Sort.grow (redrawn wr dq) osq) g 0 s) := HR.out.on hbq
          have HROOM : Hid (Room (Sort.grow (redrawn wr dq) osq) g s.length) := HM.out.on hbq
          have HGR : Hid (w.grownBy (Sort.grow (redrawn wr dq) osq) (some g)) := grown_on (grown_refl _ _) hbq
          clear hb R0 M0 hbq c0 c1 e0 e1
          generalize Sort.grow (redrawn wr dq) osq = w4 at *
          have hkl : (k : Int) + 1 ≤ (s.length : Int) := by omega
          go_wp2
          obtain ⟨d, hd⟩ : ∃ d, s.length - (k + 1) = d := ⟨_, rfl⟩
          obtain ⟨dc, hdc⟩ : ∃ dc, cap - (k + 1) = dc := ⟨_, rfl⟩
          rw [hd, hdc]
          have HD : Hid (s.length = k + 1 + d) := by show _ = _; omega
          have hd1 : 1 ≤ d := by omega
          have hd12 : d ≤ 12 := by omega
          clear hd hdc
          go_loopw [3, 5] (fun a b wr => ∃ (q kk : Nat) (l : List Int), a = .int .i64 (kk : Int) ∧ b = .int .i64 ((q : Int) + 1) ∧ q + 1 ≤ d ∧ kk ≤ k + 1 + q ∧ Hid (Cpt s l kk (k + 1 + (q + 1))) ∧ Hid (IRow wr g 0 l) ∧ Hid (Room wr g s.length) ∧ Hid (w.grownBy wr (some g))) (fun _ b _ => d + 1 - (intOf b).toNat)
          case atStart => exact ⟨0, k + 1, s, by simp, rfl, hd1, Nat.le_refl _, HC.out, HROW.out, HROOM.out, HGR.out⟩
          case round =>
            clear HC HROW HROOM HGR HR HM
            obtain ⟨q, kk, l, rfl, rfl, hq, hkk, hc, hrow, hroom, hgr⟩ := hrel
            have hcl := hc.out.len
            by_cases hlt2 : q + 1 < d
            · have hm : k + 1 + (q + 1) < s.length := by rw [HD.out]; omega
              have hm0 : k + 1 + q < s.length := by omega
              have X1 : Hid (s[k + 1 + (q + 1)]? = some s[k + 1 + (q + 1)]) := List.getElem?_eq_getElem hm
              have X0 : Hid (s[k + 1 + (q + 1) - 1]? = some s[k + 1 + q]) := List.getElem?_eq_getElem hm0
              have c1 := hrow.out (k + 1 + (q + 1)) _ ((hc.out.rest _ (by omega)).trans X1.out)
              have c0 := hrow.out (k + 1 + q) _ ((hc.out.rest _ (by omega)).trans X0.out)
              have hxy : s[k + 1 + q] ≤ s[k + 1 + (q + 1)] := HS.out (k + 1 + q) (k + 1 + (q + 1)) _ _ (by omega) hm X0.out X1.out
              generalize s[k + 1 + q] = x at *
              generalize s[k + 1 + (q + 1)] = y' at *
              rw [Nat.zero_add] at c0 c1
              have hqi0 : (0 : Int) ≤ (q : Int) := by omega
              have hqi1 : (0 : Int) ≤ (q : Int) + 1 := by omega
              have hqi2 : (q : Int) + 1 < (d : Int) := by omega
              have hqi3 : (q : Int) < (d : Int) := by omega
              have hqn : ((q : Int) + 1).toNat = q + 1 := by omega
              have hqs : (q : Int) + 1 - 1 = (q : Int) := by omega
              have hqw : IntKind.i64.wrap (q : Int) = (q : Int) := by simp [IntKind.wrap, IntKind.signed, IntKind.bits]; omega
              have e0 := cell_regrown c0
              have e1 := cell_regrown c1
              by_cases hq2 : y' = x
              · subst hq2
                have hqb : (y' != y') = false := by simp
                have HC2 : Hid (Cpt s l kk (k + 1 + (q + 1 + 1))) := hc.out.same X0.out X1.out
                clear hc X0 X1 hxy
                go_wp2_with fail
                refine wp_region_quiet_below (by kernel_rfl) (by kernel_rfl) ?_
                repeat (go_big_quiet_step (fail))
                refine wpQuiet_nil ?_
                intro _ hw'
                obtain ⟨⟨dq, osq⟩, hw''⟩ := hw'
                subst hw''
                have hbq := below_regrown wr dq osq
                have HR2 : Hid (IRow (Sort.grow (redrawn wr dq) osq) g 0 l) := hrow.out.on hbq
                have HM2 : Hid (Room (Sort.grow (redrawn wr dq) osq) g s.length) := hroom.out.on hbq
                have HG2 : Hid (w.grownBy (Sort.grow (redrawn wr dq) osq) (some g)) := grown_on hgr.out hbq
                clear hrow hroom hgr hbq c0 c1 e0 e1
                generalize Sort.grow (redrawn wr dq) osq = w5 at *
                go_wp2
                go_roundw
                case rel => exact ⟨q + 1, kk, l, rfl, by go_num, by omega, by omega, HC2.out, HR2.out, HM2.out, HG2.out⟩
                case measure => simp [intOf]; omega
              · have hqb : (y' != x) = true := by simpa using hq2
                have HC2 : Hid (Cpt s (l.set kk y') (kk + 1) (k + 1 + (q + 1 + 1))) := hc.out.more X0.out X1.out (by omega)
                have hkl : (kk : Int) < (s.length : Int) := by omega
                have hkl0 : (0 : Int) ≤ (kk : Int) := by omega
                clear hc X0 X1 hxy
                go_wp2_with fail
                refine wp_region_quiet_below (by kernel_rfl) (by kernel_rfl) ?_
                repeat (go_big_quiet_step (fail))
                refine wpQuiet_nil ?_
                intro _ hw'
                obtain ⟨⟨dq, osq⟩, hw''⟩ := hw'
                subst hw''
                have hbq := below_regrown wr dq osq
                have HR1 : Hid (IRow (Sort.grow (redrawn wr dq) osq) g 0 l) := hrow.out.on hbq
                have HM1 : Hid (Room (Sort.grow (redrawn wr dq) osq) g s.length) := hroom.out.on hbq
                have HG1 : Hid (w.grownBy (Sort.grow (redrawn wr dq) osq) (some g)) := grown_on hgr.out hbq
                have d1 := e1 dq osq
                clear hrow hroom hgr hbq c0 c1 e0 e1
                generalize Sort.grow (redrawn wr dq) osq = w5 at *
                obtain ⟨⟨z, f0⟩, f1⟩ := HM1.out kk (by omega)
                have HR2 : Hid (IRow (w5.setCell ⟨g, kk, none⟩ (.int .i64 y')) g 0 (l.set kk y')) := irow_set y' HR1.out
                have HM2 : Hid (Room (w5.setCell ⟨g, kk, none⟩ (.int .i64 y')) g s.length) := room_set HM1.out _ _
                have HG2 : Hid (w.grownBy (w5.setCell ⟨g, kk, none⟩ (.int .i64 y')) (some g)) := grown_set HG1.out _ _
                clear HR1 HM1 HG1
                go_wp2
                go_roundw
                case rel => exact ⟨q + 1, kk + 1, l.set kk y', by go_num, by go_num, by omega, by omega, HC2.out, HR2.out, HM2.out, HG2.out⟩
                case measure => simp [intOf]; omega
            · have hqd : k + 1 + (q + 1) = s.length := by rw [HD.out]; omega
              have HC2 : Hid (Cpt s l kk s.length) := by rw [← hqd]; exact hc.out
              have hqi2 : ¬ (q : Int) + 1 < (d : Int) := by omega
              have hkl : (kk : Int) ≤ (s.length : Int) := by omega
              have hkl0 : (0 : Int) ≤ (kk : Int) := by omega
              have hkc : (kk : Int) ≤ (cap : Int) := by omega
              have hcl2 : ∀ ty, (Builtin.clear_ #[26] ty #[.slice (some ⟨g, kk, none⟩) (s.length - kk) (cap - kk)]).run Try.prog wr = .ok (.tuple #[]) (wr.setCells g kk (List.replicate (s.length - kk) (.int .i64 0))) := fun ty =>
                Lib.run_clear_slice wr 26 2 ty (.int .i64 0) Try.underlying26 Try.zeroValue2 rfl rfl g kk (s.length - kk) (cap - kk) (by omega) (fun j hj => by obtain ⟨⟨z, hz⟩, _⟩ := hroom.out (kk + j) (by omega); rw [hz]; rfl) (fun j hj => (hroom.out (kk + j) (by omega)).2)
              have HR2 : Hid (IRow (wr.setCells g kk (List.replicate (s.length - kk) (.int .i64 0))) g 0 (l.take kk)) := fun j x hj => by
                rw [List.getElem?_take] at hj
                split at hj
                · rw [World.cell?_setCells_out g _ kk wr ⟨g, 0 + j, none⟩ (fun _ _ => .inl (by show 0 + j < kk; omega))]
                  exact hrow.out j x hj
                · simp at hj
              have HM2 : Hid (Room (wr.setCells g kk (List.replicate (s.length - kk) (.int .i64 0))) g kk) := fun j hj => by
                obtain ⟨⟨z, hz⟩, hf⟩ := hroom.out j (by omega)
                exact ⟨⟨z, by rw [World.cell?_setCells_out g _ kk wr ⟨g, j, none⟩ (fun _ _ => .inl hj)]; exact hz⟩, by rw [World.frozen?_setCells]; exact hf⟩
              have HG2 : Hid (w.grownBy (wr.setCells g kk (List.replicate (s.length - kk) (.int .i64 0))) (some g)) := grown_cells _ _ _ hgr.out
              obtain ⟨hE1, hE2, hE3⟩ := HC2.out.ends
              have HL : Hid ((l.take kk).length = kk) := by show _ = _; rw [List.length_take]; omega
              have HE1 : Hid (Rise (l.take kk)) := hE1
              have HE2 : Hid (∀ x, x ∈ l.take kk ↔ x ∈ s) := hE2
              clear hE1 hE2 hE3 hc HC2 hrow hroom hgr
              go_wp2
              go_ret
              exact ⟨l.take kk, by rw [HL.out]; rfl, HE1.out, HE2.out, by rw [HL.out]; omega, HR2.out, by rw [HL.out]; exact HM2.out, HG2.out⟩
        · have hqb : (y == x) = false := by simpa using hq
          have HN : Hid (Str s (k + 1 + 1)) := hstr.out.next X0.out X1.out (by omega)
          clear hstr X0 X1 hxy
          go_wp2_with fail
          refine wp_region_quiet_below (by kernel_rfl) (by kernel_rfl) ?_
          repeat (go_big_quiet_step (fail))
          refine wpQuiet_nil ?_
          intro _ hw'
          obtain ⟨⟨dq, osq⟩, hw''⟩ := hw'
          subst hw''
          have HBQ : Hid (Below w.heap.size w (Sort.grow (redrawn wr dq) osq)) := below_over hb.out (below_regrown wr dq osq)
          clear hb R0 M0 c0 c1 e0 e1
          generalize Sort.grow (redrawn wr dq) osq = w4 at *
          go_wp2
          go_roundw
          case rel => exact ⟨k + 1, by go_num, by omega, HN.out, HBQ.out⟩
          case measure => simp [intOf]; omega
      · have hke : k + 1 = s.length := by omega
        have HE : Hid (Rise s) := Str.ends (by rw [← hke]; exact hstr.out)
        have hki2 : ¬ (k : Int) + 1 < (s.length : Int) := by omega
        clear hstr
        go_wp2
        go_ret
        exact ⟨s, rfl, HE.out, fun _ => Iff.rfl, Nat.le_refl _, HR.out.on hb.out, HM.out.on hb.out, grown_on (grown_refl _ _) hb.out⟩
end Pg
end Go.Proofs.Ythjjfjakldbimab
