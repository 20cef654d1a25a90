/- The walk of the law FnKnown: over bytes of at most 4096 cells it returns true, and nothing old has turned. -/
import Derived.Test.YtffkkhaiedhaiaaJWk0
import Derived.Test.YtffkkhaiedhaiaaJSd5
import Derived.Deep.Cut
import Derived.Deep.CutRange
import Derived.Deep.CutBlock
import Derived.BigQuiet
namespace Go.Proofs.Ytffkkhaiedhaiaa
namespace Pg
open Go.ChangeShapes Go.WideShapes Go.ChangeAt Go.RowKit St Wd

set_option maxRecDepth 100000 in
theorem known_big (w : World) (a0 : Option Addr) (len cap : Nat) (hl : ¬ len ≤ 4096) :
    Calls Try.prog 5 #[.slice a0 len cap] w fun e w' => e = .returned (.bool true) ∧ Below w.heap.size w w' := by
  have hnb : decide ((4096 : Int) < (len : Int)) = true := by simp; omega
  go_enter Try.func5, Try.ntmps5
  go_wp2_with (go_at_call 6; refine (Cu.big_at _ _ _ _).mono ?_; rintro e w1 ⟨rfl, rfl⟩)
  go_ret
  exact ⟨rfl, Below.refl _ _⟩

set_option maxRecDepth 100000 in
set_option maxHeartbeats 8000000 in
theorem known_small (w : World) (a0 : Option Addr) (len cap : Nat) (hB : Cu.Bytes w.heap.size w a0 len) :
    Calls Try.prog 5 #[.slice a0 len cap] w fun e w' => e = .returned (.bool true) ∧ Below w.heap.size w w' := by
  have hl := hB.1
  have hnb : decide ((4096 : Int) < (len : Int)) = false := by simp; omega
  have HB : Hid (Cu.Bytes w.heap.size w a0 len) := hB
  clear hB
  go_enter Try.func5, Try.ntmps5
  go_wp2_with fail
  refine (Cu.big_at _ _ _ _).mono ?_
  rintro e w1 ⟨rfl, rfl⟩
  go_wp2_with fail
  refine (drawKnown_at w.heap.size _ _ _ _ HB.out (Nat.le_refl _)).mono ?_
  rintro e w3 ⟨ga, ca, a, rfl, hra, hma, hga, hla, hb3⟩
  have HA3 : Hid (Row w3 ga 0 a) := hra
  have HM3 : Hid (Room w3 ga (a.length * 3)) := hma
  have hw3 : Below w.heap.size w w3 := hb3
  clear hra hma hb3 hnb hl HB
  go_wp2_with fail
  refine (implKnown ga ca a (by omega) _ HA3.out).mono ?_
  rintro e w4 ⟨x, rfl, ⟨G, cG, fK, cK, rfl, _, hrw⟩, hb4⟩
  have HG4 : Hid (RowsK w3.heap.size w4 G (nK a) (wdK a) fK cK) := hrw
  have HA4 : Hid (Row w4 ga 0 a) := HA3.out.on hb4
  have HM4 : Hid (Room w4 ga (a.length * 3)) := HM3.out.on hb4
  have hw4 : Below w.heap.size w w4 := below_over hw3 hb4
  have hga4 : ga < w4.heap.size := Nat.lt_of_lt_of_le hga hb4.size
  have hn41 := nK_le a
  clear hrw hb4 HA3 HM3 hw3 hga
  go_wp2_with fail
  refine (specKnownL ga ca a (by omega) _ HA4.out).mono ?_
  rintro e w5 ⟨x, rfl, ⟨G5, c5, f5, cp5, rfl, hrw5⟩, hle, hb5⟩
  have HG5 : Hid (RowsK w4.heap.size w5 G5 (nK a) (wdK a) f5 cp5) := hrw5
  have HLE : Hid (Lay.codeOk a = true → LeastK a (knF a)) := hle
  have HGb : Hid (RowsK w3.heap.size w5 G (nK a) (wdK a) fK cK) := HG4.out.on hb5
  have hx5 : Below w4.heap.size w4 w5 := hb5
  clear hrw5 hle hb5
  go_wp2_with fail
  refine (likeSS (nK a) G G5 cG c5 hn41 (wdK a) (wdK_all a _) fK cK f5 cp5 _ _ w5 HGb.out HG5.out).mono ?_
  rintro e w6 ⟨rfl, hb6⟩
  have hx6 : Below w4.heap.size w4 w6 := below_over hx5 hb6
  have HA6 : Hid (Row w6 ga 0 a) := HA4.out.on hx6
  have HM6 : Hid (Room w6 ga (a.length * 3)) := HM4.out.on hx6
  have HG6 : Hid (RowsK w3.heap.size w6 G (nK a) (wdK a) fK cK) := HG4.out.on hx6
  have hw6 : Below w.heap.size w w6 := below_over hw4 hx6
  have hga6 : ga < w6.heap.size := Nat.lt_of_lt_of_le hga4 hx6.size
  clear hb6 hx5 hx6 HG5 HGb HG4 HA4 HM4 hw4 hga4
  go_wp2_with fail
  refine (specCodeOk ga ca a (by omega) _ HA6.out).mono ?_
  rintro e w19 ⟨rfl, hb19⟩
  have HA19 : Hid (Row w19 ga 0 a) := HA6.out.on hb19
  have HM19 : Hid (Room w19 ga (a.length * 3)) := HM6.out.on hb19
  have HG19 : Hid (RowsK w3.heap.size w19 G (nK a) (wdK a) fK cK) := HG6.out.on hb19
  have hwx : Below w.heap.size w w19 := below_over hw6 hb19
  have hga19 : ga < w19.heap.size := Nat.lt_of_lt_of_le hga6 hb19.size
  clear hb19 HA6 HM6 HG6 hw6 hga6
  cases hok : Lay.codeOk a
  · have h1 : nK a = 0 := by unfold nK; rw [hok]; rfl
    rw [h1]
    clear h1 hok
    go_wp2
    go_ret
    exact ⟨rfl, hwx⟩
  · have HOK : Hid (Lay.codeOk a = true) := hok
    have hNK : nK a = a.length := by unfold nK; rw [hok]; rfl
    rw [hNK] at HG19 hn41 ⊢
    have HSOL : Hid (SolK a (knF a)) := (HLE.out hok).1
    clear hok hNK HLE
    have hl40 := (Lay.ok_len HOK.out).2
    have hl01 := (Lay.ok_len HOK.out).1
    go_wp2_with fail
    refine (withMain_at ga ca a w19 HA19.out HM19.out hga19).mono ?_
    rintro e w20 ⟨bp, rfl, hsk, hb20⟩
    obtain ⟨W, hW⟩ : ∃ W, W = w20.alloc (.cells #[.slice (some ⟨bp, 0, none⟩) 1 1] 39) := ⟨_, rfl⟩
    have h20W : Below w20.heap.size w20 W := by rw [hW]; exact (Below.refl _ _).alloc (Nat.le_refl _) _
    have P0 : Hid (Cells W w20.heap.size [.slice (some ⟨bp, 0, none⟩) 1 1]) := by rw [hW]; exact Cells.new w20 _ rfl _ _
    have HSKW : Hid (SK front 0 W (.slice (some ⟨bp, 0, none⟩) (mainP a).length 1) (mainP a)) := SK.on hsk (Keep.of h20W)
    have hxW : Below w19.heap.size w19 W := below_over hb20 h20W
    have hok' : okP (mainP a) = true := mainP_ok HOK.out
    have HPO : Hid (okP (mainP a) = true) := hok'
    have HSMP : Hid (SmallP (mainP a)) := mainP_small (by omega)
    have hPl : (mainP a).length = 1 := rfl
    have HSF : Hid (startF (mainP a) = (startM (mainP a), true)) := by show _ = _; unfold startF; rw [hok']; rfl
    have p0 := P0.out.g0.1
    clear hsk hb20 hok' h20W hga19
    go_upto_region 10 with fail
    rw [← hW]
    clear hW
    go_wp2_with fail
    have HSTA := specStarted 0 (mainP a) (some ⟨bp, 0, none⟩) 1 HSMP.out W HSKW.out
    rw [hPl, HSF.out] at HSTA
    refine HSTA.mono ?_
    clear HSTA p0
    rintro e w21 ⟨a1, c1, a2, c2, a3, c3, rfl, hmz, hb21⟩
    have hx21 : Below W.heap.size W w21 := hb21
    have HKV : Hid (KV true 0 w21 (.slice a1 (startM (mainP a)).heap.length c1) (.slice a2 (startM (mainP a)).frames.length c2) (.slice a3 (startM (mainP a)).said.length c3) (startM (mainP a))) := hmz.kv
    have HMB : Hid (machB (startM (mainP a)) = true) := main_mach a
    have HWI : Hid (WayI a (startM (mainP a))) := WayI.start a
    have HPI : Hid (PosI a (startM (mainP a))) := PosI.start hl01
    have HKI : Hid (KnwI a (knF a) (startM (mainP a))) := KnwI.start HSOL.out
    clear hmz hb21
    dsimp only
    generalize startM (mainP a) = m0 at *
    obtain ⟨X, hX⟩ : ∃ X, X = w21.alloc (.cells #[.slice a1 m0.heap.length c1, .slice a2 m0.frames.length c2, .slice a3 m0.said.length c3, .int .i64 m0.fin, .int .i64 m0.code] 44) := ⟨_, rfl⟩
    have h21X : Below w21.heap.size w21 X := by rw [hX]; exact (Below.refl _ _).alloc (Nat.le_refl _) _
    have M0 : Hid (Cells X w21.heap.size [.slice a1 m0.heap.length c1, .slice a2 m0.frames.length c2, .slice a3 m0.said.length c3, .int .i64 m0.fin, .int .i64 m0.code]) := by rw [hX]; exact Cells.new w21 _ rfl _ _
    have HKX : Hid (KV true 0 X (.slice a1 m0.heap.length c1) (.slice a2 m0.frames.length c2) (.slice a3 m0.said.length c3) m0) := HKV.out.on (Keep.of h21X)
    have hNX : Below w21.heap.size w21 X := h21X
    have HALL : Hid (∀ x, Below w21.heap.size w21 x → RowsK w3.heap.size x G a.length (wdK a) fK cK ∧ SK front 0 x (.slice (some ⟨bp, 0, none⟩) (mainP a).length 1) (mainP a) ∧ Cells x w20.heap.size [.slice (some ⟨bp, 0, none⟩) 1 1] ∧ Below w.heap.size w x) := fun x hx => by
      have h := below_over hx21 hx
      have h7 := below_over hxW h
      exact ⟨HG19.out.on h7, SK.on HSKW.out (Keep.of h), P0.out.on h, below_over hwx h7⟩
    clear HKV h21X HSKW P0 HA19 HM19 HG19 hx21 hxW hwx
    go_upto_region 11 with fail
    rw [← hX]
    clear hX
    go_wp2
    go_loopw [8] (fun i wr => ∃ (k : Nat) (m : Mc) (a1 a2 a3 : Option Addr) (c1 c2 c3 : Nat), k ≤ 80 ∧ i = .int .i64 (k : Int) ∧ Hid (Cells wr w21.heap.size [.slice a1 m.heap.length c1, .slice a2 m.frames.length c2, .slice a3 m.said.length c3, .int .i64 m.fin, .int .i64 m.code]) ∧ Hid (KV true 0 wr (.slice a1 m.heap.length c1) (.slice a2 m.frames.length c2) (.slice a3 m.said.length c3) m) ∧ Hid (machB m = true) ∧ Hid (m.fin = 0 → WayI a m ∧ PosI a m ∧ KnwI a (knF a) m) ∧ Below w21.heap.size w21 wr) (fun i _ => 80 - (intOf i).toNat)
    case atStart => exact ⟨0, m0, a1, a2, a3, c1, c2, c3, by omega, rfl, M0.out, HKX.out, HMB.out, fun _ => ⟨HWI.out, HPI.out, HKI.out⟩, hNX⟩
    case round =>
      clear M0 HKX HMB HWI HPI HKI hNX
      obtain ⟨k, m, b1, b2, b3, d1, d2, d3, hk, rfl, hM, hK, hMB, hWP, hb⟩ := hrel
      obtain ⟨y1, f1⟩ := hM.out.g1
      obtain ⟨y3, f3⟩ := hM.out.g3
      have hwr : Below w.heap.size w wr := (HALL.out _ hb).2.2.2
      by_cases hk6 : k < 80
      · by_cases hf : m.fin = 0
        · obtain ⟨hWI, hPI, hKI⟩ := hWP.out hf
          have hmc := (mach_core m).1 hMB.out
          have h30 := hmc.1.f30
          have hfr := hmc.2.2.2 hf
          have hl0 : 0 < m.frames.length := List.length_pos_iff.2 hfr
          obtain ⟨q, hq⟩ : ∃ q, m.frames.length = q + 1 := ⟨m.frames.length - 1, by omega⟩
          have hql : q < m.frames.length := by omega
          obtain ⟨f, hfq⟩ : ∃ f, m.frames[q] = f := ⟨_, rfl⟩
          have hlast : m.frames.getLast? = some f := by rw [List.getLast?_eq_getElem?, hq, ← hfq]; simp
          have hmem : f ∈ m.frames := by rw [← hfq]; exact List.getElem_mem hql
          have hp0 := (hWI.all f hmem).2.2.1
          have h8 : f.loc.length = 8 := (hmc.1.fr f hmem).l8
          have hps : ∀ g ∈ m.frames, 0 ≤ g.pos ∧ g.pos ≤ 1000 := fun g hg => by
            have h1 := (hWI.all g hg).2.2.1
            have h2 := hPI g hg
            omega
          have HLK : Hid (f.pos < (a.length : Int) → LocK (knF a) f.pos.toNat f.loc) := fun h => hKI.all f hmem h
          obtain ⟨bf, of, rfl, _, v1, v2, d0, d1', d2', d3', d4, hfv⟩ := hK.out.2.1.get hql
          rw [hfq] at d0 d1' d2' hfv
          obtain ⟨as1, cs1, rfl⟩ := hfv.1.form
          obtain ⟨as2, cs2, rfl⟩ := hfv.2.form
          have HSE : Hid (steppedS (mainP a) m = { (stepS (mainP a) m).1 with fin := (stepS (mainP a) m).2 }) := by
            show _ = _
            unfold steppedS
            rw [HPO.out, hMB.out, if_pos (show (true && true) = true from rfl), if_pos hf]
          have HMB' : Hid (machB (steppedS (mainP a) m) = true) := by show _ = _; rw [HSE.out]; exact mach_step HPO.out hMB.out
          have HON : Hid ((steppedS (mainP a) m).fin = 0 → WayI a (steppedS (mainP a) m) ∧ PosI a (steppedS (mainP a) m) ∧ KnwI a (knF a) (steppedS (mainP a) m)) := by
            show _ → _
            rw [HSE.out]
            intro h0
            obtain ⟨g1, g2⟩ := way_step HOK.out hWI hlast h0
            have g3 := known_step HOK.out HSOL.out hWI hKI (fun g hg => (hmc.1.fr g hg).l8) hlast h0
            exact ⟨⟨g1.all, g1.low⟩, pos_step HOK.out hWI hPI hlast h0, ⟨g3.all, g3.top⟩⟩
          have hfb : (m.fin == 0) = true := by simpa using hf
          have hqi : (m.frames.length : Int) - 1 = (q : Int) := by omega
          have hqlt : (q : Int) < (m.frames.length : Int) := by omega
          obtain ⟨p, hp⟩ := Int.eq_ofNat_of_zero_le hp0
          have hp40 : p ≤ 40 := by have := hPI f hmem; omega
          have H8 : Hid (f.loc.length = 8) := h8
          have HPP : Hid (f.pos = (p : Int)) := hp
          clear hq h8 hp
          obtain ⟨V, hV⟩ : ∃ V, V = wr.alloc (.cells #[.int .i64 f.cls, .int .i64 f.name, .int .i64 f.pos, .slice as1 f.stk.length cs1, .slice as2 f.loc.length cs2] 49) := ⟨_, rfl⟩
          have hrV : Below wr.heap.size wr V := by rw [hV]; exact (Below.refl _ _).alloc (Nat.le_refl _) _
          have F0 : Hid (Cells V wr.heap.size [.int .i64 f.cls, .int .i64 f.name, .int .i64 f.pos, .slice as1 f.stk.length cs1, .slice as2 f.loc.length cs2]) := by rw [hV]; exact Cells.new wr _ rfl _ _
          have hNV : Below w21.heap.size w21 V := by rw [hV]; exact hb.alloc hb.size _
          have HMV : Hid (Cells V w21.heap.size [.slice b1 m.heap.length d1, .slice (some ⟨bf, of, none⟩) m.frames.length d2, .slice b3 m.said.length d3, .int .i64 m.fin, .int .i64 m.code]) := hM.out.on hrV
          have HKV : Hid (KV true 0 V (.slice b1 m.heap.length d1) (.slice (some ⟨bf, of, none⟩) m.frames.length d2) (.slice b3 m.said.length d3) m) := hK.out.on (Keep.of hrV)
          have HLV : Hid (SV true 0 V (.slice as2 f.loc.length cs2) f.loc) := SV.on hfv.2 (Keep.of hrV)
          have HPSH : Hid (∀ g ∈ m.frames, 0 ≤ g.pos ∧ g.pos ≤ 1000) := hps
          have HMBm : Hid (machB m = true) := hMB.out
          obtain ⟨p0, _⟩ := (HALL.out _ hNV).2.2.1.g0
          clear hf hWI hPI hKI hmc hfr hl0 hlast hmem hps hfv hWP hMB hK HSE
          go_upto_region 15 with fail
          rw [← hV]
          clear hV hM y1 f1 y3 f3 d0 d1' d2' d3' d4 hrV
          go_upto_block 2 with fail
          go_cut [10, 11] from 53 to 83 (fun _ _ u => u = V)
          case first =>
            have h8 := H8.out
            have hp := HPP.out
            rw [h8] at F0 HLV
            rw [hp] at F0 HLK
            obtain ⟨z2, _⟩ := F0.out.g2
            obtain ⟨z4, _⟩ := F0.out.g4
            have HRV : Hid (RowsK w3.heap.size V G a.length (wdK a) fK cK) := (HALL.out _ hNV).1
            have HLK' : Hid (p < a.length → LocK (knF a) p f.loc) := fun h => by have := HLK.out (by omega); rwa [Int.toNat_natCast] at this
            clear HON HMB' HMV HKV HPSH HMBm HALL HLK p0 hb hwr hp H8 HPP
            have H8 : Hid (f.loc.length = 8) := h8
            clear h8
            by_cases hpl : p < a.length
            · have hpi : (p : Int) < (a.length : Int) := by omega
              have hw0 : wdK a p 0 ≠ none := by unfold wdK; simp
              have c1 := head_at HRV.out hpl hw0
              have HC2 : Hid (Cells V (fK p) (nums (rowL (wdK a) p))) := (HRV.out.2.2.1 p hpl hw0).2.2.2
              have HL : Hid (LocK (knF a) p f.loc) := HLK'.out hpl
              clear HRV HLK' hw0
              go_wp2
              go_loopw [10] (fun i wr => ∃ j : Nat, j ≤ 8 ∧ i = .int .i64 (j : Int) ∧ wr = V) (fun i _ => 8 - (intOf i).toNat)
              case atStart => exact ⟨0, Nat.zero_le _, rfl, rfl⟩
              case round =>
                obtain ⟨j, hj, rfl, hVV⟩ := hrel
                subst hVV
                by_cases hlt : j < 8
                · have hji : (j : Int) < 8 := by omega
                  obtain ⟨v, hv, hx⟩ := HL.out j hlt
                  have c2 := (HC2.out j (.int .i64 v) (by simp [nums, rowL_at _ _ hlt, wdK, hlt, wdF, hv])).1
                  by_cases hvu : v = UnK
                  · subst hvu
                    clear hv hx
                    go_wp2
                    go_roundw
                    case rel => exact ⟨j + 1, by omega, by go_num, trivial⟩
                    case measure => simp [intOf]; omega
                  · have hx1 : f.loc[j]? = some (1, v) := hx.resolve_left hvu
                    have hvb : (v != 1099511627776) = true := by simpa using hvu
                    obtain ⟨hjl, hx2⟩ := List.getElem?_eq_some_iff.1 hx1
                    obtain ⟨bl, ol, rfl, _, hl1, hl2⟩ := HLV.out.get hjl
                    rw [hx2] at hl1 hl2
                    dsimp only at hl1 hl2
                    clear hv hx hx1 hx2
                    go_wp2
                    go_roundw
                    case rel => exact ⟨j + 1, by omega, by go_num, trivial⟩
                    case measure => simp [intOf]; omega
                · obtain rfl : j = 8 := by omega
                  go_wp2_with fail
                  go_meet
                  rfl
            · have hpi : ¬ (p : Int) < (a.length : Int) := by omega
              clear HRV HLK'
              go_wp2
              go_loopw [10] (fun i wr => ∃ j : Nat, j ≤ 8 ∧ i = .int .i64 (j : Int) ∧ wr = V) (fun i _ => 8 - (intOf i).toNat)
              case atStart => exact ⟨0, Nat.zero_le _, rfl, rfl⟩
              case round =>
                obtain ⟨j, hj, rfl, hVV⟩ := hrel
                subst hVV
                by_cases hlt : j < 8
                · have hji : (j : Int) < 8 := by omega
                  go_wp2_with fail
                  go_meet
                  rfl
                · have hji : ¬ (j : Int) < 8 := by omega
                  go_wp2_with fail
                  go_meet
                  rfl
          case rest =>
            obtain rfl := hcut
            obtain ⟨z0, _⟩ := HMV.out.g0
            obtain ⟨z1, _⟩ := HMV.out.g1
            obtain ⟨z2, _⟩ := HMV.out.g2
            obtain ⟨z3, _⟩ := HMV.out.g3
            obtain ⟨z4, _⟩ := HMV.out.g4
            clear F0 HLV HLK H8 HPP
            go_wp2_with fail
            have HSTP := specStepped_at 0 (mainP a) bp 0 1 HPO.out HSMP.out 0 m HMBm.out HPSH.out b1 (some ⟨bf, of, none⟩) b3 d1 d2 d3 _ (HALL.out _ hNV).2.1 HKV.out
            rw [hPl] at HSTP
            refine HSTP.mono ?_
            clear HSTP
            rintro e w22 ⟨vh, vf, vs, ch, cf, Th, Tf, rfl, hown, hb22⟩
            obtain ⟨x1, y1, rfl⟩ := own_any hown.h.own
            obtain ⟨x2, y2, rfl⟩ := own_any hown.f.own
            obtain ⟨x3, y3, rfl⟩ := own_any hown.s
            generalize steppedS (mainP a) m = m' at *
            have hN22 : Below w21.heap.size w21 w22 := below_over hNV hb22
            have MU := HMV.out.on hb22
            have hVM : w21.heap.size < _ := cell_lt HMV.out.g0.1
            have R5 := five_cells MU (.slice x1 m'.heap.length y1) (.slice x2 m'.frames.length y2) (.slice x3 m'.said.length y3) (.int .i64 m'.fin) (.int .i64 m'.code)
            have HBF := five_below hN22 (Nat.le_refl _) (.slice x1 m'.heap.length y1) (.slice x2 m'.frames.length y2) (.slice x3 m'.said.length y3) (.int .i64 m'.fin) (.int .i64 m'.code)
            have HKF : Hid (KV true 0 (((((w22.setCell ⟨w21.heap.size, 0, none⟩ (.slice x1 m'.heap.length y1)).setCell ⟨w21.heap.size, 1, none⟩ (.slice x2 m'.frames.length y2)).setCell ⟨w21.heap.size, 2, none⟩ (.slice x3 m'.said.length y3)).setCell ⟨w21.heap.size, 3, none⟩ (.int .i64 m'.fin)).setCell ⟨w21.heap.size, 4, none⟩ (.int .i64 m'.code)) (.slice x1 m'.heap.length y1) (.slice x2 m'.frames.length y2) (.slice x3 m'.said.length y3) m') := by
              have hk0 := (hown.moved (w := ((((w22.setCell ⟨w21.heap.size, 0, none⟩ (.slice x1 m'.heap.length y1)).setCell ⟨w21.heap.size, 1, none⟩ (.slice x2 m'.frames.length y2)).setCell ⟨w21.heap.size, 2, none⟩ (.slice x3 m'.said.length y3)).setCell ⟨w21.heap.size, 3, none⟩ (.int .i64 m'.fin)).setCell ⟨w21.heap.size, 4, none⟩ (.int .i64 m'.code)) (by simp) fun k hk => by
                have hl := hown.low k hk
                have hne : w21.heap.size ≠ k := by omega
                rw [set_blocks _ _ _ _ hne, set_blocks _ _ _ _ hne, set_blocks _ _ _ _ hne, set_blocks _ _ _ _ hne, set_blocks _ _ _ _ hne]).kv
              exact hk0.weak (Nat.zero_le _)
            obtain ⟨r0, q0⟩ := MU.g0
            obtain ⟨r1, q1⟩ := MU.g1
            obtain ⟨r2, q2⟩ := MU.g2
            obtain ⟨r3, q3⟩ := MU.g3
            obtain ⟨r4, q4⟩ := MU.g4
            have HR5 : Hid _ := R5
            have HBFH : Hid _ := HBF
            clear MU R5 HBF hown hb22 z0 z1 z2 z3 z4 p0 HMV HKV HPSH HMBm hN22 hNV hb hwr
            go_wp2
            go_roundw
            case rel => exact ⟨k + 1, m', x1, x2, x3, y1, y2, y3, by omega, by go_num, HR5.out, HKF.out, HMB'.out, HON.out, HBFH.out⟩
            case measure => simp [intOf]; omega
        · have hfb : (m.fin == 0) = false := by simpa using hf
          clear hf
          go_wp2
          go_ret
          exact ⟨rfl, hwr⟩
      · have hki : ¬ (k : Int) < 80 := by omega
        go_wp2
        go_ret
        exact ⟨rfl, hwr⟩
end Pg
end Go.Proofs.Ytffkkhaiedhaiaa
