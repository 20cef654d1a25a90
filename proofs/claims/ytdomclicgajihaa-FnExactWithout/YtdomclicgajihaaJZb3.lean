/- The contract of the specification's leaving out of methods, told of its copy. -/
import Derived.Test.YtdomclicgajihaaJZb2
import Derived.Deep.RegionHeld3
import Derived.Deep.CutRange
import Derived.Deep.DeepCutAuto
namespace Go.Proofs.Ytdomclicgajihaa
namespace Pg
open Go.ChangeShapes Go.WideShapes Go.ChangeAt Go.RowKit St

/-- What the specification's copy does. -/
def CopyLaw : Prop := ∀ (B : Nat) (a : Option Addr) (cap : Nat) (p : Prg), SmallP p → ∀ w, SK front B w (.slice a p.length cap) p →
  Calls Try.prog 37 #[.agg #[.slice a p.length cap]] w fun e w' => ∃ v l, e = .returned (.agg #[v]) ∧ l.map (·.1) = p ∧ KQ QC (w.heap.size + 3) w'.heap.size w' v l ∧ Below w.heap.size w w'
theorem wo_names {L : List Int} {i : Nat} {c : Cls} {k : Nat} (hk : k < c.meths.length) : (c.meths.take (k + 1)).filter (fun m => !decide ((i : Int) * 20 + m.name ∈ L)) = (c.meths.take k).filter (fun m => !decide ((i : Int) * 20 + m.name ∈ L)) ++ (if (i : Int) * 20 + c.meths[k].name ∈ L then [] else [c.meths[k]]) := by
  rw [List.take_succ_eq_append_getElem hk, List.filter_append]
  congr 1
  by_cases h : (i : Int) * 20 + c.meths[k].name ∈ L <;> simp [h]

set_option maxRecDepth 100000 in
set_option maxHeartbeats 4000000 in
theorem specWithout (CL : CopyLaw) (B : Nat) (a : Option Addr) (cap : Nat) (p : Prg) (hsp : SmallP p) (hp6 : p.length ≤ 6) (hp1 : 0 < p.length) (hnm : ∀ c ∈ p, ∀ m ∈ c.meths, 0 ≤ m.name ∧ m.name ≤ 19) (L : List Int) (hL : L.length ≤ 1048576) (gl cl : Nat) (w : World) (hp : SK front B w (.slice a p.length cap) p) (hi : IRow w gl 0 L) :
    Calls Try.prog 19 #[.agg #[.slice a p.length cap], .slice (some ⟨gl, 0, none⟩) L.length cl] w fun e w' => ∃ v, e = .returned (.agg #[v]) ∧ SK front w.heap.size w' v (woP L p) ∧ Below w.heap.size w w' := by
  obtain ⟨jm, hjm, hm0, hm1, hm2⟩ := info_parts infoMe
  have HSP : Hid (SmallP p) := hsp
  have HP : Hid (SK front B w (.slice a p.length cap) p) := hp
  have HI : Hid (IRow w gl 0 L) := hi
  have HNM : Hid (∀ c ∈ p, ∀ m ∈ c.meths, 0 ≤ m.name ∧ m.name ≤ 19) := hnm
  obtain ⟨V, hV⟩ : ∃ V, V = (w.alloc (.cells #[.slice a p.length cap] 28)).alloc (.cells #[.slice none 0 0] 28) := ⟨_, rfl⟩
  have hwV : Below w.heap.size w V := by rw [hV]; exact ((Below.refl _ _).alloc (Nat.le_refl _) _).alloc (by simp) _
  have C0 : Hid (Cells V w.heap.size [.slice a p.length cap]) := by show Cells _ _ _; rw [hV]; exact (Cells.new w _ rfl _ _).alloc _
  have C1 : Hid (Cells V (w.heap.size + 1) [.slice none 0 0]) := by show Cells _ _ _; rw [hV]; exact Cells.new (w.alloc _) _ (by simp) _ _
  clear hp hsp hi hnm
  obtain ⟨s, hs⟩ : ∃ s, w.heap.size = s := ⟨_, rfl⟩
  rw [hs] at hwV C0 C1
  rw [hs]
  have c0 := C0.out.g0.1
  go_enter Try.func19, Try.ntmps19
  go_wp2_with fail
  try rw [hs]
  rw [← hV]
  clear hV
  refine (CL B a cap p HSP.out _ (SK.on HP.out (Keep.of (by rw [hs]; exact hwV)))).mono ?_
  rintro e w1 ⟨v, l, rfl, hl, hkq, hb1⟩
  have hll : l.length = p.length := by rw [← hl, List.length_map]
  obtain ⟨g, cp, hv, hwo⟩ := hkq.wo (by omega)
  rw [hll] at hv
  subst hv
  have hzV : s + 1 < V.heap.size := St.cell_lt C1.out.g0.1
  clear hkq
  obtain ⟨Bz, hBz⟩ : ∃ Bz, V.heap.size + 3 = Bz := ⟨_, rfl⟩
  have hBs : s + 1 < Bz := by omega
  rw [hBz] at hwo
  obtain ⟨X0, hX0⟩ : ∃ X0, X0 = w1.alloc (.cells #[.slice (some ⟨g, 0, none⟩) p.length cp] 28) := ⟨_, rfl⟩
  obtain ⟨kb, hkb⟩ : ∃ kb, w1.heap.size = kb := ⟨_, rfl⟩
  have hbX : Below w1.heap.size w1 X0 := by rw [hX0]; exact (Below.refl _ _).alloc (Nat.le_refl _) _
  have KX : Hid (Cells X0 kb [.slice (some ⟨g, 0, none⟩) p.length cp]) := by show Cells _ _ _; rw [hX0, ← hkb]; exact Cells.new w1 _ rfl _ _
  have WX : Hid (WO Bz g X0 l) := hwo.on hbX
  have hgk : g < kb := by rw [← hkb]; exact hwo.lt
  have hgB : Bz ≤ g := hwo.ge
  have hb0 : Below V.heap.size V X0 := below_over hb1 hbX
  have BX : Below s w X0 := hwV.trans (hb0.mono (by omega))
  have RX : Hid (Cells X0 (s + 1) [.slice none 0 0]) := C1.out.on hb0
  have HL0 : Hid (∀ j (y : Cls × Value × Value), l[j]? = some y → ∃ c, p[j]? = some c ∧ y.1 = if j < 0 then wo L j c else c) := fun j y hy => ⟨y.1, by rw [← hl, List.getElem?_map, hy]; rfl, by simp⟩
  have HLN : Hid (l.length = p.length) := hll
  clear hl hwo hb1 hbX hb0 C0 C1 c0 hwV hzV hBz
  go_wp2
  try rw [hkb]
  rw [← hX0]
  clear hX0 hkb
  go_loopw [6] (fun x wr => ∃ (i : Nat) (ls : List (Cls × Value × Value)), i ≤ p.length ∧ x = .int .i64 (i : Int) ∧ Hid (ls.length = p.length) ∧ Hid (∀ j (y : Cls × Value × Value), ls[j]? = some y → ∃ c, p[j]? = some c ∧ y.1 = if j < i then wo L j c else c) ∧ Hid (WO Bz g wr ls) ∧ Hid (Cells wr kb [.slice (some ⟨g, 0, none⟩) p.length cp]) ∧ Hid (Cells wr (s + 1) [.slice none 0 0]) ∧ Below s w wr) (fun x _ => p.length - (intOf x).toNat)
  case atStart =>
    exact ⟨0, l, Nat.zero_le _, rfl, HLN.out, HL0.out, WX.out, KX.out, RX.out, BX⟩
  case round =>
    clear KX WX RX BX HL0
    obtain ⟨i, ls, hi, rfl, hln, hls, hwo, hK, hR, hb⟩ := hrel
    have k0 := hK.out.g0.1
    have hn6 : p.length ≤ 6 := hp6
    by_cases hlt : i < p.length
    · have hii : (i : Int) < (p.length : Int) := by omega
      obtain ⟨y, hx⟩ : ∃ y, ls[i]? = some y := ⟨_, List.getElem?_eq_getElem (by have := hln.out; omega)⟩
      obtain ⟨c, hpc, hxc⟩ := hls.out i y hx
      rw [if_neg (Nat.lt_irrefl i)] at hxc
      obtain ⟨cy, vf, vm⟩ := y
      dsimp only at hxc
      subst hxc
      have hcm : cy ∈ p := List.mem_of_getElem? hpc
      have hsm := (HSP.out.2 cy hcm).2.1
      have HNC : Hid (∀ m ∈ cy.meths, 0 ≤ m.name ∧ m.name ≤ 19) := HNM.out cy hcm
      have HBT : Hid (∀ u, Bt Bz g wr u → CV front Bz u vf vm cy) := fun u hu => hwo.out.but _ (List.mem_of_getElem? hx) u hu
      obtain ⟨z2, t2, rfl⟩ := (HBT.out wr (Bt.refl _ _ _)).2.form
      have HPC : Hid (p[i]? = some cy) := hpc
      have HX : Hid (ls[i]? = some (cy, vf, .slice z2 cy.meths.length t2)) := hx
      have c2 := (hwo.out.cells i _ hx).2.2
      rw [Nat.zero_add] at c2
      have hgl := hwo.out.lt
      have hkl : kb < wr.heap.size := St.cell_lt k0
      obtain ⟨W0, rfl⟩ : ∃ W0, W0 = wr := ⟨_, rfl⟩
      obtain ⟨S2, hS2⟩ : ∃ S2, W0.heap.size = S2 := ⟨_, rfl⟩
      obtain ⟨W2, hW2⟩ : ∃ W2, W2 = W0.alloc (.cells #[] 52) := ⟨_, rfl⟩
      have G0 : Hid (GrowM S2 W2 (.slice (some ⟨S2, 0, none⟩) 0 0) []) := by show GrowM _ _ _ _; rw [hW2, ← hS2]; exact growM_nil W0
      have B2 : Hid (Below S2 W0 W2) := by show Below _ _ _; rw [hW2, ← hS2]; exact (Below.refl _ _).alloc (Nat.le_refl _) _
      have HS2 : Hid (W0.heap.size = S2) := hS2
      rw [hS2] at hgl hkl
      clear hx hpc
      go_wp2
      try rw [HS2.out]
      rw [← hW2]
      clear hW2 hS2 c2 k0
      go_loopw [7, 8] (fun v1' x u => ∃ (k : Nat) (lm : List (Meth × Value × Value)) (v1 : Value), k ≤ cy.meths.length ∧ x = .int .i64 (k : Int) ∧ v1 = v1' ∧ Hid (lm.map (·.1) = (cy.meths.take k).filter fun m => !decide ((i : Int) * 20 + m.name ∈ L)) ∧ Hid (GrowM S2 u v1 lm) ∧ Hid (∀ x ∈ lm, ∀ u', Bt Bz g W0 u' → MV front Bz u' x.2.1 x.2.2 x.1) ∧ Hid (Below S2 W0 u)) (fun _ x _ => cy.meths.length - (intOf x).toNat)
      case atStart => exact ⟨0, [], _, Nat.zero_le _, rfl, rfl, rfl, G0.out, (fun x hx => by simp at hx), B2.out⟩
      case round =>
        clear G0 B2
        obtain ⟨k, lm, v1, hk, rfl, rfl, hlm, hg, hd, hbu⟩ := hrel
        have hbu' : Below W0.heap.size W0 wr := by rw [HS2.out]; exact hbu.out
        have hsu : Below s w wr := hb.trans (hbu'.mono (by have := HS2.out; omega))
        have hw' := hwo.out.on hbu'
        have k0 := (hK.out.on hbu').g0.1
        have c2 := (hw'.cells i _ HX.out).2.2
        rw [Nat.zero_add] at c2
        obtain ⟨gv, cv, rfl, hgv, hgv2⟩ := hg.out.form
        have hlmk : lm.length ≤ k := by
          have h1 := congrArg List.length hlm.out
          rw [List.length_map] at h1
          have h2 := List.length_filter_le (fun m => !decide ((i : Int) * 20 + m.name ∈ L)) (cy.meths.take k)
          rw [List.length_take] at h2
          omega
        by_cases hlk : k < cy.meths.length
        · have hki : (k : Int) < (cy.meths.length : Int) := by omega
          obtain ⟨bm, om, va, vc, rfl, hbg, hbl, d0, d1, d2, d3, hmv⟩ := sm_off (fun u hu => (HBT.out u hu).2) hlk
          obtain ⟨xa, ya, rfl⟩ := (hmv W0 (Bt.refl _ _ _)).1.form
          obtain ⟨xc, yc, rfl⟩ := front.form (hmv W0 (Bt.refl _ _ _)).2
          have f0 := (hbu'.cell hbl).trans d0
          have f1 := (hbu'.cell hbl).trans d1
          have f2 := (hbu'.cell hbl).trans d2
          have f3 := (hbu'.cell hbl).trans d3
          obtain ⟨hn0, hn19⟩ := HNC.out _ (List.getElem_mem hlk)
          have HMV : Hid (∀ u', Bt Bz g W0 u' → MV front Bz u' (.slice xa cy.meths[k].args.length ya) (.slice xc cy.meths[k].code.length yc) cy.meths[k]) := hmv
          have HTK : Hid ((cy.meths.take (k + 1)).filter (fun m => !decide ((i : Int) * 20 + m.name ∈ L)) = (cy.meths.take k).filter (fun m => !decide ((i : Int) * 20 + m.name ∈ L)) ++ (if (i : Int) * 20 + cy.meths[k].name ∈ L then [] else [cy.meths[k]])) := wo_names hlk
          have HIW : Hid (IRow wr gl 0 L) := HI.out.on (by rw [hs]; exact hsu)
          have HG : Hid (GrowM S2 wr (.slice (some ⟨gv, 0, none⟩) lm.length cv) lm) := hg.out
          have HSZ : Hid (S2 ≤ wr.heap.size) := by show _ ≤ _; have := hbu'.size; have := HS2.out; omega
          clear hmv d0 d1 d2 d3 hw' hsu hg
          generalize cy.meths[k] = m at *
          go_wp2_with fail
          refine (l1Has gl cl L _ hL _ HIW.out).mono ?_
          rintro e w4 ⟨rfl, hw4⟩
          have hw5 := hw4.symm
          subst hw5
          clear hw4
          by_cases hq : (i : Int) * 20 + m.name ∈ L
          · have HLM : Hid (lm.map (·.1) = (cy.meths.take (k + 1)).filter fun m => !decide ((i : Int) * 20 + m.name ∈ L)) := by show _ = _; rw [HTK.out, if_pos hq, List.append_nil]; exact hlm.out
            have hqd : decide ((i : Int) * 20 + m.name ∈ L) = true := by simp [hq]
            rw [hqd]
            clear hqd hlm HTK hq
            go_wp2
            go_roundw
            case rel => exact ⟨k + 1, lm, _, by omega, by go_num, rfl, HLM.out, HG.out, hd.out, hbu.out⟩
            case measure => simp [intOf]; omega
          · have HLM : Hid ((lm ++ [(m, Value.slice xa m.args.length ya, Value.slice xc m.code.length yc)]).map (·.1) = (cy.meths.take (k + 1)).filter fun m => !decide ((i : Int) * 20 + m.name ∈ L)) := by show _ = _; rw [HTK.out, if_neg hq, List.map_append, hlm.out]; rfl
            have HD : Hid (∀ x ∈ lm ++ [(m, Value.slice xa m.args.length ya, Value.slice xc m.code.length yc)], ∀ u', Bt Bz g W0 u' → MV front Bz u' x.2.1 x.2.2 x.1) := fun x hx => by
              rcases List.mem_append.1 hx with h | h
              · exact hd.out x h
              · rw [List.mem_singleton.1 h]; exact HMV.out
            have hqd : decide ((i : Int) * 20 + m.name ∈ L) = false := by simp [hq]
            rw [hqd]
            clear hqd hlm HTK hq hd
            go_wp2_with (at_builtin; go_loud (refine wpList_append_own _ rfl _ _ 61 rfl S2 52 jm (.agg #[.int .i64 0, .slice none 0 0, .int .i64 0, .slice none 0 0]) 4 64 Try.underlying61 hjm hm0 hm1 hm2 rfl (by decide) (.slice (some ⟨gv, 0, none⟩) lm.length cv) lm.length (flatM lm) rfl (HG.out.1.alloc _) ⟨wr.heap.size, 0, none⟩ 1 1 [.int .i64 m.name, .slice xa m.args.length ya, .int .i64 m.gives, .slice xc m.code.length yc] rfl rfl (cell_four _ _ _ _ _ _) (by simp [Value.oneCell']) (by unfold maxLen; omega) (by omega) (by have := HSZ.out; simp; omega) ?_))
            intro v3 w3 hown3 hgrow3 hnil3
            have HG3 : Hid (GrowM S2 w3 v3 (lm ++ [(m, Value.slice xa m.args.length ya, Value.slice xc m.code.length yc)])) := GrowM.next hown3 (fun h => by first | exact hnil3 h | exact absurd (hnil3.1 h).1 (by simp))
            have HB3 : Hid (Below S2 W0 w3) := (hbu.out.alloc HSZ.out _).grown hgrow3 (by have := HSZ.out; simp; omega) (fun g' hg' => by simp [Value.ownBlock] at hg'; subst hg'; exact hgv)
            clear hown3 hgrow3 hnil3
            go_wp2
            go_roundw
            case rel => exact ⟨k + 1, _, v3, by omega, by go_num, rfl, HLM.out, HG3.out, HD.out, HB3.out⟩
            case measure => simp [intOf]; omega
        · have hki : ¬ (k : Int) < (cy.meths.length : Int) := by omega
          have hlmf : lm.map (·.1) = cy.meths.filter fun m => !decide ((i : Int) * 20 + m.name ∈ L) := by rw [hlm.out, List.take_of_length_le (by omega)]
          have hfr := hw'.fr (i * 3 + 2) (by have := (List.getElem?_eq_some_iff.1 HX.out).1; omega)
          rw [Nat.zero_add] at hfr
          have hfr' : wr.frozen? ⟨g, i * 3 + 2, none⟩ = false := hfr
          have hwp := hw'.put HX.out (c' := wo L i cy) (v1 := .slice (some ⟨gv, 0, none⟩) lm.length cv) rfl (fun u hu => ⟨(HBT.out u (hu.after hbu')).1, by
            have hu' := hu.after hbu'
            have hgr : GrowM S2 u (.slice (some ⟨gv, 0, none⟩) lm.length cv) lm := ⟨zown_on hg.out.1 (fun g' hg' => by simp [Value.ownBlock] at hg'; subst hg'; exact hu.2 gv (by omega) hgv2 (by omega)), hg.out.2⟩
            have h := hgr.sm (B := Bz) (by omega) (fun x hx => hd.out x hx u hu')
            rw [hlmf] at h
            exact h⟩)
          rw [Nat.zero_add] at hwp
          have HWP : Hid (WO Bz g (wr.setCell ⟨g, i * 3 + 2, none⟩ (.slice (some ⟨gv, 0, none⟩) lm.length cv)) (ls.set i (wo L i cy, vf, .slice (some ⟨gv, 0, none⟩) lm.length cv))) := hwp
          have HLS : Hid (∀ j (y : Cls × Value × Value), (ls.set i (wo L i cy, vf, .slice (some ⟨gv, 0, none⟩) lm.length cv))[j]? = some y → ∃ c, p[j]? = some c ∧ y.1 = if j < i + 1 then wo L j c else c) := fun j y hy => by
            by_cases hj : j = i
            · subst hj
              have he : y = (wo L j cy, vf, .slice (some ⟨gv, 0, none⟩) lm.length cv) := by rw [List.getElem?_set_self (by have := hln.out; omega)] at hy; simpa using hy.symm
              subst he
              exact ⟨cy, HPC.out, by rw [if_pos (by omega)]⟩
            · rw [List.getElem?_set_ne (fun e => hj e.symm)] at hy
              obtain ⟨c, h1, h2⟩ := hls.out j y hy
              refine ⟨c, h1, ?_⟩
              rw [h2]
              by_cases h3 : j < i
              · rw [if_pos h3, if_pos (by omega)]
              · rw [if_neg h3, if_neg (by omega)]
          have HLEN : Hid ((ls.set i (wo L i cy, vf, .slice (some ⟨gv, 0, none⟩) lm.length cv)).length = p.length) := by show _ = _; rw [List.length_set]; exact hln.out
          have HKX : Hid (Cells (wr.setCell ⟨g, i * 3 + 2, none⟩ (.slice (some ⟨gv, 0, none⟩) lm.length cv)) kb [.slice (some ⟨g, 0, none⟩) p.length cp]) := (hK.out.on hbu').far _ _ (by show g ≠ kb; omega)
          have HRX : Hid (Cells (wr.setCell ⟨g, i * 3 + 2, none⟩ (.slice (some ⟨gv, 0, none⟩) lm.length cv)) (s + 1) [.slice none 0 0]) := (hR.out.on hbu').far _ _ (by show g ≠ s + 1; omega)
          have HBX : Hid (Below s w (wr.setCell ⟨g, i * 3 + 2, none⟩ (.slice (some ⟨gv, 0, none⟩) lm.length cv))) := hsu.setCell (p := ⟨g, i * 3 + 2, none⟩) (by show s ≤ g; omega) _
          clear hwp hfr hw' hsu hg hd hlm hlmf
          go_wp2
          go_roundw
          case rel => exact ⟨i + 1, _, by omega, by go_num, HLEN.out, HLS.out, HWP.out, HKX.out, HRX.out, HBX.out⟩
          case measure => simp [intOf]; omega
    · have hii : ¬ (i : Int) < (p.length : Int) := by omega
      have HPE : Hid (ls.map (·.1) = woP L p) := by
        show _ = _
        refine List.ext_getElem? fun j => ?_
        rw [List.getElem?_map, woP, List.getElem?_mapIdx]
        cases hq : ls[j]? with
        | none =>
          have h1 := List.getElem?_eq_none_iff.1 hq
          rw [List.getElem?_eq_none (by have := hln.out; have := HLN.out; omega)]
          rfl
        | some y =>
          have h1 := (List.getElem?_eq_some_iff.1 hq).1
          obtain ⟨c, hc, hy⟩ := hls.out j y hq
          rw [hc, if_pos (by have := hln.out; omega)] at *
          simp [hy]
      have HSK : Hid (SK front Bz wr (.slice (some ⟨g, 0, none⟩) p.length cp) (woP L p)) := by
        have h := hwo.out.sk cp
        rw [HPE.out, hln.out] at h
        exact h
      obtain ⟨r0, q0⟩ := hR.out.g0
      have e0 := (hR.out.s0 (.slice (some ⟨g, 0, none⟩) p.length cp)).g0.1
      have HSX : Hid (SK front s (wr.setCell ⟨s + 1, 0, none⟩ (.slice (some ⟨g, 0, none⟩) p.length cp)) (.slice (some ⟨g, 0, none⟩) p.length cp) (woP L p)) := (SK.on HSK.out (Keep.set wr (p := ⟨s + 1, 0, none⟩) hBs _)).weak (by omega)
      have HBX : Hid (Below s w (wr.setCell ⟨s + 1, 0, none⟩ (.slice (some ⟨g, 0, none⟩) p.length cp))) := hb.setCell (p := ⟨s + 1, 0, none⟩) (by show s ≤ s + 1; omega) _
      clear HSK
      go_wp2
      refine bodyPost_ret (v := .agg #[.slice (some ⟨g, 0, none⟩) p.length cp]) (by simp [results, Try.results19, go_sem, e0]) rfl ?_
      first | exact ⟨_, rfl, HSX.out, HBX.out⟩ | exact ⟨rfl, HSX.out, HBX.out⟩
end Pg
end Go.Proofs.Ytdomclicgajihaa
