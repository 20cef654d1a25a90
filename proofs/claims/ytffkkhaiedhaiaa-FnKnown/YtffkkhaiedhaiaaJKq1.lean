/- Contracts: what is known, as the specification sweeps it. -/
import Derived.Test.YtffkkhaiedhaiaaJKw0
import Derived.Test.YtffkkhaiedhaiaaJGn0
import Derived.Deep.LoopGhost
import Derived.Deep.Cut
import Derived.Deep.CutRange
import Derived.Lib.QuietBelow
import Derived.BigQuiet
namespace Go.Proofs.Ytffkkhaiedhaiaa
namespace Pg
open Go.ChangeShapes Go.WideShapes Go.ChangeAt Go.RowKit St Wd

set_option maxRecDepth 100000 in
set_option maxHeartbeats 8000000 in
theorem l10Known_at (g cap : Nat) (code : List Tx.Ins) (hok : Lay.codeOk code = true) (w : World) (hrow : Row w g 0 code) :
    Calls Try.prog 64 #[.slice (some ⟨g, 0, none⟩) code.length cap] w fun e w' => ∃ G K K2 f cp, e = .returned (.slice (some ⟨G, 0, none⟩) code.length code.length) ∧ LeastK code K ∧ (∀ i j, i < code.length → j < 8 → K2 i j = some ((K i j).getD UnK)) ∧ RowsK w.heap.size w' G code.length K2 f cp ∧ Below w.heap.size w w' := by
  obtain ⟨i0, hif, hz0, hz1, hz2⟩ := info_parts infoR
  have hl40 := (Lay.ok_len hok).2
  have hpos := (Lay.ok_len hok).1
  have HR : Hid (Row w g 0 code) := hrow
  have lg : g < w.heap.size := cell_lt (hrow 0 _ (ins_is hpos)).1
  clear hrow
  go_enter Try.func64, Try.ntmps64
  go_wp2_with (first | (at_make; refine wpList_make_full _ rfl _ _ 58 rfl w.heap.size 27 i0 (.slice none 0 0) 1 Try.underlying58 hif hz0 hz1 .i64 .i64 _ _ code.length rfl rfl rfl rfl (by rw [hz2]; omega) (by unfold maxLen; omega) (Nat.le_refl _) ?_; intro w1 hown1 hgrow1))
  have hb1 : Below w.heap.size w w1 := (Below.refl _ _).grown hgrow1 (Nat.le_refl _) (fun _ h => by simp at h)
  have hG1 : w.heap.size < w1.heap.size := row_made_lt hown1
  have CG : Hid (Cells w1 w.heap.size (List.replicate code.length (.slice none 0 0))) := by
    intro i x hx
    have hr := room_own hown1 (Nat.le_refl _)
    rw [Nat.mul_one] at hr
    have hi : i < code.length := by have := (List.getElem?_eq_some_iff.1 hx).1; simpa using this
    have hc := @World.ownsRow.cells w1 w.heap.size 27 1 _ code.length _ hown1 (g := w.heap.size) rfl i x (by
      have e : (madeCells (Value.slice none 0 0).cells (code.length * 1)).toList = List.replicate code.length (.slice none 0 0) := by rw [Nat.mul_one]; exact toList_madeCells_one _ _
      rw [e]; exact hx)
    rw [Go.WideShapes.add_plain, Nat.zero_add] at hc
    exact ⟨hc, (hr i hi).2⟩
  clear hown1 hgrow1
  refine (l9Leaders_at g cap code hok w1 (HR.out.on hb1)).mono ?_
  rintro e w2 ⟨vl, rfl, hls, hb2⟩
  obtain ⟨gl, cl, rfl, hcl, hgl, hrl⟩ := hls
  have HLD : Hid (IRow w2 gl 0 (risL (ldB code code.length) 40)) := hrl
  have hlr := risL_len (ldB code code.length) 40
  have hw2 : Below w.heap.size w w2 := below_over hb1 hb2
  have CG2 : Hid (Cells w2 w.heap.size (List.replicate code.length (.slice none 0 0))) := CG.out.on hb2
  clear hrl CG
  go_wp2_with fail
  refine (l10All_at w2).mono ?_
  rintro e w3 ⟨v, rfl, hg3, hb3⟩
  obtain ⟨gr, cr, rfl, hgr1, hgr2, hgr3, hgr4⟩ := hg3.gint
  have hglG : gl ≠ w.heap.size := fun e => by
    have h0 : (0 : Int) ∈ risL (ldB code code.length) 40 := risL_mem.2 ⟨0, by omega, ld_first _ _, rfl⟩
    obtain ⟨q, hq, eq⟩ := List.getElem_of_mem h0
    have h1 := HLD.out q 0 (by rw [List.getElem?_eq_getElem hq, eq])
    rw [e, Nat.zero_add] at h1
    by_cases hqn : q < code.length
    · have h2 := (CG2.out q _ (by rw [List.getElem?_replicate, if_pos hqn])).1
      rw [h2] at h1
      simp at h1
    · have hr := risL_rise (ldB code code.length) 40
      have h00 := HLD.out 0 (risL (ldB code code.length) 40)[0] (by rw [List.getElem?_eq_getElem (by omega)])
      have h2 := (CG2.out 0 _ (by rw [List.getElem?_replicate, if_pos hpos])).1
      rw [e, Nat.zero_add, h2] at h00
      simp at h00
  have CR : Cells w3 gr (nums (List.replicate 8 UnK)) := cells_of_gint hgr3 hgr4
  have CG3 := CG2.out.on hb3
  have hw3 : Below w.heap.size w w3 := below_over hw2 hb3
  have hGw3 : w.heap.size < w3.heap.size := Nat.lt_of_lt_of_le hG1 (Nat.le_trans hb2.size hb3.size)
  have hrows : RowsK w2.heap.size w3 w.heap.size code.length noneK (fun _ => 0) (fun _ => 0) := by
    refine ⟨?_, hGw3, fun i _ h => absurd rfl h, fun i i' _ _ h => absurd rfl h⟩
    have : cellsG noneK (fun _ => 0) (fun _ => 0) code.length = List.replicate code.length (.slice none 0 0) := by
      apply List.ext_getElem?
      intro p
      by_cases hp : p < code.length
      · rw [cellsG_at _ _ _ hp, List.getElem?_replicate, if_pos hp]; rfl
      · rw [List.getElem?_eq_none (by simp [cellsG]; omega), List.getElem?_eq_none (by simp; omega)]
    rw [this]
    exact CG3
  have hset := hrows.setRow hpos rfl gr cr hgr1 hgr2 (by have := hb2.size; omega) (fun i _ h => absurd rfl h) (fun a b => if a = 0 ∧ b < 8 then some UnK else none) (fun a b h => by simp [h, noneK]) (by simp) (by
    have : rowL (fun a b => if a = 0 ∧ b < 8 then some UnK else none) 0 = List.replicate 8 UnK := by unfold rowL; decide
    rw [this]; exact CR)
  have HI0 : Hid (KnI w2.heap.size code gl w.heap.size w (fun a b => if a = 0 ∧ b < 8 then some UnK else none) _ _ (w3.setCell ⟨w.heap.size, 0, none⟩ (.slice (some ⟨gr, 0, none⟩) 8 cr))) :=
    ⟨hset, infs_first hpos, fun i x hx => by
      have := (HLD.out.on hb3) i x hx
      rw [World.cell?_setCell_other _ _ _ _ (fun h => hglG (congrArg Addr.block h).symm)]
      exact this, ⟨hgl, hglG⟩, hw3.setCell (Nat.le_refl _) _⟩
  obtain ⟨cg0, fg0⟩ := CG3 0 _ (by rw [List.getElem?_replicate, if_pos hpos])
  have hlen8 : (List.replicate 8 UnK).length = 8 := by simp
  rw [hlen8]
  clear hset hrows CR CG3 CG2 HLD hgr3 hgr4 hg3 hlen8
  have hposi : (0 : Int) < (code.length : Int) := by omega
  have hBw : w.heap.size ≤ w2.heap.size := hw2.size
  have hGB : w.heap.size < w2.heap.size := Nat.lt_of_lt_of_le hG1 hb2.size
  go_wp2
  generalize w3.setCell ⟨w.heap.size, 0, none⟩ (.slice (some ⟨gr, 0, none⟩) 8 cr) = X at *
  clear cg0 fg0 hgr1 hgr2 hw3 hGw3 hb3 hb2 hb1 hw2 hG1
  generalize w2.heap.size = B at *
  go_loopg [] 641 (fun n wr => Hid (∃ (K : Kw) (f cp : Nat → Nat), KnI B code gl w.heap.size w K f cp wr ∧ 641 ≤ hgK code.length K + n))
  case atStart => exact ⟨_, _, _, HI0.out, by omega⟩
  case round =>
    clear HI0
    obtain ⟨Ks, f0, cp0, hI1, hme⟩ := hrel.out
    have HI1 : Hid (KnI B code gl w.heap.size w Ks f0 cp0 wr) := hI1
    have HME : Hid (641 ≤ hgK code.length Ks + gk) := hme
    clear hrel hI1 hme
    go_wp2
    go_loopw [7, 6] (fun i m wr => ∃ (k : Nat) (mb : Bool), k ≤ code.length ∧ i = .int .i64 (k : Int) ∧ m = .bool mb ∧ Hid (Sw2 B code gl w.heap.size w Ks k mb wr)) (fun i _ _ => code.length - (intOf i).toNat)
    case atStart => exact ⟨0, false, Nat.zero_le _, rfl, rfl, Ks, f0, cp0, HI1.out, fun _ _ => leO_refl _, fun _ => ⟨rfl, fun i hi => absurd hi (Nat.not_lt_zero _)⟩, fun h => by simp at h⟩
    case round =>
      obtain ⟨k, mb, hk, rfl, rfl, hS⟩ := hrel
      obtain ⟨K, f, cp, hI, hup, hmF, hmT⟩ := hS.out
      clear hS
      by_cases hlt : k < code.length
      · have hki : (k : Int) < (code.length : Int) := by omega
        obtain ⟨cK, fK⟩ := hI.rows.1 k _ (cellsG_at _ _ _ hlt)
        by_cases hun : K k 0 = none
        · have hsl : slcK K f cp k = .slice none 0 0 := by simp [slcK, hun]
          rw [hsl] at cK
          have HN : Hid (Sw2 B code gl w.heap.size w Ks (k + 1) mb wr) := ⟨K, f, cp, hI, hup, fun h => ⟨(hmF h).1, fun i hi => by
            by_cases e : i = k
            · rw [e]; exact fun hn => absurd hun hn
            · exact (hmF h).2 i (by omega)⟩, hmT⟩
          clear hI hup hmF hmT hsl
          go_wp2
          go_roundw
          case rel => exact ⟨k + 1, mb, by omega, by go_num, rfl, HN.out⟩
          case measure => simp [intOf]; omega
        · have hsl : slcK K f cp k = .slice (some ⟨f k, 0, none⟩) 8 (cp k) := by simp [slcK, hun]
          rw [hsl] at cK
          obtain ⟨qf1, qf2, qf3, qf4⟩ := hI.rows.2.2.1 k hlt hun
          have HI : Hid (KnI B code gl w.heap.size w K f cp wr) := hI
          have HUP : Hid (∀ a b, leO (Ks a b) (K a b)) := hup
          have HMF : Hid (mb = false → K = Ks ∧ ∀ i, i < k → clsK code K i) := hmF
          have HMT : Hid (mb = true → hgK code.length Ks < hgK code.length K) := hmT
          have hbw : w.heap.size ≤ wr.heap.size := hI.below.size
          have hGw : w.heap.size < wr.heap.size := hI.rows.2.1
          have hBr : B ≤ wr.heap.size := by omega
          have HS8 : Hid (∀ j v, (nums (rowL K k))[j]? = some v → (wr.alloc (.cells #[] 2)).cell? ((⟨f k, 0, none⟩ : Addr).add j) = some v) := fun j v hv => by
            have := ((qf4.alloc (.cells #[] 2)) j v hv).1
            rw [Go.WideShapes.add_plain, Nat.zero_add]
            exact this
          obtain ⟨j0, hjf, hj0, hj1, hj2⟩ := info_parts infoN
          have HEM : Hid ((wr.alloc (.cells #[] 2)).ownsRow wr.heap.size 2 1 (.slice (some ⟨wr.heap.size, 0, none⟩) 0 0) 0 []) := World.ownsRow_made wr #[] 0 (Nat.le_refl _) (by decide) (by simp)
          clear hI hup hmF hmT hsl qf4
          go_upto_region 11 with (first | (at_builtin; refine wpList_append_own _ rfl _ _ 27 rfl wr.heap.size 2 j0 (.int .i64 0) 1 8 Try.underlying27 hjf hj0 hj1 hj2 rfl (by decide) _ _ _ rfl HEM.out ⟨f k, 0, none⟩ 8 (cp k) (nums (rowL K k)) rfl (by simp [nums, rowL_len]) HS8.out (nums_one _) (by unfold maxLen; omega) (by omega) (by simp) ?_; intro v' wq hown hgrow hnil))
          have hbq : Below wr.heap.size wr wq := ((Below.refl _ _).alloc (Nat.le_refl _) _).grown hgrow (by simp) (fun q hq => (HEM.out.lt q hq).1)
          have hgq : Grow wr.heap.size wq v' (rowL K k) := by
            refine ⟨?_, fun e => by simp [e] at hnil⟩
            rw [rowL_len]
            simpa using hown
          obtain ⟨go, co, rfl, ho1, ho2, ho3, ho4⟩ := hgq.gint
          have CO : Hid (Cells wq go (nums (rowL K k))) := cells_of_gint ho3 ho4
          have HIq : Hid (KnI B code gl w.heap.size w K f cp wq) := HI.out.on hbq
          have hfo : ∀ i, i < code.length → K i 0 ≠ none → f i ≠ go := fun i hi hn => by have := (HI.out.rows.2.2.1 i hi hn).2.1; omega
          have HFO : Hid (∀ i, i < code.length → K i 0 ≠ none → f i ≠ go) := hfo
          have hoG : go ≠ w.heap.size := by omega
          have hol : go ≠ gl := by omega
          rw [rowL_len]
          clear hown hgrow hnil hgq ho3 ho4 HEM HS8 hjf hj0 hj1 hj2 hfo cK fK HI hbq
          have HRq : Hid (Row wq g 0 code) := HR.out.below HIq.out.below lg
          obtain ⟨d0, d1, d2⟩ := HRq.out k _ (ins_is hlt)
          simp only [Nat.zero_add] at d0 d1 d2
          have hwo : w.heap.size ≤ go := by omega
          go_upto_if 45 with fail
          go_cut [8] from 45 to 112 (fun v u => v = .slice (some ⟨go, 0, none⟩) 8 co ∧ Hid (Cells u go (nums (outL code K k))) ∧ Hid (KnI B code gl w.heap.size w K f cp u))
          case first =>
            by_cases h3 : (insF code k).1 = 3
            · have hA := op3_A hok hlt (.inl h3)
              obtain ⟨An, hAn⟩ : ∃ An : Nat, (insF code k).2.1 = (An : Int) := ⟨(insF code k).2.1.toNat, by omega⟩
              have hA8 : An < 8 := by omega
              have hA8i : (An : Int) < 8 := by omega
              have HSET : Hid (nums (outL code K k) = (nums (rowL K k)).set An (.int .i64 (stV code K k))) := outL_set h3 hAn hA8
              have h3b : ((insF code k).1 == 3) = true := by simp [h3]
              rw [h3] at d0
              rw [hAn] at d1
              obtain ⟨o0, z0⟩ := CO.out An (.int .i64 ((K k An).getD 0)) (by simp [nums, rowL, hA8])
              have C1 : Hid (Cells (wq.setCell ⟨go, An, none⟩ (.int .i64 1099511627776)) go ((nums (rowL K k)).set An (.int .i64 1099511627776))) := CO.out.set _ _
              have I1 : Hid (KnI B code gl w.heap.size w K f cp (wq.setCell ⟨go, An, none⟩ (.int .i64 1099511627776))) := HIq.out.setC hwo hoG hol HFO.out _ _
              by_cases hk0 : k = 0
              · subst hk0
                have HV : Hid (stV code K 0 = UnK) := by show _ = _; simp [stV]
                clear h3 hAn
                go_wp2_with fail
                go_meet
                exact ⟨rfl, by show Cells _ _ _; rw [HSET.out, HV.out]; exact C1.out, I1.out⟩
              · obtain ⟨p, hkp⟩ : ∃ p, k = p + 1 := ⟨k - 1, by omega⟩
                have HKP : Hid (k = p + 1) := hkp
                have HLK : Hid (decide ((k : Int) ∈ risL (ldB code code.length) 40) = ldB code code.length k) := ld_has (code := code) k (by omega)
                have HLG : Hid (ldB code code.length k = false → K p 0 ≠ none) := fun hl => (HIq.out.inv.lag p (by omega) (by rw [← hkp]; exact hl) (by rw [← hkp]; exact hun)).1
                have HVT : Hid (ldB code code.length k = true → stV code K k = UnK) := fun h => by simp [stV, h]
                have HVF : Hid (ldB code code.length k = false → K p 0 ≠ none → stV code K k = if (insF code p).1 = 1 then (insF code p).2.1 else if (insF code p).1 = 2 then (K p (insF code p).2.1.toNat).getD 0 else UnK) := fun h h' => by
                  unfold stV
                  have e : k - 1 = p := by omega
                  rw [e, if_pos ⟨by omega, h, h'⟩]
                have hkpos : (0 : Int) < (k : Int) := by omega
                have hws : IntKind.i64.wrap ((k : Int) - 1) = (p : Int) := by simp [IntKind.wrap, IntKind.signed, IntKind.bits]; omega
                have hpl : p < code.length := by omega
                have hpli : (p : Int) < (code.length : Int) := by omega
                clear hkp
                go_upto_region 13 with fail
                have RU : Hid (Row (wq.setCell ⟨go, An, none⟩ (.int .i64 1099511627776)) g 0 code) := HR.out.below I1.out.below lg
                obtain ⟨y0, yz0⟩ := C1.out An (.int .i64 1099511627776) (by rw [List.getElem?_set]; simp [nums, rowL_len, hA8])
                clear d0 d1 d2 o0 z0 h3 hk0
                generalize wq.setCell ⟨go, An, none⟩ (.int .i64 1099511627776) = U1 at *
                obtain ⟨d0, d1, d2⟩ := RU.out k _ (ins_is hlt)
                simp only [Nat.zero_add] at d0 d1 d2
                rw [hAn] at d1
                obtain ⟨e0, e1, e2⟩ := RU.out p _ (ins_is hpl)
                simp only [Nat.zero_add] at e0 e1 e2
                have CSET : Hid (∀ x : Int, Cells (U1.setCell ⟨go, An, none⟩ (.int .i64 x)) go ((nums (rowL K k)).set An (.int .i64 x))) := fun x => by
                  have := C1.out.set An (.int .i64 x)
                  rw [List.set_set] at this
                  exact this
                have ISET : Hid (∀ x : Int, KnI B code gl w.heap.size w K f cp (U1.setCell ⟨go, An, none⟩ (.int .i64 x))) := fun x => I1.out.setC hwo hoG hol HFO.out _ _
                have HDR : Hid (∀ W : World, KnI B code gl w.heap.size w K f cp W → KnI B code gl w.heap.size w K f cp W.drew) := fun W h => h.on ((Below.refl _ _).drew)
                have CDR : Hid (∀ (W : World) vs, Cells W go vs → Cells W.drew go vs) := fun W vs h => h
                clear hAn
                go_wp2_with fail
                refine (l1Has gl cl (risL (ldB code code.length) 40) (k : Int) (by omega) U1 I1.out.lead).mono ?_
                rw [HLK.out]
                rintro e U1 ⟨rfl, rfl⟩
                cases hL : ldB code code.length k
                · have hp0 := HLG.out hL
                  have HV0 := HVF.out hL hp0
                  obtain ⟨cP, _⟩ := I1.out.rows.1 p _ (cellsG_at _ _ _ hpl)
                  have hslp : slcK K f cp p = .slice (some ⟨f p, 0, none⟩) 8 (cp p) := by simp [slcK, hp0]
                  rw [hslp] at cP
                  obtain ⟨_, _, _, rP⟩ := I1.out.rows.2.2.1 p hpl hp0
                  by_cases o1 : (insF code p).1 = 1
                  · have HV : Hid (stV code K k = (insF code p).2.1) := by show _ = _; rw [HV0, if_pos o1]
                    rw [o1] at e0
                    clear hL hslp rP hp0 o1 HLG HLK HVT HVF HV0
                    generalize (insF code p).2.1 = xv at *
                    go_upto_region 16 with fail
                    apply meetP
                    case h => intro hp; go_region_law fail; all_goals exact hp
                    have HCW := CDR.out _ _ (CSET.out xv)
                    have HIW := HDR.out _ (ISET.out xv)
                    go_wp2_with fail
                    go_meet
                    exact ⟨rfl, by show Cells _ _ _; rw [HSET.out, HV.out]; exact HCW, HIW⟩
                  · by_cases o2 : (insF code p).1 = 2
                    · have hx := op3_A hok hpl (.inr o2)
                      obtain ⟨xn, hxn⟩ : ∃ xn : Nat, (insF code p).2.1 = (xn : Int) := ⟨(insF code p).2.1.toNat, by omega⟩
                      have hx8 : xn < 8 := by omega
                      have hx8i : (xn : Int) < 8 := by omega
                      have HV : Hid (stV code K k = (K p xn).getD 0) := by show _ = _; rw [HV0, if_neg o1, if_pos o2, hxn]; simp
                      obtain ⟨rx, _⟩ := rP xn (.int .i64 ((K p xn).getD 0)) (by simp [nums, rowL, hx8])
                      rw [o2] at e0
                      rw [hxn] at e1
                      have o1b : ((2 : Int) == 1) = false := rfl
                      clear hL hslp rP hp0 o1 o2 HLG HLK hx hxn HVT HVF HV0
                      generalize (K p xn).getD 0 = xv at *
                      go_upto_region 18 with fail
                      apply meetP
                      case h => intro hp; go_region_law fail; all_goals exact hp
                      have HCW := CDR.out _ _ (CSET.out xv)
                      have HIW := HDR.out _ (ISET.out xv)
                      go_wp2_with fail
                      go_meet
                      exact ⟨rfl, by show Cells _ _ _; rw [HSET.out, HV.out]; exact HCW, HIW⟩
                    · have HV : Hid (stV code K k = UnK) := by show _ = _; rw [HV0, if_neg o1, if_neg o2]
                      have o1b : ((insF code p).1 == 1) = false := by simp [o1]
                      have o2b : ((insF code p).1 == 2) = false := by simp [o2]
                      clear hL hslp rP hp0 HLG HLK HVT HVF HV0
                      go_wp2_with fail
                      go_meet
                      exact ⟨rfl, by show Cells _ _ _; rw [HSET.out, HV.out]; exact C1.out, I1.out⟩
                · have HV : Hid (stV code K k = UnK) := HVT.out hL
                  clear hL HLG HLK HVT HVF
                  go_wp2_with fail
                  go_meet
                  exact ⟨rfl, by show Cells _ _ _; rw [HSET.out, HV.out]; exact C1.out, I1.out⟩
            · have HE : Hid (nums (outL code K k) = nums (rowL K k)) := by show _ = _; rw [outL_same h3]
              have h3b : ((insF code k).1 == 3) = false := by simp [h3]
              go_wp2_with fail
              go_meet
              exact ⟨rfl, by show Cells _ _ _; rw [HE.out]; exact CO.out, HIq.out⟩
          case rest =>
            obtain ⟨rfl, CO1, HI1c⟩ := hcut
            have HOZ : Hid (go < wc.heap.size) := cell_lt (CO1.out 0 (.int .i64 (outK code K k 0)) (by simp [nums, outL])).1
            have hwcG : w.heap.size < wc.heap.size := HI1c.out.rows.2.1
            have hwcw : w.heap.size ≤ wc.heap.size := by omega
            clear CO HIq HRq d0 d1 d2 ho2 qf1 qf2 qf3 hGw
            go_wp2_with fail
            refine (l9NextsB g cap code (by omega) k hlt wc (HR.out.below HI1c.out.below lg)).mono ?_
            rintro e wn ⟨vn, rfl, hln, hbn⟩
            obtain ⟨gn, cn, rfl, hcn, hgnB, hgn, hrn⟩ := hln
            have hBwc : B ≤ wc.heap.size ∨ ∀ i, i < code.length → K i 0 ≠ none → B ≤ wc.heap.size := .inr fun i hi hn => by have := (HI1c.out.rows.2.2.1 i hi hn); omega
            have hBc : B ≤ wc.heap.size := by have := (HI1c.out.rows.2.2.1 k hlt hun); omega
            have S0 : Hid (Sw3 B code gl w.heap.size w Ks K k go gn (nextsF code k) 0 mb wn) := Sw3.start (HI1c.out.on hbn) HMF.out HMT.out (fun i hi hn => ⟨HFO.out i hi hn, by have := (HI1c.out.rows.2.2.1 i hi hn).2.1; omega⟩) (CO1.out.on hbn) hrn ⟨hgn, Nat.lt_of_lt_of_le HOZ.out hbn.size⟩
            have hgnG : gn ≠ w.heap.size := by omega
            have hgnl : gn ≠ gl := by omega
            have hBn : B ≤ wn.heap.size := Nat.le_trans hBc hbn.size
            have HKB : Hid (InvS code K) := HI1c.out.inv
            have HNX : Hid (∀ x ∈ nextsF code k, ∃ t : Nat, nxB code k t = true ∧ x = (t : Int)) := fun x hx => (nextsF_mem hok hlt x).1 hx
            have hn40 : (nextsF code k).length ≤ 41 := by rw [nexts_ris hok hlt]; have := risL_len (nxB code k) 40; omega
            have HEND : Hid (∀ (m1 : Bool) (u : World), Sw3 B code gl w.heap.size w Ks K k go gn (nextsF code k) (nextsF code k).length m1 u → Sw2 B code gl w.heap.size w Ks (k + 1) m1 u) := fun m1 u h => h.ends hok hlt HUP.out
            have hol8 := outL_len code K k
            have HOL : Hid ((outL code K k).length = 8) := hol8
            clear hbn hrn HI1c CO1 HOZ hBwc hBc hgnB hcn HMF HMT hwcG hwcw hol8
            generalize nextsF code k = ns at *
            go_wp2_with fail
            go_loopw [10, 6] (fun i m wr => ∃ (q : Nat) (m1 : Bool), q ≤ ns.length ∧ i = .int .i64 (q : Int) ∧ m = .bool m1 ∧ B ≤ wr.heap.size ∧ Hid (Sw3 B code gl w.heap.size w Ks K k go gn ns q m1 wr)) (fun i _ _ => ns.length - (intOf i).toNat)
            case atStart => exact ⟨0, mb, Nat.zero_le _, rfl, rfl, hBn, S0.out⟩
            case round =>
              clear S0 hBn
              obtain ⟨q, m1, hq, rfl, rfl, hBw2, hS⟩ := hrel
              by_cases hqt : q < ns.length
              · have hqi : (q : Int) < (ns.length : Int) := by omega
                obtain ⟨t, ht, hxt⟩ := HNX.out _ (List.getElem_mem hqt)
                have htl : t < code.length := nxB_ltK ht
                have hti : (t : Int) < (code.length : Int) := by omega
                obtain ⟨Kc, fc, cpc, hI, hup, hmF, hmT, hfo, hco, hrn, hlt2⟩ := hS.out
                have c0 := hrn q _ (List.getElem?_eq_getElem hqt)
                rw [Nat.zero_add, hxt] at c0
                have HQT : Hid (ns[q]? = some (t : Int)) := by show _ = _; rw [List.getElem?_eq_getElem hqt, hxt]
                obtain ⟨cT, fT⟩ := hI.rows.1 t _ (cellsG_at _ _ _ htl)
                by_cases hkt : Kc t 0 = none
                · have hsl : slcK Kc fc cpc t = .slice none 0 0 := by simp [slcK, hkt]
                  rw [hsl] at cT
                  have HS8 : Hid (∀ j v, (nums (outL code K k))[j]? = some v → (wr.alloc (.cells #[] 2)).cell? ((⟨go, 0, none⟩ : Addr).add j) = some v) := fun j v hv => by
                    have := ((hco.alloc (.cells #[] 2)) j v hv).1
                    rw [Go.WideShapes.add_plain, Nat.zero_add]
                    exact this
                  obtain ⟨j0, hjf, hj0, hj1, hj2⟩ := info_parts infoN
                  have HEM : Hid ((wr.alloc (.cells #[] 2)).ownsRow wr.heap.size 2 1 (.slice (some ⟨wr.heap.size, 0, none⟩) 0 0) 0 []) := World.ownsRow_made wr #[] 0 (Nat.le_refl _) (by decide) (by simp)
                  have HFR : Hid (∀ (wz : World) (g' c' : Nat), Below wr.heap.size wr wz → wr.heap.size ≤ g' → g' < wz.heap.size → Cells wz g' (nums (outL code K k)) → Sw3 B code gl w.heap.size w Ks K k go gn ns (q + 1) true (wz.setCell ⟨w.heap.size, t, none⟩ (.slice (some ⟨g', 0, none⟩) 8 c'))) := fun wz g' c' h1 h2 h3 h4 => Sw3.fresh hok hI hup hfo hco hrn hlt2 ⟨hgnG, hoG⟩ (Nat.le_refl _) HKB.out hlt hun HUP.out ht hkt h1 g' c' h2 h3 hBw2 h4
                  have hGr : w.heap.size < wr.heap.size := hI.rows.2.1
                  clear hI hup hmF hmT hfo hco hrn hS hsl hlt2 HQT hxt
                  go_wp2_with (first | (at_builtin; refine wpList_append_own _ rfl _ _ 27 rfl wr.heap.size 2 j0 (.int .i64 0) 1 8 Try.underlying27 hjf hj0 hj1 hj2 rfl (by decide) _ _ _ rfl HEM.out ⟨go, 0, none⟩ 8 co (nums (outL code K k)) rfl (by simp [nums, outL_len]) HS8.out (nums_one _) (by unfold maxLen; omega) (by omega) (by simp) ?_))
                  intro v' wz hown hgrow hnil
                  have hbz : Below wr.heap.size wr wz := ((Below.refl _ _).alloc (Nat.le_refl _) _).grown hgrow (by simp) (fun q hq => (HEM.out.lt q hq).1)
                  have hgz : Grow wr.heap.size wz v' (outL code K k) := by
                    refine ⟨?_, fun e => by simp [e] at hnil⟩
                    rw [outL_len]
                    simpa using hown
                  obtain ⟨g', c', hv', hz1', hz2', hz3', hz4'⟩ := hgz.gint
                  rw [outL_len] at hv'
                  subst hv'
                  have HN : Hid (Sw3 B code gl w.heap.size w Ks K k go gn ns (q + 1) true (wz.setCell ⟨w.heap.size, t, none⟩ (.slice (some ⟨g', 0, none⟩) 8 c'))) := HFR.out wz g' c' hbz hz1' hz2' (cells_of_gint hz3' hz4')
                  have hBz : B ≤ (wz.setCell ⟨w.heap.size, t, none⟩ (.slice (some ⟨g', 0, none⟩) 8 c')).heap.size := by have := hbz.size; simp; omega
                  have cT' := (hbz.cell (p := ⟨w.heap.size, t, none⟩) hGr).trans cT
                  have fT' := (hbz.frozen (p := ⟨w.heap.size, t, none⟩) hGr).trans fT
                  clear hown hgrow hnil hgz hz3' hz4' HEM HS8 hjf hj0 hj1 hj2 HFR hbz cT fT hz1' hz2' c0
                  go_wp2
                  go_roundw
                  case rel => exact ⟨q + 1, true, by omega, by go_num, rfl, hBz, HN.out⟩
                  case measure => simp [intOf]; omega
                · have hsl : slcK Kc fc cpc t = .slice (some ⟨fc t, 0, none⟩) 8 (cpc t) := by simp [slcK, hkt]
                  rw [hsl] at cT
                  have S4 : Hid (Sw4 B code gl w.heap.size w Ks Kc fc cpc t (outK code K k) (outL code K k) go gn ns 0 m1 m1 wr) := Sw4.start hI hmT hco hrn hlt2
                  have HV : Hid (∀ j, j < 8 → Kc t j = some ((Kc t j).getD 0)) := fun j hj => hI.inv.at hkt hj
                  have hft := hfo t htl hkt
                  have hftl : fc t ≠ gl := by have := (hI.rows.2.2.1 t htl hkt).1; omega
                  have HSK : Hid (∀ a b, leO (Ks a b) (Kc a b)) := fun a b => leO_trans (HUP.out a b) (hup a b)
                  have HE4 : Hid (∀ (m2 : Bool) (u : World), Sw4 B code gl w.heap.size w Ks Kc fc cpc t (outK code K k) (outL code K k) go gn ns 8 m1 m2 u → Sw3 B code gl w.heap.size w Ks K k go gn ns (q + 1) m2 u) := fun m2 u h => h.ends hok hI.inv hI.gl hup hfo hmF HKB.out hlt hun ht hkt HQT.out
                  have HN0 : Hid (∀ m, mrgK Kc t (outK code K k) m t 0 ≠ none) := fun m e => hkt (leO_noneR (by have := mrg_up Kc t (outK code K k) m t 0; rw [e] at this; exact this))
                  clear hI hup hmF hmT hfo hco hrn hS hsl hlt2 HQT hxt
                  go_wp2_with fail
                  go_loopw [12, 6] (fun i m wr => ∃ (j : Nat) (m2 : Bool), j ≤ 8 ∧ i = .int .i64 (j : Int) ∧ m = .bool m2 ∧ B ≤ wr.heap.size ∧ Hid (Sw4 B code gl w.heap.size w Ks Kc fc cpc t (outK code K k) (outL code K k) go gn ns j m1 m2 wr)) (fun i _ _ => 8 - (intOf i).toNat)
                  case atStart => exact ⟨0, m1, Nat.zero_le _, rfl, rfl, hBw2, S4.out⟩
                  case round =>
                    clear S4 cT fT c0 hBw2
                    obtain ⟨j, m2, hj, rfl, rfl, hBw3, hS4⟩ := hrel
                    by_cases hj8 : j < 8
                    · have hji : (j : Int) < 8 := by omega
                      obtain ⟨q1, q2, q3, q4, q5, q6, q7, q8⟩ := hS4.out
                      obtain ⟨cT, fT⟩ := q1.1 t _ (cellsG_at _ _ _ htl)
                      have hsl : slcK (mrgK Kc t (outK code K k) j) fc cpc t = .slice (some ⟨fc t, 0, none⟩) 8 (cpc t) := by simp [slcK, HN0.out j]
                      rw [hsl] at cT
                      have hvj := HV.out j hj8
                      obtain ⟨_, _, _, r4⟩ := q1.2.2.1 t htl (HN0.out j)
                      obtain ⟨cV, fV⟩ := r4 j (.int .i64 ((Kc t j).getD 0)) (by
                        have := rowL_at (mrgK Kc t (outK code K k) j) t hj8
                        rw [mrg_at] at this
                        simp [nums, this])
                      have cO := (q6 j (.int .i64 (outK code K k j)) (by simp [nums, outL_at code K k hj8])).1
                      have HVJ : Hid (Kc t j = some ((Kc t j).getD 0)) := hvj
                      have HST : Hid ((Kc t j).getD 0 = UnK ∨ (Kc t j).getD 0 = outK code K k j → ∀ W : World, Below wr.heap.size wr W → Sw4 B code gl w.heap.size w Ks Kc fc cpc t (outK code K k) (outL code K k) go gn ns (j + 1) m1 m2 W) := fun h W hb => (hS4.out.stay hvj h).on hb
                      have HTU : Hid ((Kc t j).getD 0 ≠ UnK → (Kc t j).getD 0 ≠ outK code K k j → ∀ W : World, Below wr.heap.size wr W → Sw4 B code gl w.heap.size w Ks Kc fc cpc t (outK code K k) (outL code K k) go gn ns (j + 1) m1 true (W.setCell ⟨fc t, j, none⟩ (.int .i64 UnK))) := fun h1 h2 W hb => (hS4.out.on hb).turn hkt htl hj8 hvj h1 h2 HSK.out ⟨hft.1, hft.2, hftl⟩ hBw
                      have hGw5 : w.heap.size < wr.heap.size := q1.2.1
                      have hfw5 : fc t < wr.heap.size := cell_lt cV
                      clear q1 q2 q3 q4 q5 q6 q7 q8 hS4 hsl hvj r4
                      generalize (Kc t j).getD 0 = vv at *
                      generalize outK code K k j = oo at *
                      have r0 := cell_regrown cT
                      have r1 := cell_regrown cV
                      have r2 := cell_regrown cO
                      by_cases h1 : vv = 1099511627776
                      · have hb1 : (vv != 1099511627776) = false := by simp [h1]
                        have HT2 := HST.out (.inl h1)
                        have HT2' : Hid (∀ W : World, Below wr.heap.size wr W → Sw4 B code gl w.heap.size w Ks Kc fc cpc t (outK code K k) (outL code K k) go gn ns (j + 1) m1 m2 W) := HT2
                        clear HT2 HST HTU h1 HVJ
                        go_upto_region 30 with fail
                        refine wp_region_quiet_below (by kernel_rfl) (by kernel_rfl) ?_
                        repeat (go_big_quiet_step (fail))
                        refine wpQuiet_nil ?_
                        intro _ hw'
                        obtain ⟨⟨dq, osq⟩, hw''⟩ := hw'
                        subst hw''
                        have hbq := below_regrown wr dq osq
                        have HN := HT2'.out _ hbq
                        have HN' : Hid (Sw4 B code gl w.heap.size w Ks Kc fc cpc t (outK code K k) (outL code K k) go gn ns (j + 1) m1 m2 (Sort.grow (redrawn wr dq) osq)) := HN
                        have hBq : B ≤ (Sort.grow (redrawn wr dq) osq).heap.size := Nat.le_trans hBw3 hbq.size
                        clear HN r0 r1 r2 cT fT cV fV cO hbq
                        generalize Sort.grow (redrawn wr dq) osq = W5 at *
                        go_wp2
                        go_roundw
                        case rel => exact ⟨j + 1, m2, by omega, by go_num, rfl, hBq, HN'.out⟩
                        case measure => simp [intOf]; omega
                      · have hb1 : (vv != 1099511627776) = true := by simp [h1]
                        by_cases h2 : vv = oo
                        · have hb2 : (vv != oo) = false := by simp [h2]
                          have HT2 := HST.out (.inr h2)
                          have HT2' : Hid (∀ W : World, Below wr.heap.size wr W → Sw4 B code gl w.heap.size w Ks Kc fc cpc t (outK code K k) (outL code K k) go gn ns (j + 1) m1 m2 W) := HT2
                          clear HT2 HST HTU h1 h2 HVJ
                          go_upto_region 30 with fail
                          refine wp_region_quiet_below (by kernel_rfl) (by kernel_rfl) ?_
                          repeat (go_big_quiet_step (fail))
                          refine wpQuiet_nil ?_
                          intro _ hw'
                          obtain ⟨⟨dq, osq⟩, hw''⟩ := hw'
                          subst hw''
                          have hbq := below_regrown wr dq osq
                          have HN := HT2'.out _ hbq
                          have HN' : Hid (Sw4 B code gl w.heap.size w Ks Kc fc cpc t (outK code K k) (outL code K k) go gn ns (j + 1) m1 m2 (Sort.grow (redrawn wr dq) osq)) := HN
                          have hBq : B ≤ (Sort.grow (redrawn wr dq) osq).heap.size := Nat.le_trans hBw3 hbq.size
                          clear HN r0 r1 r2 cT fT cV fV cO hbq
                          generalize Sort.grow (redrawn wr dq) osq = W5 at *
                          go_wp2
                          go_roundw
                          case rel => exact ⟨j + 1, m2, by omega, by go_num, rfl, hBq, HN'.out⟩
                          case measure => simp [intOf]; omega
                        · have hb2 : (vv != oo) = true := by simp [h2]
                          have HT2 := HTU.out h1 h2
                          have HT2' : Hid (∀ W : World, Below wr.heap.size wr W → Sw4 B code gl w.heap.size w Ks Kc fc cpc t (outK code K k) (outL code K k) go gn ns (j + 1) m1 true (W.setCell ⟨fc t, j, none⟩ (.int .i64 1099511627776))) := HT2
                          clear HT2 HST HTU h1 h2 HVJ
                          go_upto_region 30 with fail
                          refine wp_region_quiet_below (by kernel_rfl) (by kernel_rfl) ?_
                          repeat (go_big_quiet_step (fail))
                          refine wpQuiet_nil ?_
                          intro _ hw'
                          obtain ⟨⟨dq, osq⟩, hw''⟩ := hw'
                          subst hw''
                          have hbq := below_regrown wr dq osq
                          have HN := HT2'.out _ hbq
                          have HN' : Hid (Sw4 B code gl w.heap.size w Ks Kc fc cpc t (outK code K k) (outL code K k) go gn ns (j + 1) m1 true ((Sort.grow (redrawn wr dq) osq).setCell ⟨fc t, j, none⟩ (.int .i64 1099511627776))) := HN
                          have hBq : B ≤ ((Sort.grow (redrawn wr dq) osq).setCell ⟨fc t, j, none⟩ (.int .i64 1099511627776)).heap.size := by have := hbq.size; simp only [World.size_setCell]; omega
                          have y0 := (hbq.cell (p := ⟨w.heap.size, t, none⟩) hGw5).trans cT
                          have y1 := (hbq.cell (p := ⟨fc t, j, none⟩) hfw5).trans cV
                          have y2 := (hbq.frozen (p := ⟨fc t, j, none⟩) hfw5).trans fV
                          clear HN r0 r1 r2 cT fT cV fV cO hbq
                          generalize Sort.grow (redrawn wr dq) osq = W5 at *
                          go_wp2
                          go_roundw
                          case rel => exact ⟨j + 1, true, by omega, by go_num, rfl, hBq, HN'.out⟩
                          case measure => simp [intOf]; omega
                    · obtain rfl : j = 8 := by omega
                      have HN : Hid (Sw3 B code gl w.heap.size w Ks K k go gn ns (q + 1) m2 wr) := HE4.out m2 wr hS4.out
                      clear hS4 HE4
                      go_wp2
                      go_roundw
                      case rel => exact ⟨q + 1, m2, by omega, by go_num, rfl, hBw3, HN.out⟩
                      case measure => simp [intOf]; omega
              · obtain rfl : q = ns.length := by omega
                have HN : Hid (Sw2 B code gl w.heap.size w Ks (k + 1) m1 wr) := HEND.out m1 wr hS.out
                have hqi : ¬ (ns.length : Int) < (ns.length : Int) := by omega
                clear hS HEND HNX
                go_wp2
                go_roundw
                case rel => exact ⟨k + 1, m1, by omega, by go_num, rfl, HN.out⟩
                case measure => simp [intOf]; omega
      · obtain rfl : k = code.length := by omega
        cases mb
        · obtain ⟨rfl, hcl⟩ := hmF rfl
          have HLE : Hid (LeastK code K) := hI.inv.ends hok hcl
          have HI : Hid (KnI B code gl w.heap.size w K f cp wr) := hI
          clear hI hcl hup hmF hmT HI1 HME
          go_wp2
          go_loopw [13] (fun i wr => ∃ (n : Nat) (f2 cp2 : Nat → Nat), n ≤ code.length ∧ i = .int .i64 (n : Int) ∧ Hid (RowsK B wr w.heap.size code.length (fillK K n) f2 cp2) ∧ B ≤ wr.heap.size ∧ Below w.heap.size w wr) (fun i _ => code.length - (intOf i).toNat)
          case atStart => exact ⟨0, f, cp, Nat.zero_le _, rfl, by show RowsK _ _ _ _ _ _ _; rw [fill_zero]; exact HI.out.rows, by have := (HI.out.rows.2.2.1 0 hpos (by rw [HI.out.inv.first 0 (by omega)]; simp)); omega, HI.out.below⟩
          case round =>
            obtain ⟨n, f2, cp2, hn, rfl, hRw, hBn, hbn⟩ := hrel
            by_cases hnl : n < code.length
            · have hni : (n : Int) < (code.length : Int) := by omega
              obtain ⟨cT, fT⟩ := hRw.out.1 n _ (cellsG_at _ _ _ hnl)
              have hGn : w.heap.size < wr.heap.size := hRw.out.2.1
              by_cases hkn : K n 0 = none
              · have hsl : slcK (fillK K n) f2 cp2 n = .slice none 0 0 := by simp [slcK, fill_at, hkn]
                rw [hsl] at cT
                have HFI : Hid (∀ (wz : World) (g' c' : Nat), Below wr.heap.size wr wz → wr.heap.size ≤ g' → g' < wz.heap.size → Cells wz g' (nums (List.replicate 8 UnK)) → RowsK B (wz.setCell ⟨w.heap.size, n, none⟩ (.slice (some ⟨g', 0, none⟩) 8 c')) w.heap.size code.length (fillK K (n + 1)) (fun a => if a = n then g' else f2 a) (fun a => if a = n then c' else cp2 a)) := fun wz g' c' h1 h2 h3 h4 => hRw.out.fill hnl hkn h1 hBn g' c' h2 h3 h4
                clear hRw hsl
                go_wp2_with fail
                refine (l10All_at wr).mono ?_
                rintro e wz ⟨v, rfl, hgz, hbz⟩
                obtain ⟨g', c', hv', hz1', hz2', hz3', hz4'⟩ := hgz.gint
                rw [List.length_replicate] at hv'
                subst hv'
                have HN : Hid (RowsK B (wz.setCell ⟨w.heap.size, n, none⟩ (.slice (some ⟨g', 0, none⟩) 8 c')) w.heap.size code.length (fillK K (n + 1)) (fun a => if a = n then g' else f2 a) (fun a => if a = n then c' else cp2 a)) := HFI.out wz g' c' hbz hz1' hz2' (cells_of_gint hz3' hz4')
                have hBz : B ≤ (wz.setCell ⟨w.heap.size, n, none⟩ (.slice (some ⟨g', 0, none⟩) 8 c')).heap.size := by have := hbz.size; simp only [World.size_setCell]; omega
                have hbZ : Below w.heap.size w (wz.setCell ⟨w.heap.size, n, none⟩ (.slice (some ⟨g', 0, none⟩) 8 c')) := (below_over hbn hbz).setCell (Nat.le_refl _) _
                have cT' := (hbz.cell (p := ⟨w.heap.size, n, none⟩) hGn).trans cT
                have fT' := (hbz.frozen (p := ⟨w.heap.size, n, none⟩) hGn).trans fT
                clear hgz hbz hz1' hz2' hz3' hz4' HFI cT fT hbn
                go_wp2
                go_roundw
                case rel => exact ⟨n + 1, _, _, by omega, by go_num, HN.out, hBz, hbZ⟩
                case measure => simp [intOf]; omega
              · have hsl : slcK (fillK K n) f2 cp2 n = .slice (some ⟨f2 n, 0, none⟩) 8 (cp2 n) := by simp [slcK, fill_at, hkn]
                rw [hsl] at cT
                have HN : Hid (RowsK B wr w.heap.size code.length (fillK K (n + 1)) f2 cp2) := by show RowsK _ _ _ _ _ _ _; rw [fill_stay hkn]; exact hRw.out
                clear hRw hsl
                go_wp2
                go_roundw
                case rel => exact ⟨n + 1, f2, cp2, by omega, by go_num, HN.out, hBn, hbn⟩
                case measure => simp [intOf]; omega
            · obtain rfl : n = code.length := by omega
              have HFA : Hid (∀ i j, i < code.length → j < 8 → fillK K code.length i j = some ((K i j).getD UnK)) := fun i j hi hj => fill_all HI.out.inv hi hj
              have HRB : Hid (RowsK w.heap.size wr w.heap.size code.length (fillK K code.length) f2 cp2) := hRw.out.base hBw
              clear hRw HI
              go_wp2
              go_ret
              exact ⟨w.heap.size, K, fillK K code.length, f2, cp2, rfl, HLE.out, HFA.out, HRB.out, hbn⟩
        · have HI : Hid (∃ (K : Kw) (f cp : Nat → Nat), KnI B code gl w.heap.size w K f cp wr ∧ 641 ≤ hgK code.length K + (gk - 1)) := ⟨K, f, cp, hI, by have := hmT rfl; have := HME.out; omega⟩
          have hgk : gk - 1 < gk := by have := HME.out; have := hgK_bd code.length Ks; omega
          clear hI hup hmF hmT HI1 HME
          go_wp2
          go_roundg (gk - 1)
          case rel => exact HI.out
          case measure => exact hgk
end Pg
end Go.Proofs.Ytffkkhaiedhaiaa
