/- Contracts: the program's Folded. -/
import Derived.Test.YthabenjodhjgiaaFo2
import Derived.Deep.Cut
namespace Go.Proofs.Ythabenjodhjgiaa
namespace Pg
open Go.ChangeShapes Go.WideShapes Go.ChangeAt Go.RowKit St Wd

/-- copy of three steps into the middle of a row. -/
theorem run_copy3 (w : World) (ty : TypeId) (g off dLen dCap sb sc : Nat) (hd : 3 ≤ dLen) (cs : List Value) (h9 : cs.length = 9) (hsrc : w.rangeAt sb 0 cs) (ht : w.there g off 9) (h1 : ∀ v ∈ cs, v.oneCell' = true) :
    (Builtin.copy_ #[26, 26] ty #[.slice (some ⟨g, off, none⟩) dLen dCap, .slice (some ⟨sb, 0, none⟩) 3 sc]).run Try.prog w = .ok (goInt 3) (w.setCells g off cs) := by
  obtain ⟨i0, hi, _, hz1, _⟩ := info_parts infoI
  have hl : (loadCells ⟨sb, 0, none⟩ 9).run Try.prog w = .ok cs.toArray w := by
    rw [← h9]
    exact run_loadCells_list (P := Try.prog) w ⟨sb, 0, none⟩ cs (fun j v hv => by rw [Addr.add_mid]; exact hsrc j v hv)
  have hst := run_storeCells_cells (P := Try.prog) g off cs 0 w (fun j hj => by simpa using (ht j (by omega)).1) (fun j hj => by simpa using (ht j (by omega)).2) h1
  have hm : Nat.min 3 dLen = 3 := Nat.min_eq_left hd
  simp only [Nat.add_zero] at hst
  simp [Builtin.copy_, run_underlying Try.underlying26, Builtin.lenOf, Builtin.firstCells, sizeOf, typeInfo, hi, hz1, hm, hl, hst]
theorem stepCopy3 {ops : Array Oper} {o : Oper} {a : Act} {w : World} {K : Act → World → Prop} {Q : Exit → Act → World → Prop} {E : Prop} (hgd : o.guard = none) (d s : Operand)
    (ho : o.op = .call { callee := .builtin .copy, args := #[d, s], argTypes := #[26, 26] })
    (g off dLen dCap sb sc : Nat) (hd : a.eval d = .slice (some ⟨g, off, none⟩) dLen dCap) (hs : a.eval s = .slice (some ⟨sb, 0, none⟩) 3 sc) (h3 : 3 ≤ dLen)
    (cs : List Value) (h9 : cs.length = 9) (hsrc : w.rangeAt sb 0 cs) (ht : w.there g off 9) (h1 : ∀ v ∈ cs, v.oneCell' = true)
    (h : K (a.put o.dst (goInt 3)) (w.setCells g off cs)) : if Region.wanted o (yielded ops a.tmps) = true then Oper.wp Try.prog o a w K Q else E := by
  have hw : Region.wanted o (yielded ops a.tmps) = true := by simp [Region.wanted, hgd]
  rw [if_pos hw]
  have hrun := run_copy3 w o.type g off dLen dCap sb sc h3 cs h9 hsrc ht h1
  unfold Oper.wp
  simp [execOp, ho, resolve, invoke, builtin, hd, hs, hrun, Result.andThen]
  exact h
theorem GrowC.form2 {B : Nat} {w : World} {v : Value} {l : List Tx.Ins} (h : GrowC B w v l) : ∃ g cap, v = .slice (some ⟨g, 0, none⟩) l.length cap ∧ l.length ≤ cap := by
  obtain ⟨h1, h2⟩ := h
  obtain ⟨_, ⟨h, _⟩ | ⟨g, cap, cur, rfl, hB, _, hcap, _⟩⟩ := h1
  · exact absurd h h2
  · exact ⟨g, cap, rfl, hcap⟩
set_option maxRecDepth 100000 in
set_option maxHeartbeats 800000 in
theorem cloneC (g cap : Nat) (l : List Tx.Ins) (hl : l.length ≤ 1000) (w : World) (hr : Row w g 0 l) :
    Calls Try.prog 40 #[.slice (some ⟨g, 0, none⟩) l.length cap] w fun e w' => ∃ v, e = .returned v ∧ GrowC w.heap.size w' v l ∧ Below w.heap.size w w' := by
  have HR : Hid (Row (w.alloc (.cells #[] 43)) g 0 l) := hr.on ((Below.refl _ _).alloc (Nat.le_refl _) _)
  clear hr
  have hq : ∀ W : World, (binOp .eql 26 (.slice (some ⟨g, 0, none⟩) l.length cap) (.slice none 0 0)).run Try.prog W = .ok (.bool false) W := fun W => Lib.run_eql_slice_nil W _ _ _ _ _ _ _ Try.underlying26
  go_enter Try.func40, Try.ntmps40
  go_wp2_with (at_builtin; refine wpList_growC rfl _ _ rfl w.heap.size _ [] rfl (growC_nil w) (by simp) g 0 cap l rfl HR.out (by simpa using hl) ?_)
  intro v' w1 hown hgrow hb
  have HG : Hid (GrowC w.heap.size w1 v' l) := by show GrowC _ _ _ _; simpa using hown
  have hb1 : Below w.heap.size w w1 := ((Below.refl _ _).alloc (Nat.le_refl _) _).trans hb
  clear hown hgrow hb
  go_wp2
  go_ret
  exact ⟨_, rfl, HG.out, hb1⟩
theorem room_setC {w : World} {g n : Nat} (h : Room w g n) (a : Addr) (v : Value) : Room (w.setCell a v) g n := fun i hi => by
  obtain ⟨⟨x, hx⟩, hf⟩ := h i hi
  refine ⟨?_, by rw [World.frozen?_setCell]; exact hf⟩
  by_cases e : (⟨g, i, none⟩ : Addr) = a
  · subst e; exact ⟨v, World.cell?_setCell_same _ _ _ hx⟩
  · exact ⟨x, (World.cell?_setCell_other _ _ _ _ (fun h => e h.symm)).trans hx⟩
/-- Three steps of a row written anew, one behind the other. -/
theorem got_copy3 {w : World} {B g cp k : Nat} {l : List Tx.Ins} (hroom : Room w g (l.length * 3)) (hr : Row w g 0 l) (hB : B ≤ g) (hg : g < w.heap.size) (x y z : Tx.Ins) :
    Got B (w.setCells g (k * 3) [.int .i64 x.1, .int .i64 x.2.1, .int .i64 x.2.2, .int .i64 y.1, .int .i64 y.2.1, .int .i64 y.2.2, .int .i64 z.1, .int .i64 z.2.1, .int .i64 z.2.2]) (.slice (some ⟨g, 0, none⟩) l.length cp) (((l.set k x).set (k + 1) y).set (k + 2) z) := by
  have h1 := row_set3 (k := k) hroom hr x
  have r1 := room_setC (room_setC (room_setC hroom ⟨g, k * 3, none⟩ (.int .i64 x.1)) ⟨g, k * 3 + 1, none⟩ (.int .i64 x.2.1)) ⟨g, k * 3 + 2, none⟩ (.int .i64 x.2.2)
  have h2 := row_set3 (k := k + 1) (by rw [List.length_set]; exact r1) h1 y
  have r2 := room_setC (room_setC (room_setC r1 ⟨g, (k + 1) * 3, none⟩ (.int .i64 y.1)) ⟨g, (k + 1) * 3 + 1, none⟩ (.int .i64 y.2.1)) ⟨g, (k + 1) * 3 + 2, none⟩ (.int .i64 y.2.2)
  have h3 := row_set3 (k := k + 2) (by rw [List.length_set, List.length_set]; exact r2) h2 z
  have r3 := room_setC (room_setC (room_setC r2 ⟨g, (k + 2) * 3, none⟩ (.int .i64 z.1)) ⟨g, (k + 2) * 3 + 1, none⟩ (.int .i64 z.2.1)) ⟨g, (k + 2) * 3 + 2, none⟩ (.int .i64 z.2.2)
  have e1 : (k + 1) * 3 = k * 3 + 1 + 1 + 1 := by omega
  have e2 : (k + 2) * 3 = k * 3 + 1 + 1 + 1 + 1 + 1 + 1 := by omega
  rw [e1, e2] at h3 r3
  refine ⟨g, cp, by simp, hB, ?_, h3, ?_⟩
  · rw [size_setCells]; exact hg
  · rw [List.length_set, List.length_set, List.length_set]; exact r3
noncomputable def folA (l : List Tx.Ins) : List Tx.Ins := if Lay.codeOk l then (foldsF l).1 else []
set_option maxRecDepth 100000 in
set_option maxHeartbeats 4000000 in
theorem implFolded (g cap : Nat) (l : List Tx.Ins) (hl : l.length ≤ 1048576) (w : World) (hr : Row w g 0 l) :
    Calls Try.prog 42 #[.slice (some ⟨g, 0, none⟩) l.length cap] w fun e w' => ∃ x, e = .returned x ∧ Got w.heap.size w' x (folA l) ∧ Below w.heap.size w w' := by
  have HR : Hid (Row w g 0 l) := hr
  clear hr
  go_enter Try.func42, Try.ntmps42
  go_wp2_with fail
  refine (implCodeOk g cap l hl w HR.out).mono ?_
  rintro e w1 ⟨rfl, hb1⟩
  cases hok : Lay.codeOk l
  · have HE : Hid (folA l = []) := by show _ = _; simp [folA, hok]
    clear hok
    go_wp2
    go_ret
    exact ⟨_, rfl, by rw [HE.out]; exact got_nil w1 _ hb1.size _, hb1.alloc hb1.size _⟩
  · have HE : Hid (folA l = (foldsF l).1) := by show _ = _; simp [folA, hok]
    have hl40 := (Lay.ok_len hok).2
    have hl40i : (l.length : Int) ≤ 40 := by omega
    have HOK : Hid (Lay.codeOk l = true) := hok
    clear hok
    go_wp2_with fail
    refine (leadersIn_at g cap l HOK.out w1 (HR.out.on hb1)).mono ?_
    rintro e w2 ⟨rfl, hb2⟩
    have hw2 : Below w.heap.size w w2 := below_over hb1 hb2
    clear hb1 hb2
    generalize hP : ldB l l.length = P at *
    have HP : Hid (ldB l l.length = P) := hP
    clear hP
    have C1L : Hid (Cells (w2.alloc (.cells (chi 40 fun _ => false).toArray 57)) w2.heap.size (chi 40 fun _ => false)) := Cells.new w2 _ rfl _ _
    have D1 : Hid (Cells ((w2.alloc (.cells (chi 40 fun _ => false).toArray 57)).setCells w2.heap.size 0 (chi 40 P)) w2.heap.size (chi 40 P)) := C1L.out.put (by rw [chi_len, chi_len])
    have hbD : Below w.heap.size w ((w2.alloc (.cells (chi 40 fun _ => false).toArray 57)).setCells w2.heap.size 0 (chi 40 P)) := below_setCells hw2.size _ _ (hw2.alloc hw2.size _)
    have hB : w.heap.size ≤ w2.heap.size := hw2.size
    go_wp2_with (first
      | (with_reducible refine wpList_alloc_chi rfl 57 rfl 40 zeroS ?_)
      | (with_reducible refine wpList_store_mid rfl 57 (.tmp 3) (.tmp 14) rfl w2.heap.size 0 (chi 40 P).toArray (by simp [Act.eval, Act.put]) (by simp [Act.eval, Act.put]) (C1L.out.there (by simp [chi_len])) (by rw [infoS]; simp [chi_len]) (all_oneCell_toArray (chi_one _ _)) ?_))
    clear C1L
    generalize (w2.alloc (.cells (chi 40 fun _ => false).toArray 57)).setCells w2.heap.size 0 (chi 40 P) = X at *
    refine (cloneC g cap l (by omega) X (HR.out.on hbD)).mono ?_
    rintro e w3 ⟨v, rfl, hv, hb3⟩
    have hw3 : Below w.heap.size w w3 := below_over hbD hb3
    obtain ⟨gv, cv, rfl, hcv⟩ := hv.form2
    have hgv : X.heap.size ≤ gv := by obtain ⟨g', c', he, h1, _⟩ := hv.got; simp at he; omega
    have HV : Hid (GrowC w.heap.size w3 (.slice (some ⟨gv, 0, none⟩) l.length cv) l) := hv.base hbD.size
    have D3 : Hid (Cells w3 w2.heap.size (chi 40 P)) := D1.out.on hb3
    have hbgv : w2.heap.size < gv := Nat.lt_of_lt_of_le (D1.out.lt' (by decide)) hgv
    clear hv hb3 hbD D1 hgv
    generalize w2.heap.size = b1 at *
    clear hw2
    go_wp2
    go_loopw [19] (fun i wr => ∃ k : Nat, k ≤ l.length ∧ i = .int .i64 k ∧ Hid (Cells wr b1 (chi 40 P)) ∧ Hid (GrowC w.heap.size wr (.slice (some ⟨gv, 0, none⟩) l.length cv) l) ∧ Hid (∀ i, i < k → foldB l i = false) ∧ Below w.heap.size w wr) (fun i _ => l.length - (intOf i).toNat)
    case atStart => exact ⟨0, Nat.zero_le _, rfl, D3.out, HV.out, fun i hi => absurd hi (Nat.not_lt_zero _), hw3⟩
    case round =>
      clear D3 HV hw3
      obtain ⟨k, hk, rfl, hc, hv, hno, hb⟩ := hrel
      by_cases hlt : k < l.length
      · have hki : (k : Int) < (l.length : Int) := by omega
        have HCL : Hid ((chi 40 P).length = 40) := chi_len _ _
        generalize hcs : chi 40 P = cs at *
        go_wp2_with (with_reducible refine wpList_load_mid rfl 57 (.tmp 3) rfl b1 0 (by simp [Act.eval]) cs _ hc.out.range Try.underlying57 rfl (by rw [infoS, HCL.out]) ?_)
        have hcall := outcomeAt_at g cap l HOK.out k hlt wr (HR.out.on hb)
        rw [HP.out, hcs] at hcall
        have HCS : Hid (chi 40 P = cs) := hcs
        clear hcs
        refine hcall.mono ?_
        clear hcall
        rintro e w4 ⟨rfl, hb4⟩
        have hw4 : Below w.heap.size w w4 := below_over hb hb4
        have HC4 : Hid (Cells w4 b1 cs) := hc.out.on hb4
        have HV4 : Hid (GrowC w.heap.size w4 (.slice (some ⟨gv, 0, none⟩) l.length cv) l) := hv.out.on hb4
        clear hb hb4 hc hv
        cases hf : foldB l k
        · have HNO : Hid (∀ i, i < k + 1 → foldB l i = false) := fun i hi => by
            by_cases e : i = k
            · rw [e]; exact hf
            · exact hno.out i (by omega)
          clear hf hno
          go_wp2
          go_roundw
          case rel => exact ⟨k + 1, by omega, by go_num, HC4.out, HV4.out, HNO.out, hw4⟩
          case measure => simp [intOf]; omega
        · have HF : Hid ((foldsF l).1 = foldAt l k ∧ folW l k = outI l k) := ⟨by rw [folds_some hno.out hf], by simp [folW, hf]⟩
          have h3 : k + 3 < l.length := by
            unfold foldB at hf
            simp only [Bool.and_eq_true, decide_eq_true_eq] at hf
            omega
          clear hno hf
          obtain ⟨g', c', he, hg1, hg2, hgr, hgm⟩ := HV4.out.got
          obtain ⟨rfl, rfl⟩ : gv = g' ∧ cv = c' := by simpa using he
          clear he
          have HGR : Hid (Row w4 gv 0 l) := hgr
          have HGM : Hid (Room w4 gv (l.length * 3)) := hgm
          clear hgr hgm HV4 HC4
          obtain ⟨c9, hc9⟩ : ∃ c9 : List Value, c9 = [.int .i64 1, .int .i64 (folW l k), .int .i64 0, .int .i64 11, .int .i64 ((k : Int) + 3), .int .i64 0, .int .i64 11, .int .i64 ((k : Int) + 3), .int .i64 0] := ⟨_, rfl⟩
          have HL9 : Hid (c9.length = 9) := by rw [hc9]; rfl
          have HO9 : Hid (∀ v ∈ c9, v.oneCell' = true) := by show ∀ v ∈ c9, _; rw [hc9]; intro v hv; simp at hv; rcases hv with rfl | rfl | rfl | rfl | rfl | rfl | rfl | rfl | rfl <;> rfl
          obtain ⟨W9, hW9⟩ : ∃ W9, W9 = (w4.alloc (.cells #[.int .i64 11, .int .i64 ((k : Int) + 3), .int .i64 0] 43)).alloc (.cells #[.int .i64 1, .int .i64 (folW l k), .int .i64 0, .int .i64 11, .int .i64 ((k : Int) + 3), .int .i64 0, .int .i64 11, .int .i64 ((k : Int) + 3), .int .i64 0] 43) := ⟨_, rfl⟩
          have hb9 : Below w4.heap.size w4 W9 := by rw [hW9]; exact ((Below.refl _ _).alloc (Nat.le_refl _) _).alloc (by simp) _
          have HS : Hid (W9.rangeAt (w4.heap.size + 1) 0 c9) := by
            have := Cells.new (w4.alloc (.cells #[.int .i64 11, .int .i64 ((k : Int) + 3), .int .i64 0] 43)) (w4.heap.size + 1) (by simp) c9 43
            rw [hc9] at this
            have h2 := this.range
            rw [← hW9, ← hc9] at h2
            exact h2
          have HT : Hid (W9.there gv (k * 3) 9) := fun j hj => by
            obtain ⟨⟨x, hx⟩, hfr⟩ := (HGM.out.on hb9) (k * 3 + j) (by omega)
            exact ⟨by rw [hx]; rfl, hfr⟩
          rw [hW9] at HS HT
          have HW9 : Hid (W9 = (w4.alloc (.cells #[.int .i64 11, .int .i64 ((k : Int) + 3), .int .i64 0] 43)).alloc (.cells #[.int .i64 1, .int .i64 (folW l k), .int .i64 0, .int .i64 11, .int .i64 ((k : Int) + 3), .int .i64 0, .int .i64 11, .int .i64 ((k : Int) + 3), .int .i64 0] 43)) := hW9
          have HC9 : Hid (c9 = [.int .i64 1, .int .i64 (folW l k), .int .i64 0, .int .i64 11, .int .i64 ((k : Int) + 3), .int .i64 0, .int .i64 11, .int .i64 ((k : Int) + 3), .int .i64 0]) := hc9
          clear hW9 hc9
          have hkc : ¬ cv = k := by omega
          have hkc2 : (k : Int) ≤ (cv : Int) := by omega
          have hkl2 : (k : Int) ≤ (l.length : Int) := by omega
          go_upto_region 11 with fail
          go_region_law (refine stepCopy3 rfl (.tmp 35) (.tmp 40) rfl gv (k * 3) (l.length - k) (cv - k) (w4.heap.size + 1) 3 (by simp [Act.eval]) (by simp [Act.eval]) (by omega) c9 HL9.out HS.out HT.out HO9.out ?_)
          all_goals
            rw [← HW9.out]
            have hd9 : Below w4.heap.size w4 W9.drew := hb9.drew
            have HG : Hid (Got w.heap.size (W9.drew.setCells gv (k * 3) c9) (.slice (some ⟨gv, 0, none⟩) l.length cv) (folA l)) := by
              show Got _ _ _ _
              rw [HE.out, HF.out.1, HC9.out, HF.out.2]
              exact got_copy3 (HGM.out.on hd9) (HGR.out.on hd9) hg1 (Nat.lt_of_lt_of_le hg2 hd9.size) (1, outI l k, 0) (11, (k : Int) + 3, 0) (11, (k : Int) + 3, 0)
            have hbF : Below w.heap.size w (W9.drew.setCells gv (k * 3) c9) := below_setCells hg1 _ _ (below_over hw4 hd9)
            clear HW9 HS HT hb9 hd9 HGM HGR HC9 HL9 HO9 hg2 HF HE
            generalize W9.drew.setCells gv (k * 3) c9 = W at *
            go_wp2
            go_ret
            exact ⟨_, rfl, HG.out, hbF⟩
      · obtain rfl : k = l.length := by omega
        have HF : Hid (foldsF l = (l, false)) := folds_none hno.out (by omega)
        have HG : Hid (Got w.heap.size wr (.slice (some ⟨gv, 0, none⟩) l.length cv) (folA l)) := by
          show Got _ _ _ _
          rw [HE.out, HF.out]
          exact hv.out.got
        clear hv HF HE hc
        go_wp2
        go_ret
        exact ⟨_, rfl, HG.out, hb⟩
end Pg
end Go.Proofs.Ythabenjodhjgiaa
