/- Contracts: what is swept, the program's side. -/
import Derived.Test.YtlbjnlkeagmpoaaTh2
import Derived.Deep.Cut
namespace Go.Proofs.Ytlbjnlkeagmpoaa
namespace Pg
open Go.ChangeShapes Go.WideShapes Go.ChangeAt Go.RowKit St

theorem cells_same {w w' : World} {k : Nat} {vs : List Value} (h : w'.heap[k]? = w.heap[k]?) (hc : Cells w k vs) : Cells w' k vs := fun i x hx => by
  obtain ⟨h1, h2⟩ := hc i x hx
  refine ⟨?_, ?_⟩
  · rw [← h1]; unfold World.cell?; simp only [h]
  · rw [← h2]; unfold World.frozen?; simp only [h]
theorem row_new3 (w : World) (q : Tx.Ins) (t : TypeId) : Row (w.alloc (.cells #[.int .i64 q.1, .int .i64 q.2.1, .int .i64 q.2.2] t)) w.heap.size 0 [q] := by
  have h := Cells.new w _ rfl [.int .i64 q.1, .int .i64 q.2.1, .int .i64 q.2.2] t
  intro j x hx
  have hj : j = 0 := by
    have := (List.getElem?_eq_some_iff.1 hx).1
    simpa using this
  subst hj
  obtain rfl : q = x := by simpa using hx
  exact ⟨h.g0.1, h.g1.1, h.g2.1⟩
theorem irow_same {w w' : World} {k : Nat} {l : List Int} (h : w'.heap[k]? = w.heap[k]?) (hc : IRow w k 0 l) : IRow w' k 0 l := fun i x hx => by
  have h1 := hc i x hx
  rw [← h1]; unfold World.cell?; simp only [h]
set_option maxRecDepth 100000 in
set_option maxHeartbeats 4000000 in
theorem sweptIn_at (g yc : Nat) (code : List Tx.Ins) (hok : Lay.codeOk code = true) (w : World) (hrow : Row w g 0 code) :
    Calls Try.prog 40 #[.slice (some ⟨g, 0, none⟩) code.length yc] w fun e w' => ∃ x, e = .returned x ∧ GrowC w.heap.size w' x (swpF code) ∧ Below w.heap.size w w' := by
  have hl40 := (Lay.ok_len hok).2
  have hl0 := (Lay.ok_len hok).1
  have hli : (code.length : Int) ≤ 40 := by omega
  have HR : Hid (Row w g 0 code) := hrow
  have HOK : Hid (Lay.codeOk code = true) := hok
  clear hrow hok
  go_enter Try.func40, Try.ntmps40
  go_wp2_with fail
  refine (staysIn_at g yc code HOK.out w HR.out).mono ?_
  rintro e w1 ⟨rfl, hb1⟩
  have LR : Hid ((chi 40 (stB code)).length = 40) := chi_len _ _
  have OR : Hid (∀ v ∈ chi 40 (stB code), v.oneCell' = true) := chi_one _ _
  have HRI := rising_at (stB code)
  have HBE := below_at (stB code)
  generalize hcr : chi 40 (stB code) = cr at *
  clear hcr
  obtain ⟨X, hX⟩ : ∃ X, X = w1.alloc (.cells (chi 40 fun _ => false).toArray 45) := ⟨_, rfl⟩
  have hbX : Below w1.heap.size w1 X := by rw [hX]; exact (Below.refl _ _).alloc (Nat.le_refl _) _
  have K4 : Hid (Cells X w1.heap.size (chi 40 fun _ => false)) := by show Cells _ _ _; rw [hX]; exact Cells.new w1 _ rfl _ _
  have HX : Hid (X = w1.alloc (.cells (chi 40 fun _ => false).toArray 45)) := hX
  have hXs : X.heap.size = w1.heap.size + 1 := by rw [hX]; simp
  have T4 : Hid ((w1.alloc (.cells (chi 40 fun _ => false).toArray 45)).there w1.heap.size 0 cr.toArray.size) := by rw [← hX]; exact K4.out.there (by rw [chi_len]; simpa using LR.out)
  obtain ⟨Y, hY⟩ : ∃ Y, Y = (X.setCells w1.heap.size 0 cr).alloc (.cells #[] 38) := ⟨_, rfl⟩
  have hYs : (X.setCells w1.heap.size 0 cr).heap.size = w1.heap.size + 1 := by rw [size_setCells, hXs]
  have E4 : Hid (Cells Y w1.heap.size cr) := by show Cells _ _ _; rw [hY]; exact (K4.out.put (by rw [chi_len]; exact LR.out)).alloc _
  have hbY : Below w.heap.size w Y := by rw [hY]; exact (below_setCells hb1.size _ _ (below_over hb1 hbX)).alloc (by rw [hYs]; have := hb1.size; omega) _
  have HG0 : Hid (GrowC (w1.heap.size + 1) Y (.slice (some ⟨w1.heap.size + 1, 0, none⟩) 0 0) []) := by
    show GrowC _ _ _ _
    have h := growC_nil (X.setCells w1.heap.size 0 cr)
    rw [hYs, ← hY] at h
    exact h
  have HY : Hid (Y = ((w1.alloc (.cells (chi 40 fun _ => false).toArray 45)).setCells w1.heap.size 0 cr).alloc (.cells #[] 38)) := by show _ = _; rw [hY, hX]
  have hnew : w1.heap.size < Y.heap.size := by rw [hY, World.size_alloc, hYs]; omega
  have hb1s := hb1.size
  clear hX hY K4 hbX hXs hYs HX hb1
  go_wp2_with (first
    | (with_reducible refine wpList_alloc_chi rfl 45 rfl 40 zeroS ?_)
    | (with_reducible refine wpList_store_mid rfl 45 (.tmp 3) (.tmp 9) rfl w1.heap.size 0 cr.toArray (by simp [Act.eval, Act.put]) (by simp [Act.eval, Act.put]) T4.out (by rw [infoS]; simpa using LR.out.symm) (all_oneCell_toArray OR.out) ?_)
    | (with_reducible refine wpList_load_mid rfl 45 (.tmp 3) rfl w1.heap.size 0 (by simp [Act.eval, Act.put]) cr _ (by (try simp only [World.size_setCells, World.size_alloc]); rw [← HY.out]; exact E4.out.range) Try.underlying45 rfl (by rw [infoS, LR.out]) ?_))
  simp only [size_setCells, World.size_alloc]
  rw [← HY.out]
  clear HY T4 OR
  refine (HRI Y).mono ?_
  rintro e w2 ⟨v, rfl, hgv, hb2⟩
  clear HRI
  obtain ⟨gr, cap, rfl⟩ := hgv.form
  have hw2 : Below w.heap.size w w2 := below_over hbY hb2
  have D4 : Hid (Cells w2 w1.heap.size cr) := E4.out.on hb2
  have HG2 : Hid (GrowC (w1.heap.size + 1) w2 (.slice (some ⟨w1.heap.size + 1, 0, none⟩) 0 0) []) := HG0.out.on hb2
  obtain ⟨_, hgr1, cur, hcur⟩ := own_blockT hgv.1
  have hcur' : Hid (w2.heap[gr]? = some (.cells cur 2 (0, 0))) := hcur
  obtain ⟨_, _, hvv, _, hgr2, hir, _⟩ := hgv.gint
  obtain ⟨rfl, rfl⟩ : _ = _ ∧ _ = _ := by simpa using hvv
  have HIR : Hid (IRow w2 gr 0 (risL (stB code) 40)) := hir
  have hb3 : w1.heap.size < w2.heap.size := Nat.lt_of_lt_of_le hnew hb2.size
  have hlen : (risL (stB code) 40).length ≤ 40 := risL_len _ _
  have hlen' : ((risL (stB code) 40).length : Int) ≤ 40 := by omega
  have HMEM : Hid (∀ x ∈ risL (stB code) 40, ∃ j : Nat, j < code.length ∧ rchB code j = true ∧ x = (j : Int)) := fun x hx => by
    obtain ⟨j, _, hj, e⟩ := risL_mem.1 hx
    refine ⟨j, stB_lt hl0 hj, ?_, e⟩
    unfold stB at hj
    simp only [Bool.and_eq_true] at hj
    exact hj.1
  have HSS : Hid (∀ k (hk : k < (risL (stB code) 40).length), ((risL (stB code) 40).take (k + 1)).map (fun x => swpI code x.toNat) = ((risL (stB code) 40).take k).map (fun x => swpI code x.toNat) ++ [swpI code ((risL (stB code) 40)[k]).toNat]) := fun k hk => swp_succ hk
  have HEND : Hid (swpF code = ((risL (stB code) 40).take (risL (stB code) 40).length).map (fun x => swpI code x.toNat)) := by show _ = _; rw [List.take_length]; rfl
  have hwb : w.heap.size ≤ w1.heap.size + 1 := by omega
  clear hgv hb2 hbY E4 HG0 hir hcur hnew hb1s hgr1
  generalize hLL : risL (stB code) 40 = L at *
  clear hLL
  generalize w1.heap.size = b3 at *
  go_wp2
  go_loopw [4, 14] (fun v i wr => ∃ k : Nat, k ≤ L.length ∧ i = .int .i64 k ∧ Hid (GrowC (b3 + 1) wr v ((L.take k).map (fun x => swpI code x.toNat))) ∧ Hid (wr.heap[b3]? = w2.heap[b3]?) ∧ Hid (wr.heap[gr]? = w2.heap[gr]?) ∧ w2.heap.size ≤ wr.heap.size ∧ Below w.heap.size w wr) (fun _ i _ => L.length - (intOf i).toNat)
  case atStart => exact ⟨0, Nat.zero_le _, rfl, by show GrowC _ _ _ _; simpa using HG2.out, rfl, rfl, Nat.le_refl _, hw2⟩
  case round =>
    clear HG2 hw2
    obtain ⟨k, hk, rfl, hg, hs3, hsr, hsz, hb⟩ := hrel
    obtain ⟨gs, cs, rfl⟩ := hg.out.form
    by_cases hlt : k < L.length
    · have hki : (k : Int) < (L.length : Int) := by omega
      obtain ⟨j, hj, hrj, hxj⟩ := HMEM.out _ (List.getElem_mem hlt)
      have c0 := (irow_same hsr.out HIR.out) k _ (List.getElem?_eq_getElem hlt)
      rw [Nat.zero_add, hxj] at c0
      have hji : (j : Int) < (code.length : Int) := by omega
      have HST : Hid ((L.take (k + 1)).map (fun x => swpI code x.toNat) = (L.take k).map (fun x => swpI code x.toNat) ++ [swpI code j]) := by show _ = _; rw [HSS.out k hlt, hxj, Int.toNat_natCast]
      have hlk : ((L.take k).map (fun x => swpI code x.toNat)).length = k := by rw [List.length_map, List.length_take]; omega
      obtain ⟨d0, d1, d2⟩ := (HR.out.on hb) j _ (ins_is hj)
      have HJS : Hid (Lay.jumpB (insF code j).1 = true → 0 ≤ (insF code j).2.1 ∧ (insF code j).2.1 < code.length) := fun h => ⟨(jump_stay HOK.out hrj h).1, (jump_stay HOK.out hrj h).2.1⟩
      have HSW : Hid (swpI code j = if Lay.jumpB (insF code j).1 then ((insF code j).1, (ahd (stB code) (insF code j).2.1.toNat : Int), (insF code j).2.2) else insF code j) := rfl
      generalize insF code j = ins at *
      obtain ⟨op, A, b⟩ := ins
      dsimp only at d0 d1 d2 HJS HSW
      simp only [Nat.zero_add] at d0 d1 d2
      obtain ⟨X0, hX0⟩ : ∃ X0, X0 = wr.alloc (.cells #[.int .i64 op, .int .i64 A, .int .i64 b] 38) := ⟨_, rfl⟩
      have hb0 : Below wr.heap.size wr X0 := by rw [hX0]; exact (Below.refl _ _).alloc (Nat.le_refl _) _
      have BX0 : Cells X0 wr.heap.size [.int .i64 op, .int .i64 A, .int .i64 b] := by rw [hX0]; exact Cells.new wr _ rfl _ _
      have HX0 : Hid (X0 = wr.alloc (.cells #[.int .i64 op, .int .i64 A, .int .i64 b] 38)) := hX0
      have HBX : Hid (Cells X0 wr.heap.size [.int .i64 op, .int .i64 A, .int .i64 b]) := BX0
      obtain ⟨a0, _⟩ := BX0.g0
      obtain ⟨a1, _⟩ := BX0.g1
      obtain ⟨a2, _⟩ := BX0.g2
      rw [hX0] at a0 a1 a2
      have HREST : Hid (∀ (q : Tx.Ins) (W5 : World), Below wr.heap.size wr W5 → q = swpI code j → Cells W5 wr.heap.size [.int .i64 q.1, .int .i64 q.2.1, .int .i64 q.2.2] →
          GrowC (b3 + 1) W5 (.slice (some ⟨gs, 0, none⟩) ((L.take k).map (fun x => swpI code x.toNat)).length cs) ((L.take k).map (fun x => swpI code x.toNat)) ∧ W5.heap[b3]? = w2.heap[b3]? ∧ W5.heap[gr]? = w2.heap[gr]? ∧ w2.heap.size ≤ W5.heap.size ∧ Below w.heap.size w W5) := fun q W5 hb5 _ _ =>
        ⟨hg.out.on hb5, (hb5.block b3 (by omega)).trans hs3.out, (hb5.block gr (by omega)).trans hsr.out, Nat.le_trans hsz hb5.size, below_over hb hb5⟩
      clear hX0 BX0 hxj
      have HLK : Hid (((L.take k).map (fun x => swpI code x.toNat)).length = k) := hlk
      rw [hlk] at HREST
      rw [hlk]
      clear hlk
      go_wp2_with fail
      rw [← HX0.out]
      refine (isJump op A b X0).mono ?_
      rintro e w5 ⟨rfl, hb5⟩
      have hw5 : Below wr.heap.size wr w5 := below_over hb0 hb5
      have F5 : Hid (Cells w5 wr.heap.size [.int .i64 op, .int .i64 A, .int .i64 b]) := HBX.out.on hb5
      clear hb0 hb5 HBX HX0 a0 a1 a2 d0 d1 d2 c0
      cases hjb : Lay.jumpB op
      · have HQ : Hid (swpI code j = (op, A, b)) := by show _ = _; rw [HSW.out, hjb]; rfl
        obtain ⟨R1, R2, R3, R4, R5⟩ := HREST.out (op, A, b) w5 hw5 HQ.out.symm F5.out
        clear HREST HSW HJS hjb hw5
        obtain ⟨f0, _⟩ := F5.out.g0
        obtain ⟨f1, _⟩ := F5.out.g1
        obtain ⟨f2, _⟩ := F5.out.g2
        have HG6 : Hid (GrowC (b3 + 1) (w5.alloc (.cells #[.int .i64 op, .int .i64 A, .int .i64 b] 38)) (.slice (some ⟨gs, 0, none⟩) k cs) ((L.take k).map (fun x => swpI code x.toNat))) := R1.on ((Below.refl _ _).alloc (Nat.le_refl _) _)
        have HRN : Hid (Row (w5.alloc (.cells #[.int .i64 op, .int .i64 A, .int .i64 b] 38)) w5.heap.size 0 [(op, A, b)]) := row_new3 w5 (op, A, b) _
        have HNE : Hid (some gr ≠ (Value.slice (some ⟨gs, 0, none⟩) k cs).ownBlock) := (show BoxT w5 gr 2 cur from R3.trans hcur'.out).not_row (by decide) R1.1
        have HN3 : Hid (some b3 ≠ (Value.slice (some ⟨gs, 0, none⟩) k cs).ownBlock) := fun e => by have := (R1.1.lt b3 e.symm).1; omega
        have HZ5 : Hid (b3 < w5.heap.size ∧ gr < w5.heap.size) := ⟨by omega, by omega⟩
        have HBA : Hid (Below w5.heap.size w5 (w5.alloc (.cells #[.int .i64 op, .int .i64 A, .int .i64 b] 38))) := (Below.refl _ _).alloc (Nat.le_refl _) _
        have HR2 : Hid (w5.heap[b3]? = w2.heap[b3]?) := R2
        have HR3 : Hid (w5.heap[gr]? = w2.heap[gr]?) := R3
        clear R1 R2 R3 F5 hg hs3 hsr
        go_wp2_with (at_builtin; refine wpList_growC rfl _ _ rfl (b3 + 1) (.slice (some ⟨gs, 0, none⟩) k cs) ((L.take k).map (fun x => swpI code x.toNat)) rfl HG6.out (by have := HZ5.out; simp; omega) w5.heap.size 0 1 [(op, A, b)] rfl HRN.out (by have := HLK.out; simp; omega) ?_)
        intro v9 w9 hg9 hgrow9 hb9
        have HG9 : Hid (GrowC (b3 + 1) w9 v9 ((L.take (k + 1)).map (fun x => swpI code x.toNat))) := by
          show GrowC _ _ _ _
          rw [HST.out, HQ.out, List.map_take]
          exact hg9
        have S3 : Hid (w9.heap[b3]? = w2.heap[b3]?) := (hgrow9.block b3 (Nat.lt_of_lt_of_le HZ5.out.1 HBA.out.size) HN3.out).trans ((HBA.out.block b3 HZ5.out.1).trans HR2.out)
        have SR : Hid (w9.heap[gr]? = w2.heap[gr]?) := (hgrow9.block gr (Nat.lt_of_lt_of_le HZ5.out.2 HBA.out.size) HNE.out).trans ((HBA.out.block gr HZ5.out.2).trans HR3.out)
        have hz9 : w2.heap.size ≤ w9.heap.size := Nat.le_trans R4 (Nat.le_trans HBA.out.size hb9.size)
        have hw9 : Below w.heap.size w w9 := (below_over R5 HBA.out).trans (hb9.mono hwb)
        clear hg9 hgrow9 hb9 HG6 HRN HNE HN3 HZ5 HBA HR2 HR3 f0 f1 f2
        go_wp2
        go_roundw
        case rel => exact ⟨k + 1, by omega, by go_num, HG9.out, S3.out, SR.out, hz9, hw9⟩
        case measure => simp [intOf]; omega
      · obtain ⟨hA0, hA1⟩ := HJS.out hjb
        obtain ⟨n, rfl⟩ := Int.eq_ofNat_of_zero_le hA0
        have hn40 : n ≤ 40 := by omega
        have HQ : Hid (swpI code j = (op, (ahd (stB code) n : Int), b)) := by show _ = _; rw [HSW.out, hjb]; rfl
        obtain ⟨e0, _⟩ := F5.out.g0
        obtain ⟨e1, _⟩ := F5.out.g1
        obtain ⟨e2, _⟩ := F5.out.g2
        have C5 : Hid (Cells w5 b3 cr) := cells_same ((hw5.block b3 (by omega)).trans hs3.out) D4.out
        have hbb : b3 < wr.heap.size := by omega
        clear HSW HJS hjb hA0
        go_wp2_with (with_reducible refine wpList_load_mid rfl 45 (.tmp 3) rfl b3 0 (by simp [Act.eval, Act.put]) cr _ C5.out.range Try.underlying45 rfl (by rw [infoS, LR.out]) ?_)
        refine (HBE n hn40 w5).mono ?_
        rintro e w6 ⟨rfl, hb6⟩
        have F6 := F5.out.on hb6
        have hw6 : Below wr.heap.size wr w6 := below_over hw5 hb6
        obtain ⟨e3, z3⟩ := F6.g1
        have F5 : Hid (Cells (w6.setCell ⟨wr.heap.size, 1, none⟩ (.int .i64 (ahd (stB code) n : Nat))) wr.heap.size [.int .i64 op, .int .i64 (ahd (stB code) n : Nat), .int .i64 b]) := F6.s1 _
        have hw7 : Below wr.heap.size wr (w6.setCell ⟨wr.heap.size, 1, none⟩ (.int .i64 (ahd (stB code) n : Nat))) := hw6.setCell (Nat.le_refl _) _
        obtain ⟨R1, R2, R3, R4, R5⟩ := HREST.out (op, (ahd (stB code) n : Nat), b) _ hw7 HQ.out.symm F5.out
        clear HREST hw5 hb6 hw6 F6 e0 e1 e2 C5 hw7
        go_upto_region 9 with fail
        generalize w6.setCell ⟨wr.heap.size, 1, none⟩ (.int .i64 (ahd (stB code) n : Nat)) = w7 at *
        generalize ahd (stB code) n = nn at *
        clear e3 z3
        obtain ⟨f0, _⟩ := F5.out.g0
        obtain ⟨f1, _⟩ := F5.out.g1
        obtain ⟨f2, _⟩ := F5.out.g2
        have HG6 : Hid (GrowC (b3 + 1) (w7.alloc (.cells #[.int .i64 op, .int .i64 ((nn : Nat) : Int), .int .i64 b] 38)) (.slice (some ⟨gs, 0, none⟩) k cs) ((L.take k).map (fun x => swpI code x.toNat))) := R1.on ((Below.refl _ _).alloc (Nat.le_refl _) _)
        have HRN : Hid (Row (w7.alloc (.cells #[.int .i64 op, .int .i64 ((nn : Nat) : Int), .int .i64 b] 38)) w7.heap.size 0 [(op, ((nn : Nat) : Int), b)]) := row_new3 w7 (op, ((nn : Nat) : Int), b) _
        have HNE : Hid (some gr ≠ (Value.slice (some ⟨gs, 0, none⟩) k cs).ownBlock) := (show BoxT w7 gr 2 cur from R3.trans hcur'.out).not_row (by decide) R1.1
        have HN3 : Hid (some b3 ≠ (Value.slice (some ⟨gs, 0, none⟩) k cs).ownBlock) := fun e => by have := (R1.1.lt b3 e.symm).1; omega
        have HZ5 : Hid (b3 < w7.heap.size ∧ gr < w7.heap.size) := ⟨by omega, by omega⟩
        have HBA : Hid (Below w7.heap.size w7 (w7.alloc (.cells #[.int .i64 op, .int .i64 ((nn : Nat) : Int), .int .i64 b] 38))) := (Below.refl _ _).alloc (Nat.le_refl _) _
        have HR2 : Hid (w7.heap[b3]? = w2.heap[b3]?) := R2
        have HR3 : Hid (w7.heap[gr]? = w2.heap[gr]?) := R3
        clear R1 R2 R3 F5 hg hs3 hsr
        go_wp2_with (at_builtin; refine wpList_growC rfl _ _ rfl (b3 + 1) (.slice (some ⟨gs, 0, none⟩) k cs) ((L.take k).map (fun x => swpI code x.toNat)) rfl HG6.out (by have := HZ5.out; simp; omega) w7.heap.size 0 1 [(op, ((nn : Nat) : Int), b)] rfl HRN.out (by have := HLK.out; simp; omega) ?_)
        intro v9 w9 hg9 hgrow9 hb9
        have HG9 : Hid (GrowC (b3 + 1) w9 v9 ((L.take (k + 1)).map (fun x => swpI code x.toNat))) := by
          show GrowC _ _ _ _
          rw [HST.out, HQ.out, List.map_take]
          exact hg9
        have S3 : Hid (w9.heap[b3]? = w2.heap[b3]?) := (hgrow9.block b3 (Nat.lt_of_lt_of_le HZ5.out.1 HBA.out.size) HN3.out).trans ((HBA.out.block b3 HZ5.out.1).trans HR2.out)
        have SR : Hid (w9.heap[gr]? = w2.heap[gr]?) := (hgrow9.block gr (Nat.lt_of_lt_of_le HZ5.out.2 HBA.out.size) HNE.out).trans ((HBA.out.block gr HZ5.out.2).trans HR3.out)
        have hz9 : w2.heap.size ≤ w9.heap.size := Nat.le_trans R4 (Nat.le_trans HBA.out.size hb9.size)
        have hw9 : Below w.heap.size w w9 := (below_over R5 HBA.out).trans (hb9.mono hwb)
        clear hg9 hgrow9 hb9 HG6 HRN HNE HN3 HZ5 HBA HR2 HR3 f0 f1 f2
        go_wp2
        go_roundw
        case rel => exact ⟨k + 1, by omega, by go_num, HG9.out, S3.out, SR.out, hz9, hw9⟩
        case measure => simp [intOf]; omega
    · obtain rfl : k = L.length := by omega
      have HG : Hid (GrowC w.heap.size wr (.slice (some ⟨gs, 0, none⟩) ((L.take L.length).map (fun x => swpI code x.toNat)).length cs) (swpF code)) := by
        show GrowC _ _ _ _
        rw [HEND.out]
        exact hg.out.base hwb
      clear hg hs3 hsr
      go_wp2
      go_ret
      exact ⟨_, rfl, HG.out, hb⟩
set_option maxRecDepth 100000 in
set_option maxHeartbeats 1000000 in
theorem implSwept (g cap : Nat) (l : List Tx.Ins) (hl : l.length ≤ 1048576) (w : World) (hr : Row w g 0 l) :
    Calls Try.prog 23 #[.slice (some ⟨g, 0, none⟩) l.length cap] w fun e w' => ∃ x, e = .returned x ∧ Got w.heap.size w' x (swpA l) ∧ Below w.heap.size w w' := by
  have HR : Hid (Row w g 0 l) := hr
  clear hr
  go_enter Try.func23, Try.ntmps23
  go_wp2_with fail
  refine (implCodeOk g cap l hl w HR.out).mono ?_
  rintro e w1 ⟨rfl, hb1⟩
  cases hok : Lay.codeOk l
  · have HE : Hid (swpA l = []) := by show _ = _; simp [swpA, hok]
    clear hok
    go_wp2
    go_ret
    exact ⟨_, rfl, by rw [HE.out]; exact got_nil w1 _ hb1.size _, hb1.alloc hb1.size _⟩
  · have HE : Hid (swpA l = swpF l) := by show _ = _; simp [swpA, hok]
    go_wp2_with fail
    refine (sweptIn_at g cap l hok w1 (HR.out.on hb1)).mono ?_
    rintro e w2 ⟨x, rfl, hg, hb2⟩
    have hw2 : Below w.heap.size w w2 := below_over hb1 hb2
    have HG : Hid (GrowC w.heap.size w2 x (swpF l)) := hg.base hb1.size
    clear hb1 hb2 hok hg
    go_wp2
    go_ret
    exact ⟨_, rfl, by rw [HE.out]; exact HG.out.got, hw2⟩
end Pg
end Go.Proofs.Ytlbjnlkeagmpoaa
