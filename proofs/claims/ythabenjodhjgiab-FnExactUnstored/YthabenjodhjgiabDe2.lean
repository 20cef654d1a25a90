/- Contracts: the specification's DeadStores and Unstored. -/
import Derived.Test.YthabenjodhjgiabDe1
import Derived.Maps.AppendAt
namespace Go.Proofs.Ythabenjodhjgiab
namespace Pg
open Go.ChangeShapes Go.WideShapes Go.ChangeAt Go.RowKit St

theorem irow_blkD {w w' : World} {g o : Nat} {l : List Int} (h : IRow w g o l) (hb : w'.heap[g]? = w.heap[g]?) : IRow w' g o l := fun j x hj => (World.cell?_of_block (w := w) (a := ⟨g, o + j, none⟩) hb).trans (h j x hj)
/-- A row of its own that may grow, in another block than two others. -/
def GrowD (B g1 g2 : Nat) (w : World) (v : Value) (l : List Int) : Prop := Grow B w v l ∧ v.ownBlock ≠ some g1 ∧ v.ownBlock ≠ some g2
/-- A row that has a number does not lie in a block that has none. -/
theorem not_empty {w W : World} {t : TypeId} {g : Nat} {l : List Int} (hb : Below (w.alloc (.cells #[] t)).heap.size (w.alloc (.cells #[] t)) W) (h : IRow W g 0 l) (h0 : 0 < l.length) : g ≠ w.heap.size := fun e => by
  subst e
  have h1 := h 0 _ (List.getElem?_eq_getElem h0)
  have h2 := hb.cell (p := ⟨w.heap.size, 0 + 0, none⟩) (by simp)
  rw [h1] at h2
  simp [go_sem] at h2
theorem rch_pos {l : List Tx.Ins} : 0 < (risL (rchB l) 40).length := by
  refine List.length_pos_of_mem (a := ((0 : Nat) : Int)) (risL_mem.2 ⟨0, by decide, ?_, rfl⟩)
  exact rchB_iff.2 .zero
set_option maxRecDepth 100000 in
set_option maxHeartbeats 4000000 in
theorem l11Dead_at (g yc : Nat) (code : List Tx.Ins) (hok : Lay.codeOk code = true) (w : World) (hrow : Row w g 0 code) :
    Calls Try.prog 18 #[.slice (some ⟨g, 0, none⟩) code.length yc] w fun e w' => ∃ v, e = .returned v ∧ Grow w.heap.size w' v (risL (deadB code) 40) ∧ Below w.heap.size w w' := by
  obtain ⟨i0, hif, hz0, hz1, hz2⟩ := info_parts infoN
  have hl40 := (Lay.ok_len hok).2
  have hl0 := (Lay.ok_len hok).1
  have HR : Hid (Row w g 0 code) := hrow
  have HOK : Hid (Lay.codeOk code = true) := hok
  have hb0 : Below w.heap.size w (w.alloc (.cells #[] 2)) := (Below.refl _ _).alloc (Nat.le_refl _) _
  have HG0 : Hid (Grow w.heap.size (w.alloc (.cells #[] 2)) (.slice (some ⟨w.heap.size, 0, none⟩) 0 0) []) := grow_start w
  clear hrow hok
  go_enter Try.func18, Try.ntmps18
  go_wp2_with fail
  refine (l9Live_at g yc code HOK.out _ (HR.out.on hb0)).mono ?_
  rintro e w1 ⟨vl, rfl, hls, hb1⟩
  obtain ⟨gl, cl, rfl, hcl, hgl, hrl⟩ := hls
  have hngl : gl ≠ w.heap.size := not_empty hb1 hrl (by rw [livL_len]; exact hl0)
  have HRL : Hid (IRow w1 gl 0 (livL code)) := hrl
  have hw1 : Below w.heap.size w w1 := below_over hb0 hb1
  have HB1 : Hid (Below (w.alloc (.cells #[] 2)).heap.size (w.alloc (.cells #[] 2)) w1) := hb1
  have hll : (livL code).length = code.length := livL_len code
  rw [hll]
  have HLL : Hid ((livL code).length = code.length) := hll
  clear hrl hb1 hll
  go_wp2_with fail
  refine (l9Reached_at g yc code HOK.out w1 (HR.out.on hw1)).mono ?_
  rintro e w2 ⟨vr, rfl, hlr, hb2⟩
  obtain ⟨gr, cr, rfl, hcr, hgr, hrr⟩ := hlr
  have hbb : Below (w.alloc (.cells #[] 2)).heap.size (w.alloc (.cells #[] 2)) w2 := below_over HB1.out hb2
  have hngr : gr ≠ w.heap.size := not_empty hbb hrr rch_pos
  have HRR : Hid (IRow w2 gr 0 (risL (rchB code) 40)) := hrr
  have HL2 : Hid (IRow w2 gl 0 (livL code)) := HRL.out.on hb2
  have hw2 : Below w.heap.size w w2 := below_over hw1 hb2
  have hgl2 : gl < w2.heap.size := Nat.lt_of_lt_of_le hgl hb2.size
  have HRM : Hid (∀ x ∈ risL (rchB code) 40, ∃ j : Nat, j < code.length ∧ rchB code j = true ∧ x = (j : Int)) := fun x hx => by
    obtain ⟨j, _, hj, e⟩ := risL_mem.1 hx
    exact ⟨j, (rchB_iff.1 hj).lt hl0, hj, e⟩
  have hr40 : (risL (rchB code) 40).length ≤ 40 := risL_len _ _
  have HG2 : Hid (GrowD w.heap.size gl gr w2 (.slice (some ⟨w.heap.size, 0, none⟩) 0 0) (dedP code ((risL (rchB code) 40).take 0))) := ⟨by rw [List.take_zero]; exact HG0.out.on hbb, by show some w.heap.size ≠ some gl; intro h; injection h with h; exact hngl h.symm, by show some w.heap.size ≠ some gr; intro h; injection h with h; exact hngr h.symm⟩
  have HALL : Hid (dedP code (risL (rchB code) 40) = risL (deadB code) 40) := dedP_all
  clear hrr hb2 HG0 HB1 hbb hngl hngr HRL hw1 hgl hb0 hcl hcr
  generalize risL (rchB code) 40 = r at *
  go_wp2_with fail
  go_loopw [3, 6] (fun v i wr => ∃ k : Nat, k ≤ r.length ∧ i = .int .i64 k ∧ Hid (GrowD w.heap.size gl gr wr v (dedP code (r.take k))) ∧ gl < wr.heap.size ∧ gr < wr.heap.size ∧ Hid (IRow wr gl 0 (livL code)) ∧ Hid (IRow wr gr 0 r) ∧ Below w.heap.size w wr) (fun _ i _ => r.length - (intOf i).toNat)
  case atStart => exact ⟨0, Nat.zero_le _, rfl, HG2.out, hgl2, hgr, HL2.out, HRR.out, hw2⟩
  case round =>
    clear HG2 HL2 HRR hw2 hgl2 hgr
    obtain ⟨k, hk, rfl, hg, hgl, hgr, hrl, hrr, hb⟩ := hrel
    obtain ⟨ga, ca, rfl⟩ := hg.out.1.form
    by_cases hlt : k < r.length
    · have hki : (k : Int) < (r.length : Int) := by omega
      have HST : Hid (dedP code (r.take (k + 1)) = dedP code (r.take k) ++ (if deadB code r[k].toNat then [r[k]] else [])) := dedP_succ hlt
      obtain ⟨j, hj, hrj, hxj⟩ := HRM.out _ (List.getElem_mem hlt)
      rw [hxj, Int.toNat_natCast] at HST
      have c0 := hrr.out k _ (List.getElem?_eq_getElem hlt)
      rw [Nat.zero_add, hxj] at c0
      have HLN : Hid ((dedP code (r.take k)).length ≤ k) := by
        show _ ≤ _
        have h1 := List.length_filter_le (fun x : Int => deadB code x.toNat) (r.take k)
        have h2 : (r.take k).length ≤ k := by simp; omega
        unfold dedP
        omega
      have hji : (j : Int) < (code.length : Int) := by omega
      obtain ⟨d0, d1, d2⟩ := (HR.out.on hb) j _ (ins_is hj)
      have HDB : Hid (deadB code j = (rchB code j && (decide ((insF code j).1 = 3) && !(outF code j (lvB code) (insF code j).2.1.toNat)))) := rfl
      have HLI : Hid ((insF code j).1 = 3 → 0 ≤ (insF code j).2.1 ∧ (insF code j).2.1 < 8) := fun h => local_in HOK.out hj (.inr h)
      generalize insF code j = ins at *
      obtain ⟨op, A, b⟩ := ins
      dsimp only at d0 d1 d2 HDB HLI
      simp only [Nat.zero_add] at d0 d1 d2
      obtain ⟨X0, hX0⟩ : ∃ X0, X0 = wr.alloc (.cells #[.int .i64 op, .int .i64 A, .int .i64 b] 36) := ⟨_, rfl⟩
      have hb0 : Below wr.heap.size wr X0 := by rw [hX0]; exact (Below.refl _ _).alloc (Nat.le_refl _) _
      have BX0 : Hid (Cells X0 wr.heap.size [.int .i64 op, .int .i64 A, .int .i64 b]) := by show Cells _ _ _; rw [hX0]; exact Cells.new wr _ rfl _ _
      have HX0 : Hid (X0 = wr.alloc (.cells #[.int .i64 op, .int .i64 A, .int .i64 b] 36)) := hX0
      have G1 : Hid (GrowD w.heap.size gl gr X0 (.slice (some ⟨ga, 0, none⟩) (dedP code (r.take k)).length ca) (dedP code (r.take k))) := ⟨hg.out.1.on hb0, hg.out.2⟩
      have L1 : Hid (IRow X0 gl 0 (livL code)) := hrl.out.on hb0
      have R1 : Hid (IRow X0 gr 0 r) := hrr.out.on hb0
      have hgl1 : gl < X0.heap.size := Nat.lt_of_lt_of_le hgl hb0.size
      have hgr1 : gr < X0.heap.size := Nat.lt_of_lt_of_le hgr hb0.size
      have hwX : Below w.heap.size w X0 := below_over hb hb0
      have HXZ : Hid (wr.heap.size < X0.heap.size) := cell_lt (BX0.out.g0).1
      clear hX0 hg hrl hrr hb hb0 hgl hgr
      by_cases h3 : op = 3
      · subst h3
        obtain ⟨ha0, ha8⟩ := HLI.out rfl
        obtain ⟨a, rfl⟩ := Int.eq_ofNat_of_zero_le ha0
        have ha : a < 8 := by omega
        have HOUT : Hid (deadB code j = !(outF code j (lvB code) a)) := by show _ = _; rw [HDB.out, hrj, Int.toNat_natCast]; simp
        have c1 := R1.out k _ (List.getElem?_eq_getElem hlt)
        rw [Nat.zero_add, hxj] at c1
        rw [HX0.out] at c1
        clear HDB HLI ha0
        go_wp2_with fail
        rw [← HX0.out]
        refine (l9Nexts_at g yc code (by omega) j hj X0 (HR.out.on hwX)).mono ?_
        rintro e w3 ⟨vn, rfl, hln, hb3⟩
        obtain ⟨gn, cn, rfl, hcn, hgn, hrn⟩ := hln
        have HRN : Hid (IRow w3 gn 0 (nextsF code j)) := hrn
        have hw3 : Below w.heap.size w w3 := below_over hwX hb3
        have G3 : Hid (GrowD w.heap.size gl gr w3 (.slice (some ⟨ga, 0, none⟩) (dedP code (r.take k)).length ca) (dedP code (r.take k))) := ⟨G1.out.1.on hb3, G1.out.2⟩
        have L3 : Hid (IRow w3 gl 0 (livL code)) := L1.out.on hb3
        have R3 : Hid (IRow w3 gr 0 r) := R1.out.on hb3
        have hgl3 : gl < w3.heap.size := Nat.lt_of_lt_of_le hgl1 hb3.size
        have hgr3 : gr < w3.heap.size := Nat.lt_of_lt_of_le hgr1 hb3.size
        have BX3 : Hid (Cells w3 wr.heap.size [.int .i64 3, .int .i64 (a : Int), .int .i64 b]) := BX0.out.on hb3
        have HNX : Hid (∀ x ∈ nextsF code j, ∃ q : Nat, q < code.length ∧ x = (q : Int)) := fun x hx => by
          obtain ⟨q, hq, e⟩ := (nextsF_mem HOK.out hj x).1 hx
          exact ⟨q, nxB_lt hq, e⟩
        have HOU : Hid (∀ v, (nextsF code j).any (fun x => lvB code x.toNat v) = outF code j (lvB code) v) := fun v => by rw [nexts_ris HOK.out hj]; exact ris_any _ (lvB code) v
        have hn40 : (nextsF code j).length ≤ 41 := by rw [nexts_ris HOK.out hj]; have := risL_len (nxB code j) 40; omega
        clear hb3 hrn G1 L1 R1 hgl1 hgr1 BX0 hwX c1 c0 d0 d1 d2 HX0 HXZ
        generalize nextsF code j = ns at *
        go_wp2_with fail
        go_loopw [8, 10] (fun bv i wq => ∃ q : Nat, q ≤ ns.length ∧ i = .int .i64 q ∧ bv = .int .i64 ((bn (partL (lvB code) ns q) 8 : Nat) : Int) ∧ wq = w3) (fun _ i _ => ns.length - (intOf i).toNat)
        case atStart => exact ⟨0, Nat.zero_le _, rfl, by rw [show bn (partL (lvB code) ns 0) 8 = 0 from bn_none]; rfl, rfl⟩
        case round =>
          obtain ⟨q, hq, rfl, rfl, rfl⟩ := hrel
          by_cases hqt : q < ns.length
          · have hqi : (q : Int) < (ns.length : Int) := by omega
            have c0 := HRN.out q _ (List.getElem?_eq_getElem hqt)
            rw [Nat.zero_add] at c0
            obtain ⟨m, hm, hxm⟩ := HNX.out _ (List.getElem_mem hqt)
            have HPN : Hid (bn (fun v => partL (lvB code) ns q v || lvB code m v) 8 = bn (partL (lvB code) ns (q + 1)) 8) := bn_eq.2 fun v _ => by
              have := partL_succ (lvB code) hqt v
              rw [hxm, Int.toNat_natCast] at this
              exact this
            rw [hxm] at c0
            have e0 := L3.out m _ (livL_at hm)
            rw [Nat.zero_add] at e0
            have hmi : (m : Int) < (code.length : Int) := by omega
            have hor := or_bn (partL (lvB code) ns q) (lvB code m)
            rw [HPN.out] at hor
            clear hxm
            go_wp2
            go_roundw
            case rel => exact ⟨q + 1, by omega, by go_num, rfl, by simp⟩
            case measure => simp [intOf]; omega
          · have hqi : ¬ (q : Int) < (ns.length : Int) := by omega
            have HBB : Hid (bn (partL (lvB code) ns q) 8 = bn (outF code j (lvB code)) 8) := bn_eq.2 fun v _ => by
              rw [← HOU.out v]
              unfold partL
              rw [List.take_of_length_le (by omega)]
            rw [HBB.out]
            obtain ⟨a1, _⟩ := BX3.out.g1
            have HBIT := bit_is (outF code j (lvB code)) ha
            have HBITH : Hid (bn (outF code j (lvB code)) 8 / 2 ^ a % 2 = if outF code j (lvB code) a then 1 else 0) := HBIT
            have hb256 := bn_lt (outF code j (lvB code)) 8
            clear HBIT HBB
            generalize bn (outF code j (lvB code)) 8 = bb at *
            have htm : ∀ t : Nat, bb / 2 ^ a % 2 = t → ((bb : Int) / 2 ^ a).tmod 2 = (t : Int) := fun t ht => by
              have e1 : ((bb : Int) / 2 ^ a) = ((bb / 2 ^ a : Nat) : Int) := by push_cast; rfl
              rw [e1, Int.tmod_eq_emod_of_nonneg (Int.natCast_nonneg _), ← ht, Int.natCast_emod]
              rfl
            have c0 := R3.out k _ (List.getElem?_eq_getElem hlt)
            rw [Nat.zero_add, hxj] at c0
            have HB : Hid (w.heap.size ≤ wr.heap.size) := hw3.size
            cases hob : outF code j (lvB code) a
            · rw [hob] at HBITH
              have hz : (((bb : Int) / 2 ^ a).tmod 2 == 0) = true := by rw [htm 0 (by simpa using HBITH.out)]; rfl
              have hdd : deadB code j = true := by rw [HOUT.out, hob]; rfl
              rw [hdd, if_pos rfl] at HST
              clear htm HBITH hob HOUT hdd hxj
              go_wp2_with (at_builtin; refine wpList_append_own_at _ rfl _ _ 24 rfl w.heap.size 2 i0 (.int .i64 0) 1 8 Try.underlying24 hif hz0 hz1 hz2 rfl (by decide) _ _ _ rfl (G3.out.1.1.alloc _) ⟨wr.heap.size, 0, none⟩ 1 1 [.int .i64 (j : Int)] rfl rfl (cell_one_new _ _ _) (by simp [Value.oneCell']) (by have := HLN.out; unfold maxLen; omega) (by have := HLN.out; omega) (by have := HB.out; simp; omega) ?_)
              intro v1 w4 hown1 hgrow1 hnil1 hat
              have hb4 : Below w.heap.size w w4 := (hw3.alloc hw3.size _).grown hgrow1 (by have := HB.out; simp; omega) (fun q hq => by simp [Value.ownBlock] at hq; subst hq; exact (G3.out.1.1.lt ga rfl).1)
              have hne1 : ga ≠ gl := fun h => G3.out.2.1 (by rw [h]; rfl)
              have hne2 : ga ≠ gr := fun h => G3.out.2.2 (by rw [h]; rfl)
              have hzw : (wr.alloc (Obj.cells #[.int .i64 (j : Int)] 2)).heap.size = wr.heap.size + 1 := by simp
              have HG : Hid (GrowD w.heap.size gl gr w4 v1 (dedP code (r.take (k + 1)))) := by
                show GrowD _ _ _ _ _ _
                refine ⟨?_, ?_, ?_⟩
                · rw [HST.out]
                  exact grow_next hown1 (fun h => hnil1 h)
                · rcases hat with h | h
                  · rw [h]; exact G3.out.2.1
                  · rw [h]; intro h2; injection h2 with h2; omega
                · rcases hat with h | h
                  · rw [h]; exact G3.out.2.2
                  · rw [h]; intro h2; injection h2 with h2; omega
              have L4 : Hid (IRow w4 gl 0 (livL code)) := by
                refine irow_blkD (w := wr.alloc (.cells #[.int .i64 (j : Int)] 2)) (L3.out.on ((Below.refl _ _).alloc (Nat.le_refl _) _)) ?_
                refine hgrow1.block gl (by omega) ?_
                intro h
                exact hne1 (by simpa [Value.ownBlock] using h.symm)
              have R4 : Hid (IRow w4 gr 0 r) := by
                refine irow_blkD (w := wr.alloc (.cells #[.int .i64 (j : Int)] 2)) (R3.out.on ((Below.refl _ _).alloc (Nat.le_refl _) _)) ?_
                refine hgrow1.block gr (by omega) ?_
                intro h
                exact hne2 (by simpa [Value.ownBlock] using h.symm)
              have hsz := hgrow1.size
              have hgl4 : gl < w4.heap.size := by omega
              have hgr4 : gr < w4.heap.size := by omega
              clear hown1 hgrow1 hnil1 hat G3 HST L3 R3 hw3 HB hgl3 hgr3 hsz hzw BX3 a1 HRN
              go_wp2
              go_roundw
              case rel => exact ⟨k + 1, by omega, by go_num, HG.out, hgl4, hgr4, L4.out, R4.out, hb4⟩
              case measure => simp [intOf]; omega
            · rw [hob] at HBITH
              have hz : (((bb : Int) / 2 ^ a).tmod 2 == 0) = false := by rw [htm 1 (by simpa using HBITH.out)]; rfl
              have hdd : deadB code j = false := by rw [HOUT.out, hob]; rfl
              have HG : Hid (GrowD w.heap.size gl gr wr (.slice (some ⟨ga, 0, none⟩) (dedP code (r.take k)).length ca) (dedP code (r.take (k + 1)))) := by show GrowD _ _ _ _ _ _; rw [HST.out, hdd]; simpa using G3.out
              clear htm HBITH hob HOUT hdd hxj HST G3
              go_wp2
              go_roundw
              case rel => exact ⟨k + 1, by omega, by go_num, HG.out, hgl3, hgr3, L3.out, R3.out, hw3⟩
              case measure => simp [intOf]; omega
      · have hd : deadB code j = false := by rw [HDB.out]; simp [h3]
        have h3b : (op == 3) = false := by simp [h3]
        have h3c : (op != 3) = true := by simp [h3]
        have HG : Hid (GrowD w.heap.size gl gr X0 (.slice (some ⟨ga, 0, none⟩) (dedP code (r.take k)).length ca) (dedP code (r.take (k + 1)))) := by show GrowD _ _ _ _ _ _; rw [HST.out, hd]; simpa using G1.out
        clear hd HDB HLI HST G1 h3 BX0
        go_wp2
        rw [← HX0.out]
        go_roundw
        case rel => exact ⟨k + 1, by omega, by go_num, HG.out, hgl1, hgr1, L1.out, R1.out, hwX⟩
        case measure => simp [intOf]; omega
    · obtain rfl : k = r.length := by omega
      have HG : Hid (Grow w.heap.size wr (.slice (some ⟨ga, 0, none⟩) (dedP code (r.take r.length)).length ca) (risL (deadB code) 40)) := by show Grow _ _ _ _; rw [← HALL.out]; have := hg.out.1; rw [List.take_length] at this ⊢; exact this
      clear hg hrl hrr
      go_wp2
      go_ret
      exact ⟨_, rfl, HG.out, hb⟩
set_option maxRecDepth 100000 in
set_option maxHeartbeats 1000000 in
theorem specDeadStores (g cap : Nat) (l : List Tx.Ins) (hl : l.length ≤ 1048576) (w : World) (hr : Row w g 0 l) :
    Calls Try.prog 6 #[.slice (some ⟨g, 0, none⟩) l.length cap] w fun e w' => ∃ x, e = .returned x ∧ Lst w' x (dedA l) ∧ Below w.heap.size w w' := by
  have HR : Hid (Row w g 0 l) := hr
  clear hr
  go_enter Try.func6, Try.ntmps6
  go_wp2_with fail
  refine (specCodeOk g cap l hl w HR.out).mono ?_
  rintro e w1 ⟨rfl, hb1⟩
  cases hok : Lay.codeOk l
  · have HE : Hid (dedA l = []) := by show _ = _; simp [dedA, hok]
    clear hok
    go_wp2
    go_ret
    exact ⟨_, rfl, by rw [HE.out]; exact (grow_start w1).lst, hb1.alloc hb1.size _⟩
  · have HE : Hid (dedA l = risL (deadB l) 40) := by show _ = _; simp [dedA, hok]
    go_wp2_with fail
    refine (l11Dead_at g cap l hok w1 (HR.out.on hb1)).mono ?_
    rintro e w2 ⟨v, rfl, hg, hb2⟩
    have hw2 : Below w.heap.size w w2 := below_over hb1 hb2
    have HG : Hid (Lst w2 v (dedA l)) := by show Lst _ _ _; rw [HE.out]; exact hg.lst
    clear hb1 hb2 hg hok
    go_wp2
    go_ret
    exact ⟨_, rfl, HG.out, hw2⟩
set_option maxRecDepth 100000 in
set_option maxHeartbeats 1000000 in
theorem l11Unstored_at (g cap : Nat) (l : List Tx.Ins) (hok : Lay.codeOk l = true) (w : World) (hr : Row w g 0 l) :
    Calls Try.prog 24 #[.slice (some ⟨g, 0, none⟩) l.length cap] w fun e w' => ∃ x, e = .returned x ∧ Got w.heap.size w' x (popsF l (risL (deadB l) 40)) ∧ Below w.heap.size w w' := by
  have hl40 := (Lay.ok_len hok).2
  have hl0 := (Lay.ok_len hok).1
  have HOK : Hid (Lay.codeOk l = true) := hok
  have HR : Hid (Row w g 0 l) := hr
  have HRA : Hid (Row (w.alloc (.cells #[] 36)) g 0 l) := hr.on ((Below.refl _ _).alloc (Nat.le_refl _) _)
  clear hok hr
  go_enter Try.func24, Try.ntmps24
  go_wp2_with (at_builtin; refine wpList_growC rfl _ _ rfl w.heap.size _ [] rfl (growC_nil w) (by simp) g 0 cap l rfl HRA.out (by simp; omega) ?_)
  intro v w2 hown hgrow hb
  have hw2 : Below w.heap.size w w2 := ((Below.refl _ _).alloc (Nat.le_refl _) _).trans hb
  have hown' : GrowC w.heap.size w2 v l := by simpa using hown
  obtain ⟨gv, cv, rfl, hcv⟩ := hown'.form2
  obtain ⟨g', c', he, hg1, hg2, hgr, hgm⟩ := hown'.got
  obtain ⟨rfl, rfl⟩ : gv = g' ∧ cv = c' := by simpa using he
  have HGR : Hid (Row w2 gv 0 l) := hgr
  have HGM : Hid (Room w2 gv (l.length * 3)) := hgm
  clear hown hgrow hb hown' HRA hcv he hgr hgm
  go_wp2_with fail
  refine (l11Dead_at g cap l HOK.out w2 (HR.out.on hw2)).mono ?_
  rintro e w4 ⟨v, rfl, hg, hb4⟩
  obtain ⟨gp, cp, hv4, hgp1, hgp2, hir, _⟩ := hg.gint
  subst hv4
  have hw4 : Below w.heap.size w w4 := below_over hw2 hb4
  have HR4 : Hid (Row w4 gv 0 l) := HGR.out.on hb4
  have HM4 : Hid (Room w4 gv (l.length * 3)) := HGM.out.on hb4
  have hg4 : gv < w4.heap.size := Nat.lt_of_lt_of_le hg2 hb4.size
  have HIR : Hid (IRow w4 gp 0 (risL (deadB l) 40)) := hir
  have hne : gv ≠ gp := by omega
  have hd41 : (risL (deadB l) 40).length ≤ 40 := risL_len _ _
  have HDM : Hid (∀ x ∈ risL (deadB l) 40, ∃ j : Nat, j < l.length ∧ x = (j : Int)) := fun x hx => by
    obtain ⟨j, _, hj, e⟩ := risL_mem.1 hx
    exact ⟨j, deadB_lt hl0 hj, e⟩
  clear hg hb4 HGR HGM hw2 hir hg2 hgp1
  generalize hdd : risL (deadB l) 40 = d at *
  have HD : Hid (risL (deadB l) 40 = d) := hdd
  clear hdd
  go_wp2
  go_loopw [5] (fun i wr => ∃ k : Nat, k ≤ d.length ∧ i = .int .i64 k ∧ Hid (Row wr gv 0 (popsF l (d.take k))) ∧ Hid (Room wr gv (l.length * 3)) ∧ gv < wr.heap.size ∧ Hid (IRow wr gp 0 d) ∧ Below w.heap.size w wr) (fun i _ => d.length - (intOf i).toNat)
  case atStart => exact ⟨0, Nat.zero_le _, rfl, by show Row _ _ _ _; simpa [popsF] using HR4.out, HM4.out, hg4, HIR.out, hw4⟩
  case round =>
    clear HR4 HM4 hg4 HIR hw4
    obtain ⟨k, hk, rfl, hrw, hrm, hgw, hir, hb⟩ := hrel
    by_cases hlt : k < d.length
    · have hki : (k : Int) < (d.length : Int) := by omega
      have c0 := hir.out k _ (List.getElem?_eq_getElem hlt)
      rw [Nat.zero_add] at c0
      obtain ⟨j, hj, hxj⟩ := HDM.out _ (List.getElem_mem hlt)
      rw [hxj] at c0
      have hji : (j : Int) < (l.length : Int) := by omega
      have HST : Hid (popsF l (d.take (k + 1)) = (popsF l (d.take k)).set j (9, 0, 0)) := by show _ = _; rw [pops_succ l hlt, hxj, Int.toNat_natCast]
      obtain ⟨⟨x0, s0⟩, z0⟩ := hrm.out (j * 3) (by omega)
      obtain ⟨⟨x1, s1⟩, z1⟩ := hrm.out (j * 3 + 1) (by omega)
      obtain ⟨⟨x2, s2⟩, z2⟩ := hrm.out (j * 3 + 2) (by omega)
      obtain ⟨q1, q2, q3⟩ := set_oneD (k := j) (by rw [pops_len]) hrm.out hrw.out hb hg1 (9, 0, 0)
      have Q1 : Hid (Row (((wr.setCell ⟨gv, j * 3, none⟩ (.int .i64 9)).setCell ⟨gv, j * 3 + 1, none⟩ (.int .i64 0)).setCell ⟨gv, j * 3 + 2, none⟩ (.int .i64 0)) gv 0 (popsF l (d.take (k + 1)))) := by show Row _ _ _ _; rw [HST.out]; exact q1
      have Q2 : Hid (Room (((wr.setCell ⟨gv, j * 3, none⟩ (.int .i64 9)).setCell ⟨gv, j * 3 + 1, none⟩ (.int .i64 0)).setCell ⟨gv, j * 3 + 2, none⟩ (.int .i64 0)) gv (l.length * 3)) := q2
      have Q3 : Below w.heap.size w (((wr.setCell ⟨gv, j * 3, none⟩ (.int .i64 9)).setCell ⟨gv, j * 3 + 1, none⟩ (.int .i64 0)).setCell ⟨gv, j * 3 + 2, none⟩ (.int .i64 0)) := q3
      have Q4 : Hid (IRow (((wr.setCell ⟨gv, j * 3, none⟩ (.int .i64 9)).setCell ⟨gv, j * 3 + 1, none⟩ (.int .i64 0)).setCell ⟨gv, j * 3 + 2, none⟩ (.int .i64 0)) gp 0 d) := irow_far (irow_far (irow_far hir.out _ _ hne) _ _ hne) _ _ hne
      clear q1 q2 q3 hrw hrm hir hb hxj HST
      go_wp2
      go_roundw
      case rel => exact ⟨k + 1, by omega, by go_num, Q1.out, Q2.out, by simpa using hgw, Q4.out, Q3⟩
      case measure => simp [intOf]; omega
    · obtain rfl : k = d.length := by omega
      have HG : Hid (Got w.heap.size wr (.slice (some ⟨gv, 0, none⟩) l.length cv) (popsF l d)) := by
        show Got _ _ _ _
        rw [List.take_length] at hrw
        exact ⟨gv, cv, by rw [pops_len], hg1, hgw, hrw.out, by rw [pops_len]; exact hrm.out⟩
      clear hrw hrm hir
      go_wp2
      go_ret
      exact ⟨_, rfl, by rw [HD.out]; exact HG.out, hb⟩
set_option maxRecDepth 100000 in
set_option maxHeartbeats 1000000 in
theorem specUnstored (g cap : Nat) (l : List Tx.Ins) (hl : l.length ≤ 1048576) (w : World) (hr : Row w g 0 l) :
    Calls Try.prog 14 #[.slice (some ⟨g, 0, none⟩) l.length cap] w fun e w' => ∃ x, e = .returned x ∧ Got w.heap.size w' x (unsA l) ∧ Below w.heap.size w w' := by
  have HR : Hid (Row w g 0 l) := hr
  clear hr
  go_enter Try.func14, Try.ntmps14
  go_wp2_with fail
  refine (specCodeOk g cap l hl w HR.out).mono ?_
  rintro e w1 ⟨rfl, hb1⟩
  cases hok : Lay.codeOk l
  · have HE : Hid (unsA l = []) := by show _ = _; simp [unsA, hok]
    clear hok
    go_wp2
    go_ret
    exact ⟨_, rfl, by rw [HE.out]; exact got_nil w1 _ hb1.size _, hb1.alloc hb1.size _⟩
  · have HE : Hid (unsA l = popsF l (risL (deadB l) 40)) := by show _ = _; simp [unsA, hok]
    go_wp2_with fail
    refine (l11Unstored_at g cap l hok w1 (HR.out.on hb1)).mono ?_
    rintro e w2 ⟨v, rfl, hg, hb2⟩
    have hw2 : Below w.heap.size w w2 := below_over hb1 hb2
    have HG : Hid (Got w.heap.size w2 v (unsA l)) := by show Got _ _ _ _; rw [HE.out]; exact hg.base hb1.size
    clear hg hok hb1 hb2
    go_wp2
    go_ret
    exact ⟨_, rfl, HG.out, hw2⟩
end Pg
end Go.Proofs.Ythabenjodhjgiab
