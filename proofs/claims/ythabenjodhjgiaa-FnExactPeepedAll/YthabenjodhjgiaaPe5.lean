/- Contracts: the specification's PeepAt, Peeps and PeepedAll. -/
import Derived.Test.YthabenjodhjgiaaPe4
import Derived.Test.YthabenjodhjgiaaGl0
import Derived.Maps.AppendAt
namespace Go.Proofs.Ythabenjodhjgiaa
namespace Pg
open Go.ChangeShapes Go.WideShapes Go.ChangeAt Go.RowKit St Wd

theorem irow_blk {w w' : World} {g o : Nat} {l : List Int} (h : IRow w g o l) (hb : w'.heap[g]? = w.heap[g]?) : IRow w' g o l := fun j x hj => (World.cell?_of_block (w := w) (a := ⟨g, o + j, none⟩) hb).trans (h j x hj)
/-- A row of its own that may grow, in another block than g. -/
def GrowN (B g : Nat) (w : World) (v : Value) (l : List Int) : Prop := Grow B w v l ∧ v.ownBlock ≠ some g
set_option maxRecDepth 100000 in
set_option maxHeartbeats 2000000 in
theorem l11Peeps_at (g cap : Nat) (code : List Tx.Ins) (hok : Lay.codeOk code = true) (w : World) (hrow : Row w g 0 code) :
    Calls Try.prog 50 #[.slice (some ⟨g, 0, none⟩) code.length cap] w fun e w' => ∃ v, e = .returned v ∧ Grow w.heap.size w' v (risL (peepB code) 40) ∧ Below w.heap.size w w' := by
  obtain ⟨i0, hif, hz0, hz1, hz2⟩ := info_parts infoN
  have hl40 := (Lay.ok_len hok).2
  have hli : (code.length : Int) ≤ 40 := by omega
  have HR : Hid (Row w g 0 code) := hrow
  have HOK : Hid (Lay.codeOk code = true) := hok
  have HE : Hid (risL (peepB code) 40 = risL (peepB code) code.length) := peep_ris hl40
  have hb0 : Below w.heap.size w (w.alloc (.cells #[] 2)) := (Below.refl _ _).alloc (Nat.le_refl _) _
  have HG0 : Hid (Grow w.heap.size (w.alloc (.cells #[] 2)) (.slice (some ⟨w.heap.size, 0, none⟩) 0 0) []) := grow_start w
  have HSZ : Hid (w.heap.size < (w.alloc (.cells #[] 2)).heap.size) := by show _ < _; simp
  clear hrow hok
  go_enter Try.func50, Try.ntmps50
  go_wp2_with fail
  refine (l9LeadersB g cap code HOK.out _ (HR.out.on hb0)).mono ?_
  rintro e w1 ⟨vl, rfl, hls, hb1⟩
  obtain ⟨gl, cl, rfl, hcl, hglB, hgl, hrl⟩ := hls
  have HRL : Hid (IRow w1 gl 0 (risL (ldB code code.length) 40)) := hrl
  have hw1 : Below w.heap.size w w1 := below_over hb0 hb1
  have HG1 : Hid (GrowN w.heap.size gl w1 (.slice (some ⟨w.heap.size, 0, none⟩) 0 0) (risL (peepB code) 0)) := ⟨HG0.out.on hb1, by
    have := HSZ.out
    show some w.heap.size ≠ some gl
    intro h; injection h with h; omega⟩
  clear hrl hb1 hb0 HG0 HSZ hglB
  go_wp2_with fail
  go_loopw [3, 5] (fun v i wr => ∃ k : Nat, k ≤ code.length ∧ i = .int .i64 k ∧ Hid (GrowN w.heap.size gl wr v (risL (peepB code) k)) ∧ gl < wr.heap.size ∧ Hid (IRow wr gl 0 (risL (ldB code code.length) 40)) ∧ Below w.heap.size w wr) (fun _ i _ => code.length - (intOf i).toNat)
  case atStart => exact ⟨0, Nat.zero_le _, rfl, HG1.out, hgl, HRL.out, hw1⟩
  case round =>
    clear HG1 HRL hw1 hgl
    obtain ⟨k, hk, rfl, hg, hgl, hrl, hb⟩ := hrel
    obtain ⟨ga, ca, rfl⟩ := hg.out.1.form
    by_cases hlt : k < code.length
    · have hki : (k : Int) < (code.length : Int) := by omega
      have HST : Hid (risL (peepB code) (k + 1) = risL (peepB code) k ++ (if peepB code k then [(k : Int)] else [])) := risL_succ _ k
      have HLN : Hid ((risL (peepB code) k).length ≤ k) := risL_len _ k
      go_wp2_with fail
      refine (l11At_at g cap gl cl code HOK.out (k : Int) (by omega) wr (HR.out.on hb) hrl.out).mono ?_
      rw [isPeepB_all]
      rintro e w2 ⟨rfl, hb2⟩
      have hw2 : Below w.heap.size w w2 := below_over hb hb2
      have HGN : Hid (GrowN w.heap.size gl w2 (.slice (some ⟨ga, 0, none⟩) (risL (peepB code) k).length ca) (risL (peepB code) k)) := ⟨hg.out.1.on hb2, hg.out.2⟩
      have HL2 : Hid (IRow w2 gl 0 (risL (ldB code code.length) 40)) := hrl.out.on hb2
      have hgl2 : gl < w2.heap.size := Nat.lt_of_lt_of_le hgl hb2.size
      have HB : Hid (w.heap.size ≤ w2.heap.size) := hw2.size
      clear hg hrl hb hb2 hgl
      cases hp : peepB code k
      · have HG : Hid (GrowN w.heap.size gl w2 (.slice (some ⟨ga, 0, none⟩) (risL (peepB code) k).length ca) (risL (peepB code) (k + 1))) := by show GrowN _ _ _ _ _; rw [HST.out, hp]; simpa using HGN.out
        clear hp HST HGN
        go_wp2
        go_roundw
        case rel => exact ⟨k + 1, by omega, by go_num, HG.out, hgl2, HL2.out, hw2⟩
        case measure => simp [intOf]; omega
      · rw [hp] at HST
        clear hp
        go_wp2_with (at_builtin; refine wpList_append_own_at _ rfl _ _ 37 rfl w.heap.size 2 i0 (.int .i64 0) 1 8 Try.underlying37 hif hz0 hz1 hz2 rfl (by decide) _ _ _ rfl (HGN.out.1.1.alloc _) ⟨w2.heap.size, 0, none⟩ 1 1 [.int .i64 (k : Int)] rfl rfl (cell_one_new _ _ _) (by simp [Value.oneCell']) (by have := HLN.out; unfold maxLen; omega) (by have := HLN.out; omega) (by have := HB.out; simp; omega) ?_)
        intro v1 w3 hown1 hgrow1 hnil1 hat
        have hb3 : Below w.heap.size w w3 := (hw2.alloc hw2.size _).grown hgrow1 (by have := HB.out; simp; omega) (fun q hq => by simp [Value.ownBlock] at hq; subst hq; exact (HGN.out.1.1.lt ga rfl).1)
        have hne : ga ≠ gl := fun h => HGN.out.2 (by rw [h]; rfl)
        have HG : Hid (GrowN w.heap.size gl w3 v1 (risL (peepB code) (k + 1))) := by
          show GrowN _ _ _ _ _
          refine ⟨?_, ?_⟩
          · rw [HST.out]
            exact grow_next hown1 (fun h => hnil1 h)
          · rcases hat with h | h
            · rw [h]; exact HGN.out.2
            · rw [h]
              intro h2
              injection h2 with h2
              have : gl < (w2.alloc (Obj.cells #[.int .i64 (k : Int)] 2)).heap.size := by simp; omega
              omega
        have HL3 : Hid (IRow w3 gl 0 (risL (ldB code code.length) 40)) := by
          refine irow_blk (w := w2.alloc (.cells #[.int .i64 (k : Int)] 2)) (HL2.out.on ((Below.refl _ _).alloc (Nat.le_refl _) _)) ?_
          refine hgrow1.block gl (by simp; omega) ?_
          intro h
          exact hne (by simpa [Value.ownBlock] using h.symm)
        have hgl3 : gl < w3.heap.size := by
          have := hgrow1.size
          simp at this
          omega
        clear hown1 hgrow1 hnil1 hat HGN HST HL2 hw2 HB hgl2
        go_wp2
        go_roundw
        case rel => exact ⟨k + 1, by omega, by go_num, HG.out, hgl3, HL3.out, hb3⟩
        case measure => simp [intOf]; omega
    · obtain rfl : k = code.length := by omega
      have HG : Hid (Grow w.heap.size wr (.slice (some ⟨ga, 0, none⟩) (risL (peepB code) code.length).length ca) (risL (peepB code) 40)) := by show Grow _ _ _ _; rw [HE.out]; exact hg.out.1
      clear hg hrl
      go_wp2
      go_ret
      exact ⟨_, rfl, HG.out, hb⟩
set_option maxRecDepth 100000 in
set_option maxHeartbeats 1000000 in
theorem specPeeps (g cap : Nat) (l : List Tx.Ins) (hl : l.length ≤ 1048576) (w : World) (hr : Row w g 0 l) :
    Calls Try.prog 25 #[.slice (some ⟨g, 0, none⟩) l.length cap] w fun e w' => ∃ x, e = .returned x ∧ Lst w' x (pepsA l) ∧ Below w.heap.size w w' := by
  have HR : Hid (Row w g 0 l) := hr
  clear hr
  go_enter Try.func25, Try.ntmps25
  go_wp2_with fail
  refine (specCodeOk g cap l hl w HR.out).mono ?_
  rintro e w1 ⟨rfl, hb1⟩
  cases hok : Lay.codeOk l
  · have HE : Hid (pepsA l = []) := by show _ = _; simp [pepsA, hok]
    clear hok
    go_wp2
    go_ret
    exact ⟨_, rfl, by rw [HE.out]; exact (grow_start w1).lst, hb1.alloc hb1.size _⟩
  · have HE : Hid (pepsA l = risL (peepB l) 40) := by show _ = _; simp [pepsA, hok]
    go_wp2_with fail
    refine (l11Peeps_at g cap l hok w1 (HR.out.on hb1)).mono ?_
    rintro e w2 ⟨v, rfl, hg, hb2⟩
    have hw2 : Below w.heap.size w w2 := below_over hb1 hb2
    have HG : Hid (Lst w2 v (pepsA l)) := by show Lst _ _ _; rw [HE.out]; exact hg.lst
    clear hb1 hb2 hg hok
    go_wp2
    go_ret
    exact ⟨_, rfl, HG.out, hw2⟩
set_option maxRecDepth 100000 in
set_option maxHeartbeats 1000000 in
theorem specPeepAt (g cap : Nat) (l : List Tx.Ins) (n : Int) (hl : l.length ≤ 1048576) (w : World) (hr : Row w g 0 l) :
    Calls Try.prog 23 #[.slice (some ⟨g, 0, none⟩) l.length cap, .int .i64 n] w fun e w' => ∃ x, e = .returned (.tuple #[x, .bool (patB l n)]) ∧ Got w.heap.size w' x (patA l n) ∧ Below w.heap.size w w' := by
  have HR : Hid (Row w g 0 l) := hr
  clear hr
  go_enter Try.func23, Try.ntmps23
  go_wp2_with fail
  refine (specCodeOk g cap l hl w HR.out).mono ?_
  rintro e w1 ⟨rfl, hb1⟩
  cases hok : Lay.codeOk l
  · have HE : Hid (patA l n = []) := by show _ = _; simp [patA, hok]
    have HB : Hid (patB l n = false) := by show _ = _; simp [patB, hok]
    clear hok
    go_wp2
    go_ret2
    exact ⟨_, by rw [HB.out]; rfl, by rw [HE.out]; exact got_nil w1 _ hb1.size _, hb1.alloc hb1.size _⟩
  · have HE : Hid (patA l n = if isPeepB l n then peepAt l n.toNat else l) := by show _ = _; simp [patA, hok]
    have HB : Hid (patB l n = isPeepB l n) := by show _ = _; simp [patB, hok]
    have HOK : Hid (Lay.codeOk l = true) := hok
    have hl40 := (Lay.ok_len hok).2
    have HRA : Hid (Row (w1.alloc (.cells #[] 43)) g 0 l) := (HR.out.on hb1).on ((Below.refl _ _).alloc (Nat.le_refl _) _)
    clear hok
    go_wp2_with (at_builtin; refine wpList_growC rfl _ _ rfl w1.heap.size _ [] rfl (growC_nil w1) (by simp) g 0 cap l rfl HRA.out (by simp; omega) ?_)
    intro v w2 hown hgrow hb
    have hw2 : Below w.heap.size w w2 := below_over hb1 (((Below.refl _ _).alloc (Nat.le_refl _) _).trans hb)
    have hown' : GrowC w1.heap.size w2 v l := by simpa using hown
    obtain ⟨gv, cv, rfl, hcv⟩ := hown'.form2
    have HV : Hid (GrowC w.heap.size w2 (.slice (some ⟨gv, 0, none⟩) l.length cv) l) := hown'.base hb1.size
    clear hown hgrow hb hown' HRA hb1 hcv
    by_cases hbig : n > 40
    · have hp : isPeepB l n = false := isPeepB_no (by omega)
      have HE2 : Hid (patA l n = l) := by show _ = _; rw [HE.out, hp]; rfl
      have HB2 : Hid (patB l n = false) := by show _ = _; rw [HB.out, hp]
      have HG : Hid (Got w.heap.size w2 (.slice (some ⟨gv, 0, none⟩) l.length cv) (patA l n)) := by show Got _ _ _ _; rw [HE2.out]; exact HV.out.got
      have hd : decide (n > 40) = true := by simpa using hbig
      clear hp HE HB HV HE2
      go_wp2
      go_ret2
      exact ⟨_, by rw [HB2.out]; rfl, HG.out, hw2⟩
    · have hd : decide (n > 40) = false := by simpa using hbig
      go_wp2_with fail
      refine (l9LeadersB g cap l HOK.out w2 (HR.out.on hw2)).mono ?_
      rintro e w3 ⟨vl, rfl, hls, hb3⟩
      obtain ⟨gl, cl, rfl, hcl, hglB, hgl, hrl⟩ := hls
      have HRL : Hid (IRow w3 gl 0 (risL (ldB l l.length) 40)) := hrl
      have hw3 : Below w.heap.size w w3 := below_over hw2 hb3
      have HV3 : Hid (GrowC w.heap.size w3 (.slice (some ⟨gv, 0, none⟩) l.length cv) l) := HV.out.on hb3
      clear hb3 hw2 HV hrl
      go_wp2_with fail
      refine (l11At_at g cap gl cl l HOK.out n (by omega) w3 (HR.out.on hw3) HRL.out).mono ?_
      rintro e w4 ⟨rfl, hb4⟩
      have hw4 : Below w.heap.size w w4 := below_over hw3 hb4
      have HV4 : Hid (GrowC w.heap.size w4 (.slice (some ⟨gv, 0, none⟩) l.length cv) l) := HV3.out.on hb4
      clear hb4 hw3 HV3 HRL
      cases hp : isPeepB l n
      · have HE2 : Hid (patA l n = l) := by show _ = _; rw [HE.out, hp]; rfl
        have HB2 : Hid (patB l n = false) := by show _ = _; rw [HB.out, hp]
        have HG : Hid (Got w.heap.size w4 (.slice (some ⟨gv, 0, none⟩) l.length cv) (patA l n)) := by show Got _ _ _ _; rw [HE2.out]; exact HV4.out.got
        clear hp HV4 HE HB
        go_wp2
        go_ret2
        exact ⟨_, by rw [HB2.out]; rfl, HG.out, hw4⟩
      · have HE2 : Hid (patA l n = peepAt l n.toNat) := by show _ = _; rw [HE.out, hp]; rfl
        have HB2 : Hid (patB l n = true) := by show _ = _; rw [HB.out, hp]
        obtain ⟨k, rfl, h2⟩ : ∃ k : Nat, n = (k : Int) ∧ k + 2 < l.length := by
          unfold isPeepB at hp
          simp only [Bool.and_eq_true, decide_eq_true_eq] at hp
          exact ⟨n.toNat, by omega, by omega⟩
        obtain ⟨g', c', he, hg1, hg2, hgr, hgm⟩ := HV4.out.got
        obtain ⟨rfl, rfl⟩ : gv = g' ∧ cv = c' := by simpa using he
        have HGR : Hid (Row w4 gv 0 l) := hgr
        have HGM : Hid (Room w4 gv (l.length * 3)) := hgm
        clear hgr hgm he HV4 hp HE HB
        go_wp2_with fail
        refine (l11Do_at gv cv k l h2 (by omega) w4 hg2 HGR.out HGM.out).mono ?_
        rintro e w5 ⟨rfl, hL⟩
        have hw5 : Below w.heap.size w w5 := hw4.trans (hL.2.2.2 _ hg1 hw4.size)
        have HG : Hid (Got w.heap.size w5 (.slice (some ⟨gv, 0, none⟩) l.length cv) (patA l (k : Int))) := by
          show Got _ _ _ _
          rw [HE2.out, Int.toNat_natCast]
          exact ⟨gv, cv, by rw [peepAt_len], hg1, hL.2.2.1, hL.1, by rw [peepAt_len]; exact hL.2.1⟩
        clear hL HGR HGM HE2
        go_wp2
        go_ret2
        exact ⟨_, by rw [HB2.out]; rfl, HG.out, hw5⟩
set_option maxRecDepth 100000 in
set_option maxHeartbeats 1000000 in
theorem l11All_at (g cap : Nat) (l : List Tx.Ins) (hok : Lay.codeOk l = true) (w : World) (hr : Row w g 0 l) :
    Calls Try.prog 53 #[.slice (some ⟨g, 0, none⟩) l.length cap] w fun e w' => ∃ x, e = .returned x ∧ Got w.heap.size w' x (pepF l) ∧ Below w.heap.size w w' := by
  have hl40 := (Lay.ok_len hok).2
  have HOK : Hid (Lay.codeOk l = true) := hok
  have HRA : Hid (Row (w.alloc (.cells #[] 43)) g 0 l) := hr.on ((Below.refl _ _).alloc (Nat.le_refl _) _)
  clear hok hr
  go_enter Try.func53, Try.ntmps53
  go_wp2_with (at_builtin; refine wpList_growC rfl _ _ rfl w.heap.size _ [] rfl (growC_nil w) (by simp) g 0 cap l rfl HRA.out (by simp; omega) ?_)
  intro v w2 hown hgrow hb
  have hw2 : Below w.heap.size w w2 := ((Below.refl _ _).alloc (Nat.le_refl _) _).trans hb
  have hown' : GrowC w.heap.size w2 v l := by simpa using hown
  obtain ⟨gv, cv, rfl, hcv⟩ := hown'.form2
  have HV : Hid (Got w.heap.size w2 (.slice (some ⟨gv, 0, none⟩) l.length cv) l) := hown'.got
  clear hown hgrow hb hown' HRA hcv
  go_wp2
  go_loopg [] 40 (fun m wr => ∃ c : List Tx.Ins, Hid (Got w.heap.size wr (.slice (some ⟨gv, 0, none⟩) l.length cv) c) ∧ Hid (Lay.codeOk c = true) ∧ Hid (busyN c ≤ m) ∧ Hid (c.length = l.length) ∧ Hid (pepF l = pepF c) ∧ Below w.heap.size w wr)
  case atStart => exact ⟨l, HV.out, HOK.out, by show _ ≤ _; have := busyN_len l; omega, rfl, rfl, hw2⟩
  case round =>
    clear HV HOK hw2
    obtain ⟨c, hG, hok, hB, hcl, hF, hb⟩ := hrel
    obtain ⟨g', c', he, q1, q2, q3, q4⟩ := hG.out
    obtain ⟨rfl, rfl⟩ : gv = g' ∧ cv = c' := by
      have := he; simp at this; exact ⟨this.1, this.2.2⟩
    have HRc : Hid (Row wr gv 0 c) := q3
    have HMc : Hid (Room wr gv (c.length * 3)) := q4
    clear q3 q4 he hG
    have hpc := l11Peeps_at gv cv c hok.out wr HRc.out
    rw [hcl.out] at hpc
    go_wp2_with fail
    refine hpc.mono ?_
    clear hpc
    rintro e w4 ⟨v, rfl, hg, hb4⟩
    obtain ⟨gp, cp, rfl⟩ := hg.form
    have hw4 : Below w.heap.size w w4 := below_over hb hb4
    have HR4 : Hid (Row w4 gv 0 c) := HRc.out.on hb4
    have HM4 : Hid (Room w4 gv (c.length * 3)) := HMc.out.on hb4
    have hg4 : gv < w4.heap.size := Nat.lt_of_lt_of_le q2 hb4.size
    have HGP : Hid (Grow wr.heap.size w4 (.slice (some ⟨gp, 0, none⟩) (risL (peepB c) 40).length cp) (risL (peepB c) 40)) := hg
    clear hb4 HRc HMc hb hg q2
    cases hris : risL (peepB c) 40 with
    | nil =>
      have HG : Hid (Got w.heap.size w4 (.slice (some ⟨gv, 0, none⟩) l.length cv) (pepF l)) := by
        show Got _ _ _ _
        rw [hF.out, pepF_end hris]
        exact ⟨gv, cv, by rw [hcl.out], q1, hg4, HR4.out, HM4.out⟩
      clear hris HGP HR4 HM4
      rw [List.length_nil]
      go_wp2
      go_ret
      exact ⟨_, rfl, HG.out, hw4⟩
    | cons x r =>
      rw [hris] at HGP
      obtain ⟨k, rfl, _, hk⟩ := ris_first hris
      obtain ⟨g2, c2, he2, _, _, hir, _⟩ := HGP.out.gint
      obtain ⟨rfl, rfl⟩ : gp = g2 ∧ cp = c2 := by simpa using he2
      have c0 := hir 0 (k : Int) rfl
      rw [Nat.zero_add] at c0
      have h2 := peepB_lt hk
      have HF2 : Hid (pepF l = pepF (peepAt c k)) := by show _ = _; rw [hF.out, pepF_step hris]
      have HOK2 : Hid (Lay.codeOk (peepAt c k) = true) := peepAt_ok hok.out h2
      have hbz : busyN (peepAt c k) < gk := Nat.lt_of_lt_of_le (peepAt_busy hk) hB.out
      have hlo := l11Do_at gv cv k c h2 (by rw [hcl.out]; omega) w4 hg4 HR4.out HM4.out
      rw [hcl.out] at hlo
      have hlen0 : ((((k : Int) :: r).length : Nat) : Int) = (r.length : Int) + 1 := by simp
      have hlen1 : ¬ ((r.length : Int) + 1 = 0) := by omega
      have hlen2 : (0 : Int) < (r.length : Int) + 1 := by omega
      clear hir he2 hris hk HGP hF hB
      go_wp2_with fail
      refine hlo.mono ?_
      clear hlo
      rintro e w5 ⟨rfl, hL⟩
      have hw5 : Below w.heap.size w w5 := hw4.trans (hL.2.2.2 _ q1 hw4.size)
      have HG : Hid (Got w.heap.size w5 (.slice (some ⟨gv, 0, none⟩) l.length cv) (peepAt c k)) := ⟨gv, cv, by rw [peepAt_len, hcl.out], q1, hL.2.2.1, hL.1, by rw [peepAt_len]; exact hL.2.1⟩
      have HCL2 : Hid ((peepAt c k).length = l.length) := by show _ = _; rw [peepAt_len]; exact hcl.out
      clear hL HR4 HM4 hcl
      go_wp2
      go_roundg (busyN (peepAt c k))
      case rel => exact ⟨peepAt c k, HG.out, HOK2.out, Nat.le_refl _, HCL2.out, HF2.out, hw5⟩
      case measure => exact hbz
set_option maxRecDepth 100000 in
set_option maxHeartbeats 1000000 in
theorem specPeepedAll (g cap : Nat) (l : List Tx.Ins) (hl : l.length ≤ 1048576) (w : World) (hr : Row w g 0 l) :
    Calls Try.prog 30 #[.slice (some ⟨g, 0, none⟩) l.length cap] w fun e w' => ∃ x, e = .returned x ∧ Got w.heap.size w' x (palA l) ∧ Below w.heap.size w w' := by
  have HR : Hid (Row w g 0 l) := hr
  clear hr
  go_enter Try.func30, Try.ntmps30
  go_wp2_with fail
  refine (specCodeOk g cap l hl w HR.out).mono ?_
  rintro e w1 ⟨rfl, hb1⟩
  cases hok : Lay.codeOk l
  · have HE : Hid (palA l = []) := by show _ = _; simp [palA, hok]
    clear hok
    go_wp2
    go_ret
    exact ⟨_, rfl, by rw [HE.out]; exact got_nil w1 _ hb1.size _, hb1.alloc hb1.size _⟩
  · have HE : Hid (palA l = pepF l) := by show _ = _; simp [palA, hok]
    go_wp2_with fail
    refine (l11All_at g cap l hok w1 (HR.out.on hb1)).mono ?_
    rintro e w2 ⟨v, rfl, hg, hb2⟩
    have hw2 : Below w.heap.size w w2 := below_over hb1 hb2
    have HG : Hid (Got w.heap.size w2 v (palA l)) := by show Got _ _ _ _; rw [HE.out]; exact hg.base hb1.size
    clear hg hok hb1 hb2
    go_wp2
    go_ret
    exact ⟨_, rfl, HG.out, hw2⟩
end Pg
end Go.Proofs.Ythabenjodhjgiaa
