/- Contracts: what is threaded, both sides. -/
import Derived.Test.YtlbjnlkeagmpoaaTh6
namespace Go.Proofs.Ytlbjnlkeagmpoaa
namespace Pg
open Go.ChangeShapes Go.WideShapes Go.ChangeAt Go.RowKit St

/-- A step, its jump to where one ends up. -/
def thrI (code : List Tx.Ins) (k : Nat) : Tx.Ins :=
  if Lay.jumpB (insF code k).1 then (if (insF code k).1 = 12 ∧ endF code (insF code k).2.1.toNat = k + 1 then (9, 0, 0) else ((insF code k).1, (endF code (insF code k).2.1.toNat : Int), (insF code k).2.2)) else insF code k
def mixT (code : List Tx.Ins) (k : Nat) : List Tx.Ins := (List.range code.length).map fun j => if j < k then thrI code j else insF code j
def thrF (code : List Tx.Ins) : List Tx.Ins := (List.range code.length).map (thrI code)
def thrA (l : List Tx.Ins) : List Tx.Ins := if Lay.codeOk l then thrF l else []
theorem mixT_len (code : List Tx.Ins) (k : Nat) : (mixT code k).length = code.length := by simp [mixT]
theorem thrF_len (code : List Tx.Ins) : (thrF code).length = code.length := by simp [thrF]
theorem thrA_len (l : List Tx.Ins) : (thrA l).length ≤ 41 := by
  unfold thrA
  split
  · rename_i h
    rw [thrF_len]; have := (Lay.ok_len h).2; omega
  · simp
theorem mixT_zero (code : List Tx.Ins) : mixT code 0 = code := by
  refine List.ext_getElem? fun j => ?_
  by_cases h : j < code.length
  · rw [ins_is h]; simp [mixT, h]
  · rw [List.getElem?_eq_none (by rw [mixT_len]; omega), List.getElem?_eq_none (by omega)]
theorem mixT_all (code : List Tx.Ins) : mixT code code.length = thrF code := by
  unfold mixT thrF
  refine List.map_congr_left fun j hj => ?_
  rw [if_pos (List.mem_range.1 hj)]
theorem mixT_at {code : List Tx.Ins} {k : Nat} (hk : k < code.length) : (mixT code k)[k]? = some (insF code k) := by simp [mixT, hk]
theorem mixT_succ {code : List Tx.Ins} {k : Nat} (hk : k < code.length) : mixT code (k + 1) = (mixT code k).set k (thrI code k) := by
  refine List.ext_getElem? fun j => ?_
  rw [List.getElem?_set]
  by_cases e : k = j
  · subst e
    rw [if_pos rfl, if_pos (by rw [mixT_len]; exact hk)]
    simp [mixT, hk]
  · rw [if_neg e]
    by_cases h : j < code.length
    · simp only [mixT, List.getElem?_map, List.getElem?_range h, Option.map_some]
      have : (j < k + 1) = (j < k) := by apply propext; omega
      simp only [this]
    · rw [List.getElem?_eq_none (by rw [mixT_len]; omega), List.getElem?_eq_none (by rw [mixT_len]; omega)]
theorem mixT_same {code : List Tx.Ins} {k : Nat} (hk : k < code.length) (h : Lay.jumpB (insF code k).1 = false) : mixT code (k + 1) = mixT code k := by
  rw [mixT_succ hk]
  have : thrI code k = insF code k := by unfold thrI; rw [h]; rfl
  rw [this]
  refine List.ext_getElem? fun j => ?_
  rw [List.getElem?_set]
  by_cases e : k = j
  · subst e
    rw [if_pos rfl, if_pos (by rw [mixT_len]; exact hk), mixT_at hk]
  · rw [if_neg e]
theorem set_set {α : Type} (l : List α) (k : Nat) (x y : α) : (l.set k x).set k y = l.set k y := by simp

set_option maxRecDepth 100000 in
set_option maxHeartbeats 4000000 in
theorem threadedIn_at (g yc : Nat) (code : List Tx.Ins) (hok : Lay.codeOk code = true) (w : World) (hrow : Row w g 0 code) :
    Calls Try.prog 35 #[.slice (some ⟨g, 0, none⟩) code.length yc] w fun e w' => ∃ x, e = .returned x ∧ Got w.heap.size w' x (thrF code) ∧ Below w.heap.size w w' := by
  have hl40 := (Lay.ok_len hok).2
  have HOK : Hid (Lay.codeOk code = true) := hok
  have HR : Hid (Row w g 0 code) := hrow
  clear hok hrow
  go_enter Try.func35, Try.ntmps35
  go_wp2_with fail
  refine (cloneC g yc code (by omega) w HR.out).mono ?_
  rintro e w2 ⟨v, rfl, hv, hw2⟩
  obtain ⟨gv, cv, rfl, hcv⟩ := hv.form2
  obtain ⟨g', c', he, hg1, hg2, hgr, hgm⟩ := hv.got
  obtain ⟨rfl, rfl⟩ : gv = g' ∧ cv = c' := by simpa using he
  have HGR : Hid (Row w2 gv 0 code) := hgr
  have HGM : Hid (Room w2 gv (code.length * 3)) := hgm
  clear hv hcv he hgr hgm
  go_wp2
  go_loopw [10] (fun i wr => ∃ k : Nat, k ≤ code.length ∧ i = .int .i64 k ∧ Hid (Row wr gv 0 (mixT code k)) ∧ Hid (Room wr gv (code.length * 3)) ∧ gv < wr.heap.size ∧ Below w.heap.size w wr) (fun i _ => code.length - (intOf i).toNat)
  case atStart => exact ⟨0, Nat.zero_le _, rfl, by show Row _ _ _ _; rw [mixT_zero]; exact HGR.out, HGM.out, hg2, hw2⟩
  case round =>
    clear HGR HGM hg2 hw2
    obtain ⟨k, hk, rfl, hrw, hrm, hgw, hb⟩ := hrel
    by_cases hlt : k < code.length
    · have hki : (k : Int) < (code.length : Int) := by omega
      obtain ⟨d0, d1, d2⟩ := (HR.out.on hb) k _ (ins_is hlt)
      have HSA : Hid (Lay.jumpB (insF code k).1 = false → mixT code (k + 1) = mixT code k) := mixT_same hlt
      have HST : Hid (mixT code (k + 1) = (mixT code k).set k (thrI code k)) := mixT_succ hlt
      have HAT : Hid ((mixT code k)[k]? = some (insF code k)) := mixT_at hlt
      have HTI : Hid (thrI code k = if Lay.jumpB (insF code k).1 then (if (insF code k).1 = 12 ∧ endF code (insF code k).2.1.toNat = k + 1 then (9, 0, 0) else ((insF code k).1, (endF code (insF code k).2.1.toNat : Int), (insF code k).2.2)) else insF code k) := rfl
      have HJI : Hid ((insF code k).1 = 11 ∨ (insF code k).1 = 12 → 0 ≤ (insF code k).2.1 ∧ (insF code k).2.1 < (code.length : Int)) := jump_in HOK.out hlt
      generalize insF code k = ins at *
      obtain ⟨op, A, b⟩ := ins
      dsimp only at d0 d1 d2 HSA HTI HJI
      simp only [Nat.zero_add] at d0 d1 d2
      obtain ⟨X0, hX0⟩ : ∃ X0, X0 = wr.alloc (.cells #[.int .i64 op, .int .i64 A, .int .i64 b] 38) := ⟨_, rfl⟩
      have hb0 : Below wr.heap.size wr X0 := by rw [hX0]; exact (Below.refl _ _).alloc (Nat.le_refl _) _
      have F0 : Hid (Cells X0 wr.heap.size [.int .i64 op, .int .i64 A, .int .i64 b]) := by show Cells _ _ _; rw [hX0]; exact Cells.new wr _ rfl _ _
      have HX0 : Hid (X0 = wr.alloc (.cells #[.int .i64 op, .int .i64 A, .int .i64 b] 38)) := hX0
      clear hX0
      go_wp2_with fail
      rw [← HX0.out]
      refine (isJump op A b X0).mono ?_
      rintro e w5 ⟨rfl, hb5⟩
      have hw5 : Below wr.heap.size wr w5 := below_over hb0 hb5
      have F5 : Hid (Cells w5 wr.heap.size [.int .i64 op, .int .i64 A, .int .i64 b]) := F0.out.on hb5
      have R5 : Hid (Row w5 gv 0 (mixT code k)) := hrw.out.on hw5
      have M5 : Hid (Room w5 gv (code.length * 3)) := hrm.out.on hw5
      have hgw5 : gv < w5.heap.size := Nat.lt_of_lt_of_le hgw hw5.size
      have hbw : Below w.heap.size w w5 := below_over hb hw5
      have hne : wr.heap.size ≠ gv := by omega
      have hbl : w.heap.size ≤ wr.heap.size := hb.size
      clear hb0 hb5 F0 HX0 d0 d1 d2 hrw hrm hb hw5
      rcases jump_cases op with ⟨rfl, hjb⟩ | ⟨rfl, hjb⟩ | ⟨h11, h12, hjb⟩
      · obtain ⟨hA0, hA1⟩ := HJI.out (.inl rfl)
        obtain ⟨a, rfl⟩ := Int.eq_ofNat_of_zero_le hA0
        have ha : a < code.length := by omega
        rw [hjb]
        rw [hjb, if_pos rfl, Int.toNat_natCast] at HTI
        obtain ⟨f1, _⟩ := F5.out.g1
        clear hjb HSA HJI hA0
        go_wp2_with fail
        refine (endIn_at g yc code HOK.out a ha w5 (HR.out.on hbw)).mono ?_
        rintro e w6 ⟨rfl, hb6⟩
        generalize hen : endF code a = en at *
        have hen40 : en < code.length := by rw [← hen]; exact endF_lt HOK.out ha
        have R6 := R5.out.on hb6
        have M6 := M5.out.on hb6
        obtain ⟨⟨x1, s1⟩, z1⟩ := M6 (k * 3 + 1) (by omega)
        have hO : Only gv w6 (w6.setCell ⟨gv, k * 3 + 1, none⟩ (.int .i64 (en : Int))) := (Only.refl _ _).set _ _
        have R7 : Hid (Row (w6.setCell ⟨gv, k * 3 + 1, none⟩ (.int .i64 (en : Int))) gv 0 ((mixT code k).set k (11, (en : Int), b))) := row_setA R6 HAT.out _
        have M7 : Hid (Room (w6.setCell ⟨gv, k * 3 + 1, none⟩ (.int .i64 (en : Int))) gv (code.length * 3)) := room_setC M6 _ _
        have F7 : Hid (Cells (w6.setCell ⟨gv, k * 3 + 1, none⟩ (.int .i64 (en : Int))) wr.heap.size [.int .i64 11, .int .i64 (a : Int), .int .i64 b]) := (F5.out.on hb6).only hO hne
        have hb7 : Below w.heap.size w (w6.setCell ⟨gv, k * 3 + 1, none⟩ (.int .i64 (en : Int))) := (below_over hbw hb6).setCell hg1 _
        have hgw7 : gv < (w6.setCell ⟨gv, k * 3 + 1, none⟩ (.int .i64 (en : Int))).heap.size := by have := hb6.size; simp; omega
        clear hen R6 M6 R5 M5 F5 f1 hO hbw hb6 hgw5
        go_upto_region 7 with fail
        generalize w6.setCell ⟨gv, k * 3 + 1, none⟩ (.int .i64 (en : Int)) = w7 at *
        clear s1 z1
        obtain ⟨f0, _⟩ := F7.out.g0
        have HRK : Hid (Row w7 gv 0 (mixT code (k + 1))) := by show Row _ _ _ _; rw [HST.out, HTI.out, if_neg (by simp)]; exact R7.out
        clear R7 HST HAT HTI F7
        go_wp2
        go_roundw
        case rel => exact ⟨k + 1, by omega, by go_num, HRK.out, M7.out, hgw7, hb7⟩
        case measure => simp [intOf]; omega
      · obtain ⟨hA0, hA1⟩ := HJI.out (.inr rfl)
        obtain ⟨a, rfl⟩ := Int.eq_ofNat_of_zero_le hA0
        have ha : a < code.length := by omega
        rw [hjb]
        rw [hjb, if_pos rfl, Int.toNat_natCast] at HTI
        obtain ⟨f1, _⟩ := F5.out.g1
        clear hjb HSA HJI hA0
        go_wp2_with fail
        refine (endIn_at g yc code HOK.out a ha w5 (HR.out.on hbw)).mono ?_
        rintro e w6 ⟨rfl, hb6⟩
        generalize hen : endF code a = en at *
        have hen40 : en < code.length := by rw [← hen]; exact endF_lt HOK.out ha
        have R6 := R5.out.on hb6
        have M6 := M5.out.on hb6
        obtain ⟨⟨x1, s1⟩, z1⟩ := M6 (k * 3 + 1) (by omega)
        have hO : Only gv w6 (w6.setCell ⟨gv, k * 3 + 1, none⟩ (.int .i64 (en : Int))) := (Only.refl _ _).set _ _
        have R7 : Hid (Row (w6.setCell ⟨gv, k * 3 + 1, none⟩ (.int .i64 (en : Int))) gv 0 ((mixT code k).set k (12, (en : Int), b))) := row_setA R6 HAT.out _
        have M7 : Hid (Room (w6.setCell ⟨gv, k * 3 + 1, none⟩ (.int .i64 (en : Int))) gv (code.length * 3)) := room_setC M6 _ _
        have F7 : Hid (Cells (w6.setCell ⟨gv, k * 3 + 1, none⟩ (.int .i64 (en : Int))) wr.heap.size [.int .i64 12, .int .i64 (a : Int), .int .i64 b]) := (F5.out.on hb6).only hO hne
        have hb7 : Below w.heap.size w (w6.setCell ⟨gv, k * 3 + 1, none⟩ (.int .i64 (en : Int))) := (below_over hbw hb6).setCell hg1 _
        have hgw7 : gv < (w6.setCell ⟨gv, k * 3 + 1, none⟩ (.int .i64 (en : Int))).heap.size := by have := hb6.size; simp; omega
        clear hen R6 M6 R5 M5 F5 f1 hO hbw hb6 hgw5
        go_upto_region 7 with fail
        generalize w6.setCell ⟨gv, k * 3 + 1, none⟩ (.int .i64 (en : Int)) = w7 at *
        clear s1 z1
        obtain ⟨f0, _⟩ := F7.out.g0
        obtain ⟨r0, r1, r2⟩ := R7.out k (12, (en : Int), b) (by rw [List.getElem?_set, if_pos rfl, if_pos (by rw [mixT_len]; exact hlt)])
        simp only [Nat.zero_add] at r0 r1 r2
        clear F7
        go_wp2_with fail
        refine (goesToNext_at 12 (en : Int) b k (by omega) w7).mono ?_
        rintro e w8 ⟨rfl, hb8⟩
        have R8 := R7.out.on hb8
        have M8 := M7.out.on hb8
        have hgw8 : gv < w8.heap.size := Nat.lt_of_lt_of_le hgw7 hb8.size
        have hw8 : Below w.heap.size w w8 := below_over hb7 hb8
        clear R7 M7 hb7 hb8 r0 r1 r2 f0 hgw7
        by_cases hnx : (en : Int) = (k : Int) + 1
        · have hdd : decide ((en : Int) = (k : Int) + 1) = true := by simp [hnx]
          rw [hdd]
          obtain ⟨⟨x0, s0⟩, z0⟩ := M8 (k * 3) (by omega)
          obtain ⟨⟨x1, s1⟩, z1⟩ := M8 (k * 3 + 1) (by omega)
          obtain ⟨⟨x2, s2⟩, z2⟩ := M8 (k * 3 + 2) (by omega)
          obtain ⟨q1, q2, q3⟩ := set_oneD (k := k) (by rw [List.length_set, mixT_len]) M8 R8 hw8 hg1 (9, 0, 0)
          have Q1 : Hid (Row (((w8.setCell ⟨gv, k * 3, none⟩ (.int .i64 9)).setCell ⟨gv, k * 3 + 1, none⟩ (.int .i64 0)).setCell ⟨gv, k * 3 + 2, none⟩ (.int .i64 0)) gv 0 (mixT code (k + 1))) := by
            show Row _ _ _ _
            rw [HST.out, HTI.out, if_pos ⟨trivial, by omega⟩]
            rw [set_set] at q1
            exact q1
          have Q2 : Hid (Room (((w8.setCell ⟨gv, k * 3, none⟩ (.int .i64 9)).setCell ⟨gv, k * 3 + 1, none⟩ (.int .i64 0)).setCell ⟨gv, k * 3 + 2, none⟩ (.int .i64 0)) gv (code.length * 3)) := q2
          have Q3 : Below w.heap.size w (((w8.setCell ⟨gv, k * 3, none⟩ (.int .i64 9)).setCell ⟨gv, k * 3 + 1, none⟩ (.int .i64 0)).setCell ⟨gv, k * 3 + 2, none⟩ (.int .i64 0)) := q3
          clear q1 q2 q3 R8 M8 hw8 HST HAT HTI hnx hdd
          go_wp2
          go_roundw
          case rel => exact ⟨k + 1, by omega, by go_num, Q1.out, Q2.out, by simpa using hgw8, Q3⟩
          case measure => simp [intOf]; omega
        · have hdd : decide ((en : Int) = (k : Int) + 1) = false := by simp [hnx]
          rw [hdd]
          have HRK : Hid (Row w8 gv 0 (mixT code (k + 1))) := by show Row _ _ _ _; rw [HST.out, HTI.out, if_neg (by omega)]; exact R8
          have HM8 : Hid (Room w8 gv (code.length * 3)) := M8
          clear R8 M8 HST HAT HTI hnx hdd
          go_wp2
          go_roundw
          case rel => exact ⟨k + 1, by omega, by go_num, HRK.out, HM8.out, hgw8, hw8⟩
          case measure => simp [intOf]; omega
      · rw [hjb]
        have HRK : Hid (Row w5 gv 0 (mixT code (k + 1))) := by show Row _ _ _ _; rw [HSA.out hjb]; exact R5.out
        obtain ⟨f0, _⟩ := F5.out.g0
        have hb12 : (op == 12) = false := by simp [h12]
        clear R5 HSA HST HAT HTI HJI hjb F5 h11 h12
        go_wp2
        go_roundw
        case rel => exact ⟨k + 1, by omega, by go_num, HRK.out, M5.out, hgw5, hbw⟩
        case measure => simp [intOf]; omega
    · obtain rfl : k = code.length := by omega
      have HG : Hid (Got w.heap.size wr (.slice (some ⟨gv, 0, none⟩) code.length cv) (thrF code)) := by
        show Got _ _ _ _
        rw [mixT_all] at hrw
        exact ⟨gv, cv, by rw [thrF_len], hg1, hgw, hrw.out, by rw [thrF_len]; exact hrm.out⟩
      clear hrw hrm
      go_wp2
      go_ret
      exact ⟨_, rfl, HG.out, hb⟩
set_option maxRecDepth 100000 in
set_option maxHeartbeats 4000000 in
theorem l12Threaded_at (g yc : Nat) (code : List Tx.Ins) (hok : Lay.codeOk code = true) (w : World) (hrow : Row w g 0 code) :
    Calls Try.prog 34 #[.slice (some ⟨g, 0, none⟩) code.length yc] w fun e w' => ∃ x, e = .returned x ∧ Got w.heap.size w' x (thrF code) ∧ Below w.heap.size w w' := by
  have hl40 := (Lay.ok_len hok).2
  have HOK : Hid (Lay.codeOk code = true) := hok
  have HR : Hid (Row w g 0 code) := hrow
  have HRA : Hid (Row (w.alloc (.cells #[] 38)) g 0 code) := hrow.on ((Below.refl _ _).alloc (Nat.le_refl _) _)
  clear hok hrow
  go_enter Try.func34, Try.ntmps34
  go_wp2_with (at_builtin; refine wpList_growC rfl _ _ rfl w.heap.size _ [] rfl (growC_nil w) (by simp) g 0 yc code rfl HRA.out (by simp; omega) ?_)
  intro v w2 hown hgrow hb
  have hw2 : Below w.heap.size w w2 := ((Below.refl _ _).alloc (Nat.le_refl _) _).trans hb
  have hown' : GrowC w.heap.size w2 v code := by simpa using hown
  obtain ⟨gv, cv, rfl, hcv⟩ := hown'.form2
  obtain ⟨g', c', he, hg1, hg2, hgr, hgm⟩ := hown'.got
  obtain ⟨rfl, rfl⟩ : gv = g' ∧ cv = c' := by simpa using he
  have HGR : Hid (Row w2 gv 0 code) := hgr
  have HGM : Hid (Room w2 gv (code.length * 3)) := hgm
  clear hown hgrow hb hown' HRA hcv he hgr hgm
  go_wp2
  go_loopw [4] (fun i wr => ∃ k : Nat, k ≤ code.length ∧ i = .int .i64 k ∧ Hid (Row wr gv 0 (mixT code k)) ∧ Hid (Room wr gv (code.length * 3)) ∧ gv < wr.heap.size ∧ Below w.heap.size w wr) (fun i _ => code.length - (intOf i).toNat)
  case atStart => exact ⟨0, Nat.zero_le _, rfl, by show Row _ _ _ _; rw [mixT_zero]; exact HGR.out, HGM.out, hg2, hw2⟩
  case round =>
    clear HGR HGM hg2 hw2
    obtain ⟨k, hk, rfl, R5, M5, hgw, hbw⟩ := hrel
    by_cases hlt : k < code.length
    · have hki : (k : Int) < (code.length : Int) := by omega
      obtain ⟨d0, d1, d2⟩ := (HR.out.on hbw) k _ (ins_is hlt)
      have HSA : Hid (Lay.jumpB (insF code k).1 = false → mixT code (k + 1) = mixT code k) := mixT_same hlt
      have HST : Hid (mixT code (k + 1) = (mixT code k).set k (thrI code k)) := mixT_succ hlt
      have HAT : Hid ((mixT code k)[k]? = some (insF code k)) := mixT_at hlt
      have HTI : Hid (thrI code k = if Lay.jumpB (insF code k).1 then (if (insF code k).1 = 12 ∧ endF code (insF code k).2.1.toNat = k + 1 then (9, 0, 0) else ((insF code k).1, (endF code (insF code k).2.1.toNat : Int), (insF code k).2.2)) else insF code k) := rfl
      have HJI : Hid ((insF code k).1 = 11 ∨ (insF code k).1 = 12 → 0 ≤ (insF code k).2.1 ∧ (insF code k).2.1 < (code.length : Int)) := jump_in HOK.out hlt
      generalize insF code k = ins at *
      obtain ⟨op, A, b⟩ := ins
      dsimp only at d0 d1 d2 HSA HTI HJI
      simp only [Nat.zero_add] at d0 d1 d2
      go_wp2_with fail
      refine (l3Jump op wr).mono ?_
      rintro e _ ⟨rfl, rfl⟩
      rcases jump_cases op with ⟨rfl, hjb⟩ | ⟨rfl, hjb⟩ | ⟨h11, h12, hjb⟩
      · obtain ⟨hA0, hA1⟩ := HJI.out (.inl rfl)
        obtain ⟨a, rfl⟩ := Int.eq_ofNat_of_zero_le hA0
        have ha : a < code.length := by omega
        rw [hjb]
        rw [hjb, if_pos rfl, Int.toNat_natCast] at HTI
        clear hjb HSA HJI hA0
        go_wp2_with fail
        refine (l12End_at g yc code HOK.out a ha wr (HR.out.on hbw)).mono ?_
        rintro e w6 ⟨rfl, rfl⟩
        generalize hen : endF code a = en at *
        have hen40 : en < code.length := by rw [← hen]; exact endF_lt HOK.out ha
        obtain ⟨⟨x1, s1⟩, z1⟩ := M5.out (k * 3 + 1) (by omega)
        have R7 : Hid (Row (w6.setCell ⟨gv, k * 3 + 1, none⟩ (.int .i64 (en : Int))) gv 0 ((mixT code k).set k (11, (en : Int), b))) := row_setA R5.out HAT.out _
        have M7 : Hid (Room (w6.setCell ⟨gv, k * 3 + 1, none⟩ (.int .i64 (en : Int))) gv (code.length * 3)) := room_setC M5.out _ _
        have hb7 : Below w.heap.size w (w6.setCell ⟨gv, k * 3 + 1, none⟩ (.int .i64 (en : Int))) := hbw.setCell hg1 _
        have hgw7 : gv < (w6.setCell ⟨gv, k * 3 + 1, none⟩ (.int .i64 (en : Int))).heap.size := by simp; omega
        clear hen R5 M5 hbw hgw
        go_upto_region 7 with fail
        generalize w6.setCell ⟨gv, k * 3 + 1, none⟩ (.int .i64 (en : Int)) = w8 at *
        clear s1 z1 d0 d1 d2
        obtain ⟨r0, r1, r2⟩ := R7.out k (11, (en : Int), b) (by rw [List.getElem?_set, if_pos rfl, if_pos (by rw [mixT_len]; exact hlt)])
        simp only [Nat.zero_add] at r0 r1 r2
        have HRK : Hid (Row w8 gv 0 (mixT code (k + 1))) := by show Row _ _ _ _; rw [HST.out, HTI.out, if_neg (by simp)]; exact R7.out
        clear R7 HST HAT HTI
        go_wp2
        go_roundw
        case rel => exact ⟨k + 1, by omega, by go_num, HRK.out, M7.out, hgw7, hb7⟩
        case measure => simp [intOf]; omega
      · obtain ⟨hA0, hA1⟩ := HJI.out (.inr rfl)
        obtain ⟨a, rfl⟩ := Int.eq_ofNat_of_zero_le hA0
        have ha : a < code.length := by omega
        rw [hjb]
        rw [hjb, if_pos rfl, Int.toNat_natCast] at HTI
        clear hjb HSA HJI hA0
        go_wp2_with fail
        refine (l12End_at g yc code HOK.out a ha wr (HR.out.on hbw)).mono ?_
        rintro e w6 ⟨rfl, rfl⟩
        generalize hen : endF code a = en at *
        have hen40 : en < code.length := by rw [← hen]; exact endF_lt HOK.out ha
        obtain ⟨⟨x1, s1⟩, z1⟩ := M5.out (k * 3 + 1) (by omega)
        have R7 : Hid (Row (w6.setCell ⟨gv, k * 3 + 1, none⟩ (.int .i64 (en : Int))) gv 0 ((mixT code k).set k (12, (en : Int), b))) := row_setA R5.out HAT.out _
        have M7 : Hid (Room (w6.setCell ⟨gv, k * 3 + 1, none⟩ (.int .i64 (en : Int))) gv (code.length * 3)) := room_setC M5.out _ _
        have hb7 : Below w.heap.size w (w6.setCell ⟨gv, k * 3 + 1, none⟩ (.int .i64 (en : Int))) := hbw.setCell hg1 _
        have hgw7 : gv < (w6.setCell ⟨gv, k * 3 + 1, none⟩ (.int .i64 (en : Int))).heap.size := by simp; omega
        clear hen R5 M5 hbw hgw
        go_upto_region 7 with fail
        generalize w6.setCell ⟨gv, k * 3 + 1, none⟩ (.int .i64 (en : Int)) = w8 at *
        clear s1 z1 d0 d1 d2
        obtain ⟨r0, r1, r2⟩ := R7.out k (12, (en : Int), b) (by rw [List.getElem?_set, if_pos rfl, if_pos (by rw [mixT_len]; exact hlt)])
        simp only [Nat.zero_add] at r0 r1 r2
        by_cases hnx : (en : Int) = (k : Int) + 1
        · have hdd : ((en : Int) == (k : Int) + 1) = true := by simp [hnx]
          obtain ⟨⟨x0, s0⟩, z0⟩ := M7.out (k * 3) (by omega)
          obtain ⟨⟨x1, s1⟩, z1⟩ := M7.out (k * 3 + 1) (by omega)
          obtain ⟨⟨x2, s2⟩, z2⟩ := M7.out (k * 3 + 2) (by omega)
          obtain ⟨q1, q2, q3⟩ := set_oneD (k := k) (by rw [List.length_set, mixT_len]) M7.out R7.out hb7 hg1 (9, 0, 0)
          have Q1 : Hid (Row (((w8.setCell ⟨gv, k * 3, none⟩ (.int .i64 9)).setCell ⟨gv, k * 3 + 1, none⟩ (.int .i64 0)).setCell ⟨gv, k * 3 + 2, none⟩ (.int .i64 0)) gv 0 (mixT code (k + 1))) := by
            show Row _ _ _ _
            rw [HST.out, HTI.out, if_pos ⟨trivial, by omega⟩]
            rw [set_set] at q1
            exact q1
          have Q2 : Hid (Room (((w8.setCell ⟨gv, k * 3, none⟩ (.int .i64 9)).setCell ⟨gv, k * 3 + 1, none⟩ (.int .i64 0)).setCell ⟨gv, k * 3 + 2, none⟩ (.int .i64 0)) gv (code.length * 3)) := q2
          have Q3 : Below w.heap.size w (((w8.setCell ⟨gv, k * 3, none⟩ (.int .i64 9)).setCell ⟨gv, k * 3 + 1, none⟩ (.int .i64 0)).setCell ⟨gv, k * 3 + 2, none⟩ (.int .i64 0)) := q3
          clear q1 q2 q3 R7 M7 hb7 HST HAT HTI hnx s0 s1 s2
          go_wp2
          go_roundw
          case rel => exact ⟨k + 1, by omega, by go_num, Q1.out, Q2.out, by simpa using hgw7, Q3⟩
          case measure => simp [intOf]; omega
        · have hdd : ((en : Int) == (k : Int) + 1) = false := by simp [hnx]
          have HRK : Hid (Row w8 gv 0 (mixT code (k + 1))) := by show Row _ _ _ _; rw [HST.out, HTI.out, if_neg (by omega)]; exact R7.out
          clear R7 HST HAT HTI hnx
          go_wp2
          go_roundw
          case rel => exact ⟨k + 1, by omega, by go_num, HRK.out, M7.out, hgw7, hb7⟩
          case measure => simp [intOf]; omega
      · rw [hjb]
        have HRK : Hid (Row wr gv 0 (mixT code (k + 1))) := by show Row _ _ _ _; rw [HSA.out hjb]; exact R5.out
        clear R5 HSA HST HAT HTI HJI hjb h11 h12
        go_wp2
        go_roundw
        case rel => exact ⟨k + 1, by omega, by go_num, HRK.out, M5.out, hgw, hbw⟩
        case measure => simp [intOf]; omega
    · obtain rfl : k = code.length := by omega
      have HG : Hid (Got w.heap.size wr (.slice (some ⟨gv, 0, none⟩) code.length cv) (thrF code)) := by
        show Got _ _ _ _
        rw [mixT_all] at R5
        exact ⟨gv, cv, by rw [thrF_len], hg1, hgw, R5.out, by rw [thrF_len]; exact M5.out⟩
      clear R5 M5
      go_wp2
      go_ret
      exact ⟨_, rfl, HG.out, hbw⟩
set_option maxRecDepth 100000 in
set_option maxHeartbeats 1000000 in
theorem implThreaded (g cap : Nat) (l : List Tx.Ins) (hl : l.length ≤ 1048576) (w : World) (hr : Row w g 0 l) :
    Calls Try.prog 14 #[.slice (some ⟨g, 0, none⟩) l.length cap] w fun e w' => ∃ x, e = .returned x ∧ Got w.heap.size w' x (thrA l) ∧ Below w.heap.size w w' := by
  have HR : Hid (Row w g 0 l) := hr
  clear hr
  go_enter Try.func14, Try.ntmps14
  go_wp2_with fail
  refine (implCodeOk g cap l hl w HR.out).mono ?_
  rintro e w1 ⟨rfl, hb1⟩
  cases hok : Lay.codeOk l
  · have HE : Hid (thrA l = []) := by show _ = _; simp [thrA, hok]
    clear hok
    go_wp2
    go_ret
    exact ⟨_, rfl, by rw [HE.out]; exact got_nil w1 _ hb1.size _, hb1.alloc hb1.size _⟩
  · have HE : Hid (thrA l = thrF l) := by show _ = _; simp [thrA, hok]
    go_wp2_with fail
    refine (threadedIn_at g cap l hok w1 (HR.out.on hb1)).mono ?_
    rintro e w2 ⟨x, rfl, hg, hb2⟩
    have hw2 : Below w.heap.size w w2 := below_over hb1 hb2
    have HG : Hid (Got w.heap.size w2 x (thrF l)) := hg.base hb1.size
    clear hb1 hb2 hok hg
    go_wp2
    go_ret
    exact ⟨_, rfl, by rw [HE.out]; exact HG.out, hw2⟩
set_option maxRecDepth 100000 in
set_option maxHeartbeats 1000000 in
theorem specThreaded (g cap : Nat) (l : List Tx.Ins) (hl : l.length ≤ 1048576) (w : World) (hr : Row w g 0 l) :
    Calls Try.prog 13 #[.slice (some ⟨g, 0, none⟩) l.length cap] w fun e w' => ∃ x, e = .returned x ∧ Got w.heap.size w' x (thrA l) ∧ Below w.heap.size w w' := by
  have HR : Hid (Row w g 0 l) := hr
  clear hr
  go_enter Try.func13, Try.ntmps13
  go_wp2_with fail
  refine (specCodeOk g cap l hl w HR.out).mono ?_
  rintro e w1 ⟨rfl, hb1⟩
  cases hok : Lay.codeOk l
  · have HE : Hid (thrA l = []) := by show _ = _; simp [thrA, hok]
    clear hok
    go_wp2
    go_ret
    exact ⟨_, rfl, by rw [HE.out]; exact got_nil w1 _ hb1.size _, hb1.alloc hb1.size _⟩
  · have HE : Hid (thrA l = thrF l) := by show _ = _; simp [thrA, hok]
    go_wp2_with fail
    refine (l12Threaded_at g cap l hok w1 (HR.out.on hb1)).mono ?_
    rintro e w2 ⟨x, rfl, hg, hb2⟩
    have hw2 : Below w.heap.size w w2 := below_over hb1 hb2
    have HG : Hid (Got w.heap.size w2 x (thrF l)) := hg.base hb1.size
    clear hb1 hb2 hok hg
    go_wp2
    go_ret
    exact ⟨_, rfl, by rw [HE.out]; exact HG.out, hw2⟩
end Pg
end Go.Proofs.Ytlbjnlkeagmpoaa
