/- Contracts: where one ends up, both sides. -/
import Derived.Test.YtlbjnlkeagmpoaaTh5
import Derived.Laws.EntriesVeiled
namespace Go.Proofs.Ytlbjnlkeagmpoaa
namespace Pg
open Go.ChangeShapes Go.WideShapes Go.ChangeAt Go.RowKit St

/-- Where the way has been: its first n, all jumps, all unlike. -/
def FolI (code : List Tx.Ins) (k n : Nat) (P : Nat → Bool) : Prop :=
  (∀ j, P j = true ↔ ∃ i, i < n ∧ chase code i k = j) ∧ (∀ i, i < n → (insF code (chase code i k)).1 = 11) ∧ ahd P code.length = n
theorem ahd_put {P : Nat → Bool} {x : Nat} (hx : P x = false) : ∀ m, ahd (fun j => if j = x then true else P j) m = ahd P m + (if x < m then 1 else 0)
  | 0 => by simp [ahd, risL]
  | m + 1 => by
    rw [ahd_succ, ahd_succ, ahd_put hx m]
    by_cases h : m = x
    · subst h; simp [hx]
    · by_cases h2 : x < m
      · have h3 : x < m + 1 := by omega
        simp [h, h2, h3]; omega
      · have h3 : ¬ x < m + 1 := by omega
        simp [h, h2, h3]
theorem folI_start (code : List Tx.Ins) (k : Nat) : FolI code k 0 fun _ => false := by
  refine ⟨fun j => by simp, fun i h => by omega, ?_⟩
  have : ∀ m, ahd (fun _ => false) m = 0 := fun m => by
    induction m with
    | zero => simp [ahd, risL]
    | succ m ih => rw [ahd_succ, ih]; rfl
  exact this _
theorem FolI.le {code : List Tx.Ins} {k n : Nat} {P : Nat → Bool} (h : FolI code k n P) : n ≤ code.length := by
  have := ahd_le P code.length
  rw [h.2.2] at this
  exact this
theorem FolI.next {code : List Tx.Ins} {k n : Nat} {P : Nat → Bool} (h : FolI code k n P) (hl : chase code n k < code.length) (hj : (insF code (chase code n k)).1 = 11) (hp : P (chase code n k) = false) :
    FolI code k (n + 1) fun j => if j = chase code n k then true else P j := by
  refine ⟨fun j => ?_, fun i hi => ?_, ?_⟩
  · by_cases e : j = chase code n k
    · simp only [e, if_true, true_iff]; exact ⟨n, by omega, rfl⟩
    · simp only [if_neg e]
      rw [h.1 j]
      constructor
      · rintro ⟨i, hi, he⟩; exact ⟨i, by omega, he⟩
      · rintro ⟨i, hi, he⟩
        rcases Nat.lt_or_ge i n with h1 | h1
        · exact ⟨i, h1, he⟩
        · obtain rfl : i = n := by omega
          exact absurd he.symm e
  · rcases Nat.lt_or_ge i n with h1 | h1
    · exact h.2.1 i h1
    · obtain rfl : i = n := by omega
      exact hj
  · rw [ahd_put hp, h.2.2, if_pos hl]
theorem FolI.round {code : List Tx.Ins} {k n : Nat} {P : Nat → Bool} (h : FolI code k n P) (hp : P (chase code n k) = true) : endF code k = k := by
  obtain ⟨i0, hi0, he0⟩ := (h.1 _).1 hp
  have hall : ∀ m, ∃ i, i < n ∧ chase code m k = chase code i k := by
    intro m
    induction m with
    | zero => exact ⟨0, by omega, rfl⟩
    | succ m ih =>
      obtain ⟨i, hi, he⟩ := ih
      have hj := h.2.1 i hi
      have e1 : chase code (m + 1) k = chase code (i + 1) k := by
        rw [chase_snoc m k (by rw [he]; exact hj), chase_snoc i k hj, he]
      rcases Nat.lt_or_ge (i + 1) n with h1 | h1
      · exact ⟨i + 1, h1, e1⟩
      · obtain rfl : i + 1 = n := by omega
        exact ⟨i0, hi0, e1.trans he0.symm⟩
  obtain ⟨i, hi, he⟩ := hall code.length
  exact endF_round (by rw [he]; exact h.2.1 i hi)
theorem FolI.stop {code : List Tx.Ins} {k n : Nat} {P : Nat → Bool} (h : FolI code k n P) (hj : (insF code (chase code n k)).1 ≠ 11) : endF code k = chase code n k := endF_of h.le hj

/-- The blocks of the closure. -/
def FolW (B g yc bc bb bf bw : Nat) (code : List Tx.Ins) (k : Nat) (P : Nat → Bool) (w : World) : Prop :=
  Row w g 0 code ∧ w.cell? ⟨bc, 0, none⟩ = some (.slice (some ⟨g, 0, none⟩) code.length yc) ∧ Cells w bb (chi 40 P) ∧ w.cell? ⟨bf, 0, none⟩ = some (.int .i64 (k : Int)) ∧
    w.cell? ⟨bw, 0, none⟩ = some (.func (.func 44) #[] #[.pointer (some ⟨bc, 0, none⟩), .pointer (some ⟨bb, 0, none⟩), .pointer (some ⟨bf, 0, none⟩), .pointer (some ⟨bw, 0, none⟩)]) ∧ B ≤ bb
theorem FolW.put {B g yc bc bb bf bw : Nat} {code : List Tx.Ins} {k : Nat} {P : Nat → Bool} {w : World} (h : FolW B g yc bc bb bf bw code k P w) (hg : g ≠ bb) (hc : bc ≠ bb) (hf : bf ≠ bb) (hw : bw ≠ bb) (x : Nat) :
    FolW B g yc bc bb bf bw code k (fun j => if j = x then true else P j) (w.setCell ⟨bb, x, none⟩ (.bool true)) := by
  obtain ⟨h1, h2, h3, h4, h5, h6⟩ := h
  have hO : Only bb w (w.setCell ⟨bb, x, none⟩ (.bool true)) := (Only.refl _ _).set _ _
  refine ⟨hO.row hg h1, ?_, ?_, ?_, ?_, h6⟩
  · exact (World.cell?_of_block (w := w) (hO.block bc hc)).trans h2
  · have := h3.set x (.bool true)
    rw [chi_set] at this
    exact this
  · exact (World.cell?_of_block (w := w) (hO.block bf hf)).trans h4
  · exact (World.cell?_of_block (w := w) (hO.block bw hw)).trans h5
theorem FolW.drewN {B g yc bc bb bf bw : Nat} {code : List Tx.Ins} {k : Nat} {P : Nat → Bool} {w : World} (h : FolW B g yc bc bb bf bw code k P w) (n : Nat) : FolW B g yc bc bb bf bw code k P (w.drewN n) := h
set_option maxRecDepth 100000 in
set_option maxHeartbeats 4000000 in
theorem follow_at (B g yc bc bb bf bw : Nat) (code : List Tx.Ins) (hok : Lay.codeOk code = true) (k : Nat) (hk : k < code.length) (hg : g ≠ bb) (hc : bc ≠ bb) (hf : bf ≠ bb) (hw : bw ≠ bb) (d : Nat) : ∀ (n : Nat) (P : Nat → Bool) (w : World), code.length < n + d → FolI code k n P → FolW B g yc bc bb bf bw code k P w →
    Calls Try.prog 44 #[.int .i64 (chase code n k : Int), .pointer (some ⟨bc, 0, none⟩), .pointer (some ⟨bb, 0, none⟩), .pointer (some ⟨bf, 0, none⟩), .pointer (some ⟨bw, 0, none⟩)] w fun e w' => e = .returned (.int .i64 (endF code k : Int)) ∧ Below B w w' := by
  have hl40 := (Lay.ok_len hok).2
  induction d with
  | zero => intro n P w h hi _; have := hi.le; omega
  | succ d ih =>
    intro n P w hd hi hF
    have HI : Hid (FolI code k n P) := hi
    have HF : Hid (FolW B g yc bc bb bf bw code k P w) := hF
    have HIH := ih
    obtain ⟨h1, c0, h3, c1, c2, hB⟩ := hF
    have hcl := chase_lt hok n k hk
    obtain ⟨d0, d1, d2⟩ := h1 _ _ (ins_is hcl)
    simp only [Nat.zero_add] at d0 d1 d2
    have HJ := fun h => jump_in hok hcl h
    have HS := chase_snoc (code := code) n k
    have HST : Hid ((insF code (chase code n k)).1 ≠ 11 → endF code k = chase code n k) := HI.out.stop
    have HRD : Hid (P (chase code n k) = true → endF code k = k) := HI.out.round
    have HNX : Hid ((insF code (chase code n k)).1 = 11 → P (chase code n k) = false → FolI code k (n + 1) fun j => if j = chase code n k then true else P j) := HI.out.next hcl
    obtain ⟨b0, f0⟩ := h3 _ _ (chi_at P (show chase code n k < 40 by omega))
    have hci : ((chase code n k : Nat) : Int) < (code.length : Int) := by omega
    have hc40 : ((chase code n k : Nat) : Int) < 40 := by omega
    clear h1 h3 hi ih
    generalize insF code (chase code n k) = ins at *
    obtain ⟨op, A, b⟩ := ins
    dsimp only at d0 d1 d2 HJ HS HST HNX
    by_cases h11 : op = 11
    · subst h11
      obtain ⟨a0, a1⟩ := HJ (.inl rfl)
      obtain ⟨a, rfl⟩ := Int.eq_ofNat_of_zero_le a0
      have HSN : Hid (chase code (n + 1) k = a) := by show _ = _; rw [HS rfl]; simp
      have HFN : Hid (FolW B g yc bc bb bf bw code k (fun j => if j = chase code n k then true else P j) (w.setCell ⟨bb, chase code n k, none⟩ (.bool true))) := HF.out.put hg hc hf hw _
      clear HJ HS HST
      generalize chase code n k = c at *
      cases hp : P c
      · have HIN : Hid (FolI code k (n + 1) fun j => if j = c then true else P j) := HNX.out rfl hp
        rw [hp] at b0
        clear HNX HRD hp
        go_enter Try.func44, Try.ntmps44
        go_upto_region 6 with fail
        have HC : Hid (∀ W, FolW B g yc bc bb bf bw code k (fun j => if j = c then true else P j) W → Calls Try.prog 44 #[.int .i64 (a : Int), .pointer (some ⟨bc, 0, none⟩), .pointer (some ⟨bb, 0, none⟩), .pointer (some ⟨bf, 0, none⟩), .pointer (some ⟨bw, 0, none⟩)] W fun e w' => e = .returned (.int .i64 (endF code k : Int)) ∧ Below B W w') := fun W hW => by
          have := HIH (n + 1) _ W (by omega) HIN.out hW
          rw [HSN.out] at this
          exact this
        have hbX : Below B w (w.setCell ⟨bb, c, none⟩ (.bool true)) := (Below.refl _ _).setCell hB _
        have hO : Only bb w (w.setCell ⟨bb, c, none⟩ (.bool true)) := (Only.refl _ _).set _ _
        have d1 := (World.cell?_of_block (w := w) (a := ⟨g, c * 3 + 1, none⟩) (hO.block g hg)).trans d1
        clear HIH HSN HIN HF HI b0 f0 c0 c1 c2 d0 d2 hO
        generalize w.setCell ⟨bb, c, none⟩ (.bool true) = X at *
        obtain ⟨_, c0, _, _, c2, _⟩ := HFN.out
        have HFD : Hid (FolW B g yc bc bb bf bw code k (fun j => if j = c then true else P j) X.drew) := HFN.out
        have HBD : Hid (Below B w X.drew) := hbX.trans ⟨rfl, rfl, rfl, Nat.le_refl _, fun _ _ => rfl⟩
        clear hbX HFN
        go_region_with (go_at_call 44; refine (HC.out X.drew HFD.out).mono ?_; rintro e w1 ⟨rfl, hb1⟩)
        all_goals go_wp2_with fail
        all_goals go_ret
        all_goals exact ⟨rfl, HBD.out.trans hb1⟩
      · have HE : Hid (endF code k = k) := HRD.out hp
        rw [hp] at b0
        clear HNX HRD hp HIH HFN HF HI
        go_enter Try.func44, Try.ntmps44
        go_wp2_with fail
        go_ret
        exact ⟨by rw [HE.out]; rfl, Below.refl _ _⟩
    · have hb : (op != 11) = true := by simp [h11]
      have HE : Hid (endF code k = chase code n k) := HST.out h11
      clear HJ HS HST HRD HNX HF HI HIH h11
      go_enter Try.func44, Try.ntmps44
      go_wp2_with fail
      go_ret
      exact ⟨by rw [HE.out]; rfl, Below.refl _ _⟩
set_option maxRecDepth 100000 in
set_option maxHeartbeats 1000000 in
theorem endIn_at (g yc : Nat) (code : List Tx.Ins) (hok : Lay.codeOk code = true) (k : Nat) (hk : k < code.length) (w : World) (hrow : Row w g 0 code) :
    Calls Try.prog 31 #[.slice (some ⟨g, 0, none⟩) code.length yc, .int .i64 (k : Int)] w fun e w' => e = .returned (.int .i64 (endF code k : Int)) ∧ Below w.heap.size w w' := by
  have hgl : g < w.heap.size := cell_lt (hrow k _ (ins_is hk)).1
  have HR : Hid (Row w g 0 code) := hrow
  have HOK : Hid (Lay.codeOk code = true) := hok
  clear hrow hok
  obtain ⟨V, hV⟩ : ∃ V, V = (((w.alloc (.cells #[.slice (some ⟨g, 0, none⟩) code.length yc] 25)).alloc (.cells #[.int .i64 (k : Int)] 2)).alloc (.cells (chi 40 fun _ => false).toArray 45)).alloc (.cells #[.func (.func 44) #[] #[.pointer (some ⟨w.heap.size, 0, none⟩), .pointer (some ⟨w.heap.size + 1 + 1, 0, none⟩), .pointer (some ⟨w.heap.size + 1, 0, none⟩), .pointer (some ⟨w.heap.size + 1 + 1 + 1, 0, none⟩)]] 49) := ⟨_, rfl⟩
  have hb1 : Below w.heap.size w V := by rw [hV]; exact ((((Below.refl _ _).alloc (Nat.le_refl _) _).alloc (by simp) _).alloc (by simp; omega) _).alloc (by simp; omega) _
  have K0 : Cells V w.heap.size [.slice (some ⟨g, 0, none⟩) code.length yc] := by rw [hV]; exact (((Cells.new _ _ rfl _ _).alloc _).alloc _).alloc _
  have K1 : Cells V (w.heap.size + 1) [.int .i64 (k : Int)] := by rw [hV]; exact ((Cells.new _ _ (by simp) _ _).alloc _).alloc _
  have K2 : Cells V (w.heap.size + 1 + 1) (chi 40 fun _ => false) := by rw [hV]; exact (Cells.new _ _ (by simp) _ _).alloc _
  have K3 : Cells V (w.heap.size + 1 + 1 + 1) [.func (.func 44) #[] #[.pointer (some ⟨w.heap.size, 0, none⟩), .pointer (some ⟨w.heap.size + 1 + 1, 0, none⟩), .pointer (some ⟨w.heap.size + 1, 0, none⟩), .pointer (some ⟨w.heap.size + 1 + 1 + 1, 0, none⟩)]] := by rw [hV]; exact Cells.new _ _ (by simp) _ _
  have HFW : Hid (FolW w.heap.size g yc w.heap.size (w.heap.size + 1 + 1) (w.heap.size + 1) (w.heap.size + 1 + 1 + 1) code k (fun _ => false) V) := ⟨HR.out.on hb1, K0.g0.1, K2, K1.g0.1, K3.g0.1, by omega⟩
  have HV : Hid (V = (((w.alloc (.cells #[.slice (some ⟨g, 0, none⟩) code.length yc] 25)).alloc (.cells #[.int .i64 (k : Int)] 2)).alloc (.cells (chi 40 fun _ => false).toArray 45)).alloc (.cells #[.func (.func 44) #[] #[.pointer (some ⟨w.heap.size, 0, none⟩), .pointer (some ⟨w.heap.size + 1 + 1, 0, none⟩), .pointer (some ⟨w.heap.size + 1, 0, none⟩), .pointer (some ⟨w.heap.size + 1 + 1 + 1, 0, none⟩)]] 49)) := hV
  have HC : Hid (Calls Try.prog 44 #[.int .i64 (k : Int), .pointer (some ⟨w.heap.size, 0, none⟩), .pointer (some ⟨w.heap.size + 1 + 1, 0, none⟩), .pointer (some ⟨w.heap.size + 1, 0, none⟩), .pointer (some ⟨w.heap.size + 1 + 1 + 1, 0, none⟩)] V fun e w' => e = .returned (.int .i64 (endF code k : Int)) ∧ Below w.heap.size V w') :=
    follow_at w.heap.size g yc w.heap.size (w.heap.size + 1 + 1) (w.heap.size + 1) (w.heap.size + 1 + 1 + 1) code HOK.out k hk (by omega) (by omega) (by omega) (by omega) (code.length + 1) 0 _ V (by omega) (folI_start code k) HFW.out
  clear K0 K1 K2 K3 HFW hV
  go_enter Try.func31, Try.ntmps31
  go_wp2_with (with_reducible refine wpList_alloc_chi rfl 45 rfl 40 zeroS ?_)
  rw [← HV.out]
  refine HC.out.mono ?_
  rintro e w1 ⟨rfl, hb2⟩
  clear HV HC
  go_wp2_with fail
  go_ret
  exact ⟨rfl, hb1.trans hb2⟩
set_option maxRecDepth 100000 in
set_option maxHeartbeats 1000000 in
theorem implEndUp (g cap : Nat) (l : List Tx.Ins) (n : Int) (hl : l.length ≤ 1048576) (w : World) (hr : Row w g 0 l) :
    Calls Try.prog 11 #[.slice (some ⟨g, 0, none⟩) l.length cap, .int .i64 n] w fun e w' => e = .returned (.int .i64 (endA l n)) ∧ Below w.heap.size w w' := by
  have HR : Hid (Row w g 0 l) := hr
  clear hr
  go_enter Try.func11, Try.ntmps11
  go_wp2_with fail
  refine (implCodeOk g cap l hl w HR.out).mono ?_
  rintro e w1 ⟨rfl, hb1⟩
  cases hok : Lay.codeOk l
  · have HE : Hid (endA l n = -1) := by show _ = _; simp [endA, atB, hok]
    clear hok
    go_wp2
    go_ret
    exact ⟨by rw [HE.out]; rfl, hb1⟩
  · go_wp2_with fail
    refine (isBelow n l.length w1).mono ?_
    rintro e _ ⟨rfl, rfl⟩
    cases hat : (decide (0 ≤ n) && decide (n < (l.length : Int)))
    · have HE : Hid (endA l n = -1) := by show _ = _; simp only [endA, atB, hok, hat]; rfl
      clear hok
      go_wp2
      go_ret
      exact ⟨by rw [HE.out]; rfl, hb1⟩
    · have HE : Hid (endA l n = (endF l n.toNat : Int)) := by show _ = _; simp only [endA, atB, hok, hat]; rfl
      simp only [Bool.and_eq_true, decide_eq_true_eq] at hat
      obtain ⟨k, rfl⟩ := Int.eq_ofNat_of_zero_le hat.1
      have hk : k < l.length := by omega
      rw [Int.toNat_natCast] at HE
      clear hat
      go_wp2_with fail
      refine (endIn_at g cap l hok k hk w1 (HR.out.on hb1)).mono ?_
      rintro e w2 ⟨rfl, hb2⟩
      have hw2 : Below w.heap.size w w2 := below_over hb1 hb2
      clear hb1 hb2 hok
      go_wp2
      go_ret
      exact ⟨by rw [HE.out]; rfl, hw2⟩
set_option maxRecDepth 100000 in
set_option maxHeartbeats 1000000 in
theorem l12End_at (g yc : Nat) (code : List Tx.Ins) (hok : Lay.codeOk code = true) (k : Nat) (hk : k < code.length) (w : World) (hrow : Row w g 0 code) :
    Calls Try.prog 27 #[.slice (some ⟨g, 0, none⟩) code.length yc, .int .i64 k] w fun e w' => e = .returned (.int .i64 (endF code k : Int)) ∧ w' = w := by
  have hl40 := (Lay.ok_len hok).2
  have HR : Hid (Row w g 0 code) := hrow
  have HOK : Hid (Lay.codeOk code = true) := hok
  clear hrow hok
  go_enter Try.func27, Try.ntmps27
  go_wp2
  go_loopw [5, 6] (fun xv i wr => ∃ n : Nat, n ≤ code.length ∧ i = .int .i64 n ∧ xv = .int .i64 (chase code n k : Int) ∧ wr = w) (fun _ i _ => code.length - (intOf i).toNat)
  case atStart => exact ⟨0, Nat.zero_le _, rfl, rfl, rfl⟩
  case round =>
    obtain ⟨n, hn, rfl, rfl, rfl⟩ := hrel
    have hcl := chase_lt HOK.out n k hk
    obtain ⟨d0, d1, d2⟩ := HR.out _ _ (ins_is hcl)
    simp only [Nat.zero_add] at d0 d1 d2
    have HJ := fun h => jump_in HOK.out hcl h
    have HS := chase_snoc (code := code) n k
    have HE := endF_of (code := code) (k := k) hn
    have HX : Hid (n = code.length → (insF code (chase code n k)).1 = 11 → endF code k = k) := fun e h => by subst e; exact endF_round h
    generalize insF code (chase code n k) = ins at *
    obtain ⟨op, A, b⟩ := ins
    dsimp only at d0 d1 d2 HJ HS HE HX
    have hci : ((chase code n k : Nat) : Int) < (code.length : Int) := by omega
    by_cases h11 : op = 11
    · subst h11
      obtain ⟨a0, a1⟩ := HJ (.inl rfl)
      obtain ⟨a, rfl⟩ := Int.eq_ofNat_of_zero_le a0
      have HSN : Hid (chase code (n + 1) k = a) := by show _ = _; rw [HS rfl]; simp
      clear HJ HS HE
      by_cases hlt : n < code.length
      · have hni : (n : Int) < (code.length : Int) := by omega
        clear HX
        generalize chase code n k = c at *
        go_wp2
        go_roundw
        case rel => exact ⟨n + 1, by omega, by go_num, by rw [HSN.out], by simp⟩
        case measure => simp [intOf]; omega
      · have hni : ¬ (n : Int) < (code.length : Int) := by omega
        have HF : Hid (endF code k = k) := HX.out (by omega) rfl
        clear HX HSN
        generalize chase code n k = c at *
        go_wp2
        go_ret
        exact ⟨by rw [HF.out]; rfl, rfl⟩
    · have hb : (op != 11) = true := by simp [h11]
      have HF : Hid (endF code k = chase code n k) := HE h11
      clear HJ HS HE HX h11
      by_cases hlt : n < code.length
      · have hni : (n : Int) < (code.length : Int) := by omega
        go_wp2
        go_ret
        exact ⟨by rw [HF.out]; rfl, rfl⟩
      · have hni : ¬ (n : Int) < (code.length : Int) := by omega
        go_wp2
        go_ret
        exact ⟨by rw [HF.out]; rfl, rfl⟩
set_option maxRecDepth 100000 in
set_option maxHeartbeats 1000000 in
theorem specEndUp (g cap : Nat) (l : List Tx.Ins) (n : Int) (hl : l.length ≤ 1048576) (w : World) (hr : Row w g 0 l) :
    Calls Try.prog 9 #[.slice (some ⟨g, 0, none⟩) l.length cap, .int .i64 n] w fun e w' => e = .returned (.int .i64 (endA l n)) ∧ Below w.heap.size w w' := by
  have HR : Hid (Row w g 0 l) := hr
  clear hr
  go_enter Try.func9, Try.ntmps9
  go_wp2_with fail
  refine (l9At_at g cap l n hl w HR.out).mono ?_
  rintro e w1 ⟨rfl, hb1⟩
  cases hat : atB l n
  · have HE : Hid (endA l n = -1) := by show _ = _; simp [endA, hat]
    clear hat
    go_wp2
    go_ret
    exact ⟨by rw [HE.out]; rfl, hb1⟩
  · have HE : Hid (endA l n = (endF l n.toNat : Int)) := by show _ = _; simp [endA, hat]
    unfold atB at hat
    simp only [Bool.and_eq_true, decide_eq_true_eq] at hat
    obtain ⟨hok, h0, h1⟩ := hat
    obtain ⟨k, rfl⟩ := Int.eq_ofNat_of_zero_le h0
    have hk : k < l.length := by omega
    rw [Int.toNat_natCast] at HE
    go_wp2_with fail
    refine (l12End_at g cap l hok k hk w1 (HR.out.on hb1)).mono ?_
    rintro e _ ⟨rfl, rfl⟩
    clear hok
    go_wp2
    go_ret
    exact ⟨by rw [HE.out]; rfl, hb1⟩
end Pg
end Go.Proofs.Ytlbjnlkeagmpoaa
