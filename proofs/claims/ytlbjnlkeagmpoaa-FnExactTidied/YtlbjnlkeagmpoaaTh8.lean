/- What is tidied: plainly, and the contracts of both sides. -/
import Derived.Test.YtlbjnlkeagmpoaaTh7
namespace Go.Proofs.Ytlbjnlkeagmpoaa
namespace Pg
open Go.ChangeShapes Go.WideShapes Go.ChangeAt Go.RowKit St

theorem ahd_min {P : Nat → Bool} {n : Nat} (h : ∀ k, P k = true → k < n) : ∀ m, ahd P m ≤ n
  | 0 => by simp [ahd, risL]
  | m + 1 => by
    rw [ahd_succ]
    cases hp : P m
    · have := ahd_min h m
      simpa using this
    · have h1 := h m hp
      have h2 := ahd_le P m
      simp; omega
theorem swpF_le {code : List Tx.Ins} (hok : Lay.codeOk code = true) : (swpF code).length ≤ code.length := by
  rw [swpF_len]
  exact ahd_min (fun k hk => stB_lt (Lay.ok_len hok).1 hk) 40
theorem swpF_pos {code : List Tx.Ins} (hok : Lay.codeOk code = true) : 0 < (swpF code).length := by
  rw [swpF_len]
  obtain ⟨j, _, hj⟩ := stay_from hok _ 0 (Nat.le_refl _) (rchB_iff.2 .zero)
  have h1 := stB_lt (Lay.ok_len hok).1 hj
  have h2 := (Lay.ok_len hok).2
  have := ahd_there (P := stB code) (n := 0) (m := 40) (j := j) (by omega) (Nat.zero_le _) hj
  omega
theorem okJ {op a b : Int} {n : Nat} (hn : n ≤ 40) (hj : Lay.jumpB op = true) (h : Tx.okI op a b = true) {t : Int} (h0 : 0 ≤ t) (h1 : t < (n : Int)) : Tx.okT (op, t, b) = true := by
  have hop : op = 11 ∨ op = 12 := by
    rcases jump_cases op with h | h | h
    · exact .inl h.1
    · exact .inr h.1
    · rw [h.2.2] at hj; simp at hj
  unfold Tx.okT
  unfold Tx.okI Tx.limA Tx.limB at h ⊢
  rcases hop with rfl | rfl <;> (simp at h ⊢; omega)
theorem codeOk_of {l : List Tx.Ins} (h0 : 0 < l.length) (h1 : l.length ≤ 40) (h : ∀ x ∈ l, Tx.okT x = true ∧ (Lay.jumpB x.1 = true → x.2.1 < (l.length : Int))) : Lay.codeOk l = true := by
  unfold Lay.codeOk Tx.okC
  simp only [Bool.and_eq_true, decide_eq_true_eq, List.all_eq_true]
  refine ⟨⟨h0, h1, fun x hx => (h x hx).1⟩, fun x hx => ?_⟩
  cases hb : Lay.jumpB x.1
  · rfl
  · simp [(h x hx).2 hb]
theorem swpF_ok {code : List Tx.Ins} (hok : Lay.codeOk code = true) : Lay.codeOk (swpF code) = true := by
  have hl40 := (Lay.ok_len hok).2
  have hle := swpF_le hok
  refine codeOk_of (swpF_pos hok) (by omega) fun x hx => ?_
  unfold swpF at hx
  obtain ⟨y, hy, rfl⟩ := List.mem_map.1 hx
  obtain ⟨j, _, hj, rfl⟩ := risL_mem.1 hy
  have hjl := stB_lt (Lay.ok_len hok).1 hj
  have hr : rchB code j = true := by
    unfold stB at hj
    simp only [Bool.and_eq_true] at hj
    exact hj.1
  have hi := Lay.ok_at hok (ins_is hjl)
  rw [Int.toNat_natCast]
  unfold swpI
  cases hb : Lay.jumpB (insF code j).1
  · simp only [Bool.false_eq_true, if_false]
    exact ⟨hi, fun h => by rw [hb] at h; simp at h⟩
  · obtain ⟨h0, h1, h2⟩ := jump_stay hok hr hb
    have h3 := risL_len (stB code) 40
    simp only [if_true]
    rw [swpF_len]
    exact ⟨okJ (n := 40) (Nat.le_refl _) hb hi (by omega) (by omega), fun _ => by omega⟩
theorem thrF_ok {code : List Tx.Ins} (hok : Lay.codeOk code = true) : Lay.codeOk (thrF code) = true := by
  obtain ⟨hl0, hl40⟩ := Lay.ok_len hok
  refine codeOk_of (by rw [thrF_len]; exact hl0) (by rw [thrF_len]; exact hl40) fun x hx => ?_
  unfold thrF at hx
  obtain ⟨j, hj, rfl⟩ := List.mem_map.1 hx
  have hjl := List.mem_range.1 hj
  have hi := Lay.ok_at hok (ins_is hjl)
  rw [thrF_len]
  unfold thrI
  cases hb : Lay.jumpB (insF code j).1
  · simp only [Bool.false_eq_true, if_false]
    exact ⟨hi, fun h => by rw [hb] at h; simp at h⟩
  · simp only [if_true]
    split
    · exact ⟨by decide, fun h => by simp [Lay.jumpB] at h⟩
    · have hj' : (insF code j).1 = 11 ∨ (insF code j).1 = 12 := by
        rcases jump_cases (insF code j).1 with h | h | h
        · exact .inl h.1
        · exact .inr h.1
        · rw [h.2.2] at hb; simp at hb
      obtain ⟨h0, h1⟩ := jump_in hok hjl hj'
      have he := endF_lt hok (k := (insF code j).2.1.toNat) (by omega)
      exact ⟨okJ hl40 hb hi (by omega) (by omega), fun _ => by show ((endF code _ : Nat) : Int) < _; omega⟩
/-- One turn: threaded, then swept. -/
noncomputable def turnF (code : List Tx.Ins) : List Tx.Ins := swpF (thrF code)
theorem turnF_ok {code : List Tx.Ins} (hok : Lay.codeOk code = true) : Lay.codeOk (turnF code) = true := swpF_ok (thrF_ok hok)
theorem turnF_le {code : List Tx.Ins} (hok : Lay.codeOk code = true) : (turnF code).length ≤ code.length := by
  have := swpF_le (thrF_ok hok)
  rw [thrF_len] at this
  exact this
noncomputable def tidN : Nat → List Tx.Ins → List Tx.Ins
  | 0, c => turnF c
  | n + 1, c => if (turnF c).length = c.length then turnF c else tidN n (turnF c)
theorem tidN_succ (n : Nat) (c : List Tx.Ins) : tidN (n + 1) c = if (turnF c).length = c.length then turnF c else tidN n (turnF c) := rfl
noncomputable def tidA (l : List Tx.Ins) : List Tx.Ins := if Lay.codeOk l then tidN l.length l else []
theorem tidN_len : ∀ (n : Nat) {c : List Tx.Ins}, Lay.codeOk c = true → (tidN n c).length ≤ c.length
  | 0, _, h => turnF_le h
  | n + 1, c, h => by
    unfold tidN
    split
    · exact turnF_le h
    · exact Nat.le_trans (tidN_len n (turnF_ok h)) (turnF_le h)
theorem tidA_len (l : List Tx.Ins) : (tidA l).length ≤ 41 := by
  unfold tidA
  split
  · rename_i h
    have := tidN_len l.length h
    have := (Lay.ok_len h).2
    omega
  · simp
set_option maxRecDepth 100000 in
set_option maxHeartbeats 2000000 in
theorem l12Tidied_at (g cap : Nat) (l : List Tx.Ins) (hok : Lay.codeOk l = true) (w : World) (hr : Row w g 0 l) :
    Calls Try.prog 41 #[.slice (some ⟨g, 0, none⟩) l.length cap] w fun e w' => ∃ x, e = .returned x ∧ Got w.heap.size w' x (tidA l) ∧ Below w.heap.size w w' := by
  have HR : Hid (Row w g 0 l) := hr
  have HOK : Hid (Lay.codeOk l = true) := hok
  have HE : Hid (tidA l = tidN l.length l) := by show _ = _; simp [tidA, hok]
  clear hr hok
  go_enter Try.func41, Try.ntmps41
  go_wp2
  go_loopg [3] (l.length) (fun n v wr => ∃ (c : List Tx.Ins) (gc cc : Nat), v = .slice (some ⟨gc, 0, none⟩) c.length cc ∧ Hid (Row wr gc 0 c) ∧ Hid (Lay.codeOk c = true) ∧ c.length ≤ n ∧ Hid (tidA l = tidN n c) ∧ Below w.heap.size w wr)
  case atStart => exact ⟨l, g, cap, rfl, HR.out, HOK.out, Nat.le_refl _, HE.out, Below.refl _ _⟩
  case round =>
    clear HE
    obtain ⟨c, gc, cc, rfl, hR, hK, hcn, hF, hb⟩ := hrel
    have hc40 := (Lay.ok_len hK.out).2
    have hc0 := (Lay.ok_len hK.out).1
    go_wp2_with fail
    refine (l12Threaded_at gc cc c hK.out wr hR.out).mono ?_
    rintro e w2 ⟨v2, rfl, hg2, hb2⟩
    obtain ⟨g2, c2, rfl, p1, p2, p3, p4⟩ := hg2
    have HR2 : Hid (Row w2 g2 0 (thrF c)) := p3
    have hw2 : Below w.heap.size w w2 := below_over hb hb2
    clear p1 p2 p3 p4 hb2 hR
    go_wp2_with fail
    refine (l12Swept_at g2 c2 (thrF c) (thrF_ok hK.out) w2 HR2.out).mono ?_
    rintro e w3 ⟨v3, rfl, hg3, hb3⟩
    have hw3 : Below w.heap.size w w3 := below_over hw2 hb3
    have HG3 : Hid (Got w.heap.size w3 v3 (turnF c)) := (hg3.base hw2.size).got
    obtain ⟨g3, c3, rfl⟩ := hg3.form
    have HR3 : Hid (Row w3 g3 0 (turnF c)) := by
      obtain ⟨g', c', he, _, _, q3, _⟩ := HG3.out
      obtain ⟨rfl, rfl⟩ : g3 = g' ∧ c3 = c' := by simpa [turnF] using he
      exact q3
    have hle := turnF_le hK.out
    have HK3 : Hid (Lay.codeOk (turnF c) = true) := turnF_ok hK.out
    have hfold : swpF (thrF c) = turnF c := rfl
    rw [hfold]
    have hle' : ((turnF c).length : Int) ≤ (c.length : Int) := by omega
    clear hg3 hb3 hfold HR2 hK hw2
    by_cases hq : (turnF c).length = c.length
    · have HF2 : Hid (tidA l = turnF c) := by
        show _ = _
        rw [hF.out]
        cases gk with
        | zero => rfl
        | succ m => rw [tidN_succ, if_pos hq]
      have hqi : ((turnF c).length : Int) = (c.length : Int) := by omega
      have HG4 : Hid (Got w.heap.size w3 (.slice (some ⟨g3, 0, none⟩) (turnF c).length c3) (tidA l)) := by show Got _ _ _ _; rw [HF2.out]; exact HG3.out
      clear HG3 HF2 hF HR3 HK3 hle hle' hb hcn
      have hqq : (((turnF c).length : Int) == (c.length : Int)) = true := by simp [hqi]
      generalize (turnF c).length = tl at *
      clear hq hqi
      go_wp2
      go_ret
      exact ⟨_, rfl, HG4.out, hw3⟩
    · have hlt : (turnF c).length < c.length := by omega
      obtain ⟨m, rfl⟩ : ∃ m, gk = m + 1 := ⟨gk - 1, by omega⟩
      have HF2 : Hid (tidA l = tidN m (turnF c)) := by show _ = _; rw [hF.out, tidN_succ, if_neg hq]
      have hqq : (((turnF c).length : Int) == (c.length : Int)) = false := by simp; omega
      clear HG3 hF hb hq hle hle'
      go_wp2
      go_roundg m
      case rel => exact ⟨turnF c, g3, c3, rfl, HR3.out, HK3.out, by omega, HF2.out, hw3⟩
      case measure => omega
set_option maxRecDepth 100000 in
set_option maxHeartbeats 1000000 in
theorem specTidied (g cap : Nat) (l : List Tx.Ins) (hl : l.length ≤ 1048576) (w : World) (hr : Row w g 0 l) :
    Calls Try.prog 24 #[.slice (some ⟨g, 0, none⟩) l.length cap] w fun e w' => ∃ x, e = .returned x ∧ Got w.heap.size w' x (tidA l) ∧ Below w.heap.size w w' := by
  have HR : Hid (Row w g 0 l) := hr
  clear hr
  go_enter Try.func24, Try.ntmps24
  go_wp2_with fail
  refine (specCodeOk g cap l hl w HR.out).mono ?_
  rintro e w1 ⟨rfl, hb1⟩
  cases hok : Lay.codeOk l
  · have HE : Hid (tidA l = []) := by show _ = _; simp [tidA, hok]
    clear hok
    go_wp2
    go_ret
    exact ⟨_, rfl, by rw [HE.out]; exact got_nil w1 _ hb1.size _, hb1.alloc hb1.size _⟩
  · go_wp2_with fail
    refine (l12Tidied_at g cap l hok w1 (HR.out.on hb1)).mono ?_
    rintro e w2 ⟨x, rfl, hg, hb2⟩
    have hw2 : Below w.heap.size w w2 := below_over hb1 hb2
    have HG : Hid (Got w.heap.size w2 x (tidA l)) := hg.base hb1.size
    clear hb1 hb2 hok hg
    go_wp2
    go_ret
    exact ⟨_, rfl, HG.out, hw2⟩
set_option maxRecDepth 100000 in
set_option maxHeartbeats 2000000 in
theorem implTidied (g cap : Nat) (l : List Tx.Ins) (hl : l.length ≤ 1048576) (w : World) (hr : Row w g 0 l) :
    Calls Try.prog 25 #[.slice (some ⟨g, 0, none⟩) l.length cap] w fun e w' => ∃ x, e = .returned x ∧ Got w.heap.size w' x (tidA l) ∧ Below w.heap.size w w' := by
  have HR : Hid (Row w g 0 l) := hr
  clear hr
  go_enter Try.func25, Try.ntmps25
  go_wp2_with fail
  refine (implCodeOk g cap l hl w HR.out).mono ?_
  rintro e w1 ⟨rfl, hb1⟩
  cases hok : Lay.codeOk l
  · have HE : Hid (tidA l = []) := by show _ = _; simp [tidA, hok]
    clear hok
    go_wp2
    go_ret
    exact ⟨_, rfl, by rw [HE.out]; exact got_nil w1 _ hb1.size _, hb1.alloc hb1.size _⟩
  · have HE : Hid (tidA l = tidN l.length l) := by show _ = _; simp [tidA, hok]
    have HOK : Hid (Lay.codeOk l = true) := hok
    clear hok
    go_wp2
    go_loopg [3] (l.length) (fun n v wr => ∃ (c : List Tx.Ins) (gc cc : Nat), v = .slice (some ⟨gc, 0, none⟩) c.length cc ∧ Hid (Row wr gc 0 c) ∧ Hid (Lay.codeOk c = true) ∧ c.length ≤ n ∧ Hid (tidA l = tidN n c) ∧ Below w.heap.size w wr)
    case atStart => exact ⟨l, g, cap, rfl, HR.out.on hb1, HOK.out, Nat.le_refl _, HE.out, hb1⟩
    case round =>
      clear HE
      obtain ⟨c, gc, cc, rfl, hR, hK, hcn, hF, hb⟩ := hrel
      have hc40 := (Lay.ok_len hK.out).2
      have hc0 := (Lay.ok_len hK.out).1
      go_wp2_with fail
      refine (threadedIn_at gc cc c hK.out wr hR.out).mono ?_
      rintro e w2 ⟨v2, rfl, hg2, hb2⟩
      obtain ⟨g2, c2, rfl, p1, p2, p3, p4⟩ := hg2
      have HR2 : Hid (Row w2 g2 0 (thrF c)) := p3
      have hw2 : Below w.heap.size w w2 := below_over hb hb2
      clear p1 p2 p3 p4 hb2 hR
      go_wp2_with fail
      refine (sweptIn_at g2 c2 (thrF c) (thrF_ok hK.out) w2 HR2.out).mono ?_
      rintro e w3 ⟨v3, rfl, hg3, hb3⟩
      have hw3 : Below w.heap.size w w3 := below_over hw2 hb3
      have HG3 : Hid (Got w.heap.size w3 v3 (turnF c)) := (hg3.base hw2.size).got
      obtain ⟨g3, c3, rfl⟩ := hg3.form
      have HR3 : Hid (Row w3 g3 0 (turnF c)) := by
        obtain ⟨g', c', he, _, _, q3, _⟩ := HG3.out
        obtain ⟨rfl, rfl⟩ : g3 = g' ∧ c3 = c' := by simpa [turnF] using he
        exact q3
      have hle := turnF_le hK.out
      have HK3 : Hid (Lay.codeOk (turnF c) = true) := turnF_ok hK.out
      have hfold : swpF (thrF c) = turnF c := rfl
      rw [hfold]
      have hle' : ((turnF c).length : Int) ≤ (c.length : Int) := by omega
      clear hg3 hb3 hfold HR2 hK hw2
      by_cases hq : (turnF c).length = c.length
      · have HF2 : Hid (tidA l = turnF c) := by
          show _ = _
          rw [hF.out]
          cases gk with
          | zero => rfl
          | succ m => rw [tidN_succ, if_pos hq]
        have hqi : ((turnF c).length : Int) = (c.length : Int) := by omega
        have HG4 : Hid (Got w.heap.size w3 (.slice (some ⟨g3, 0, none⟩) (turnF c).length c3) (tidA l)) := by show Got _ _ _ _; rw [HF2.out]; exact HG3.out
        clear HG3 HF2 hF HR3 HK3 hle hle' hb hcn
        have hqq : (((turnF c).length : Int) == (c.length : Int)) = true := by simp [hqi]
        generalize (turnF c).length = tl at *
        clear hq hqi
        go_wp2
        go_ret
        exact ⟨_, rfl, HG4.out, hw3⟩
      · have hlt : (turnF c).length < c.length := by omega
        obtain ⟨m, rfl⟩ : ∃ m, gk = m + 1 := ⟨gk - 1, by omega⟩
        have HF2 : Hid (tidA l = tidN m (turnF c)) := by show _ = _; rw [hF.out, tidN_succ, if_neg hq]
        have hqq : (((turnF c).length : Int) == (c.length : Int)) = false := by simp; omega
        clear HG3 hF hb hq hle hle'
        go_wp2
        go_roundg m
        case rel => exact ⟨turnF c, g3, c3, rfl, HR3.out, HK3.out, by omega, HF2.out, hw3⟩
        case measure => omega
end Pg
end Go.Proofs.Ytlbjnlkeagmpoaa
