/- Contracts: a word that is learnt, a word that is known. -/
import Derived.Test.YtffkkhaiedhaiaaJKm0
import Derived.Maps.OwnOps
namespace Go.Proofs.Ytffkkhaiedhaiaa
namespace Pg
open Go.ChangeShapes Go.WideShapes Go.ChangeAt Go.RowKit St Wd

theorem plainE {v : Int} (h1 : -9223372036854775808 ≤ v) (h2 : v ≤ 9223372036854775807) : plainElem (H := Unit) Try.prog 2 (.int .i64 v) = some (.lit (.int .i64 v), []) := plainElem_int Try.underlying2 (wf64 h1 h2)
theorem KM.put {w' : World} {b : Nat} {D : DataW Unit} {m : Kw} {i s : Nat} {v : Int} (hr : Rep D m) (ht : Maps.Tidy D) (hi : i < 40) (hs : s < 8) (h1 : -9223372036854775808 ≤ v) (h2 : v ≤ 9223372036854775807)
    (h : w'.ownsMap Try.prog 102 (plainElem Try.prog 2) b (400 + 1) (D.put (spK i s) (.lit (.int .i64 v)))) : KM w' b (setK m i s v) := by
  have := hr.put ht hi hs h1 h2
  exact ⟨_, own400 h (by rw [this.size]; have := cntK_le (setK m i s v); omega), this⟩
set_option maxHeartbeats 1000000 in
theorem learn_at (b : Nat) (m : Kw) (i s : Nat) (hi : i < 40) (hs : s < 8) (v : Int) (h1 : -9223372036854775808 ≤ v) (h2 : v ≤ 9223372036854775807) (w : World) (h : KM w b m) :
    Calls Try.prog 111 #[.map (some b), spV i s, .int .i64 v] w fun e w' => ∃ y, joO (m i s) v = some y ∧ e = .returned (.bool (decide (m i s ≠ some y))) ∧ KM w' b (setK m i s y) ∧ w.grownBy w' (some b) := by
  obtain ⟨D, hown, hr⟩ := h
  have ht : Maps.Tidy D := hown.tidy keyedK
  have hkey := keyOf_sp (wf64n (n := i) (by omega)) (wf64n (n := s) (by omega))
  have ho1 : Hid ((w.alloc (.cells #[.int .i64 (i : Int), .int .i64 (s : Int)] 102)).ownsMap Try.prog 102 (plainElem Try.prog 2) b 400 D) := hown.alloc _
  have hg1 : w.grownBy (w.alloc (.cells #[.int .i64 (i : Int), .int .i64 (s : Int)] 102)) (some b) := World.grownBy_alloc w _ _
  have HK : Hid (keyOf Try.prog 102 (spV i s) = some (spK i s)) := hkey
  have HP : Hid (plainElem (H := Unit) Try.prog 2 (.int .i64 v) = some (.lit (.int .i64 v), [])) := plainE h1 h2
  have HU : Hid (plainElem (H := Unit) Try.prog 2 (.int .i64 1099511627776) = some (.lit (.int .i64 1099511627776), [])) := plainE (by omega) (by omega)
  have hh := hr.has i s hi hs
  cases hm : m i s with
  | none =>
    rw [hm] at hh
    have HH : Hid (Maps.has D (spK i s) = false) := hh
    clear hkey hh hown
    go_enter Try.func111, Try.ntmps111
    go_wp2_with (first
      | (at_lookup; refine wpList_lookup_own_ok_int _ rfl _ _ 98 rfl 102 2 .i64 keyedK mapT Try.underlying2 (zeroI _) b 400 D rfl ho1.out _ _ rfl HK.out ?_; intro c hat hwc; rw [HH.out]; clear hat hwc)
      | (at_mapUpdate; refine wpList_mapUpdate_own _ rfl _ _ _ 98 rfl 102 2 keyedK mapT _ b 400 D rfl ho1.out (by unfold maxLen; omega) _ _ _ rfl rfl HK.out _ [] HP.out ?_; intro w2 ho2 hg2))
    go_ret
    refine ⟨v, rfl, rfl, KM.put hr ht hi hs h1 h2 ho2, hg1.andThen hg2 (fun j hj => .inr hj)⟩
  | some o =>
    rw [hm] at hh
    have HH : Hid (Maps.has D (spK i s) = true) := hh
    have HV : Hid (∀ z, D.atKey (spK i s) z = .lit (.int .i64 o)) := hr.val i s o hm
    clear hkey hh hown
    by_cases hov : o = v
    · subst hov
      go_enter Try.func111, Try.ntmps111
      go_wp2_with (first
        | (at_lookup; refine wpList_lookup_own_ok_int _ rfl _ _ 98 rfl 102 2 .i64 keyedK mapT Try.underlying2 (zeroI _) b 400 D rfl ho1.out _ _ rfl HK.out ?_; intro c hat hwc; rw [HH.out]; rw [HV.out] at hat; injection hat with hat; injection hat with _ hat; subst hat; clear hwc)
        | (at_mapUpdate; refine wpList_mapUpdate_own _ rfl _ _ _ 98 rfl 102 2 keyedK mapT _ b 400 D rfl ho1.out (by unfold maxLen; omega) _ _ _ rfl rfl HK.out _ [] HP.out ?_; intro w2 ho2 hg2))
      go_ret
      refine ⟨o, by simp [joO], by simp, KM.put hr ht hi hs h1 h2 ho2, hg1.andThen hg2 (fun j hj => .inr hj)⟩
    · have hne : (o != v) = true := by simp [hov]
      have HD : Hid ((o != 1099511627776) = decide (some o ≠ some UnK)) := by
        show _ = _
        by_cases e : o = 1099511627776 <;> simp [e]
      generalize hd : (o != 1099511627776) = dd at *
      have HDD : Hid ((o != 1099511627776) = dd) := hd
      go_enter Try.func111, Try.ntmps111
      go_wp2_with (first
        | (at_lookup; refine wpList_lookup_own_ok_int _ rfl _ _ 98 rfl 102 2 .i64 keyedK mapT Try.underlying2 (zeroI _) b 400 D rfl ho1.out _ _ rfl HK.out ?_; intro c hat hwc; rw [HH.out]; rw [HV.out] at hat; injection hat with hat; injection hat with _ hat; subst hat; clear hwc)
        | (at_mapUpdate; refine wpList_mapUpdate_own _ rfl _ _ _ 98 rfl 102 2 keyedK mapT _ b 400 D rfl ho1.out (by unfold maxLen; omega) _ _ _ rfl rfl HK.out _ [] HU.out ?_; intro w2 ho2 hg2))
      go_ret
      refine ⟨UnK, by simp [joO, hov], ?_, KM.put hr ht hi hs (by decide) (by decide) ho2, hg1.andThen hg2 (fun j hj => .inr hj)⟩
      have := HD.out
      simp at this
      exact congrArg (fun b => Ending.returned (.bool b)) this
set_option maxHeartbeats 1000000 in
theorem wordAt_at (b : Nat) (m : Kw) (i s : Nat) (hi : i < 40) (hs : s < 8) (w : World) (h : KM w b m) :
    Calls Try.prog 63 #[.map (some b), spV i s] w fun e w' => e = .returned (.int .i64 ((m i s).getD UnK)) ∧ Below w.heap.size w w' := by
  obtain ⟨D, hown, hr⟩ := h
  have ho1 : Hid ((w.alloc (.cells #[.int .i64 (i : Int), .int .i64 (s : Int)] 102)).ownsMap Try.prog 102 (plainElem Try.prog 2) b 400 D) := hown.alloc _
  have hb1 : Below w.heap.size w (w.alloc (.cells #[.int .i64 (i : Int), .int .i64 (s : Int)] 102)) := (Below.refl _ _).alloc (Nat.le_refl _) _
  have HK : Hid (keyOf Try.prog 102 (spV i s) = some (spK i s)) := keyOf_sp (wf64n (n := i) (by omega)) (wf64n (n := s) (by omega))
  have hh := hr.has i s hi hs
  cases hm : m i s with
  | none =>
    rw [hm] at hh
    have HH : Hid (Maps.has D (spK i s) = false) := hh
    clear hh hown
    go_enter Try.func63, Try.ntmps63
    go_wp2_with (at_lookup; refine wpList_lookup_own_ok_int _ rfl _ _ 98 rfl 102 2 .i64 keyedK mapT Try.underlying2 (zeroI _) b 400 D rfl ho1.out _ _ rfl HK.out ?_; intro c hat hwc; rw [HH.out]; clear hat hwc)
    go_ret
    exact ⟨rfl, hb1⟩
  | some o =>
    rw [hm] at hh
    have HH : Hid (Maps.has D (spK i s) = true) := hh
    have HV : Hid (∀ z, D.atKey (spK i s) z = .lit (.int .i64 o)) := hr.val i s o hm
    clear hh hown
    go_enter Try.func63, Try.ntmps63
    go_wp2_with (at_lookup; refine wpList_lookup_own_ok_int _ rfl _ _ 98 rfl 102 2 .i64 keyedK mapT Try.underlying2 (zeroI _) b 400 D rfl ho1.out _ _ rfl HK.out ?_; intro c hat hwc; rw [HH.out]; rw [HV.out] at hat; injection hat with hat; injection hat with _ hat; subst hat; clear hwc)
    go_ret
    exact ⟨rfl, hb1⟩
end Pg
end Go.Proofs.Ytffkkhaiedhaiaa

/- Contracts: the learner in memory; the step that pushed what is stored. -/
namespace Go.Proofs.Ytffkkhaiedhaiaa
namespace Pg
open Go.ChangeShapes Go.WideShapes Go.ChangeAt Go.RowKit St Wd

/-- The cells of a learner. -/
def lrnC (v : Value) (P : Nat → Bool) (a b c : Nat) : List Value := v :: (chi 40 P ++ [.map (some a), .map (some b), .map (some c)])
theorem lrnC_len (v : Value) (P : Nat → Bool) (a b c : Nat) : (lrnC v P a b c).length = 44 := by simp [lrnC, chi_len]
theorem lrnC_lead (v : Value) (P : Nat → Bool) (a b c : Nat) {k : Nat} (hk : k < 40) : (lrnC v P a b c)[k + 1]? = some (.bool (P k)) := by
  unfold lrnC
  rw [List.getElem?_cons_succ, List.getElem?_append_left (by rw [chi_len]; exact hk), chi_at P hk]
theorem lrnC_at (v : Value) (P : Nat → Bool) (a b c : Nat) : (lrnC v P a b c)[41]? = some (.map (some a)) ∧ (lrnC v P a b c)[42]? = some (.map (some b)) ∧ (lrnC v P a b c)[43]? = some (.map (some c)) := by
  unfold lrnC
  refine ⟨?_, ?_, ?_⟩ <;> (rw [List.getElem?_cons_succ, List.getElem?_append_right (by rw [chi_len]; omega), chi_len]; rfl)
theorem infoI3 : (Try.prog.info? 76).map (·.size) = some 3 := by kernel_rfl
theorem ld_zero (code : List Tx.Ins) : ∀ n, ldB code n 0 = true
  | 0 => by simp [ldB]
  | n + 1 => by simp [ldB, ld_zero code n]
set_option maxRecDepth 100000 in
set_option maxHeartbeats 1000000 in
theorem storedAt_at (g cap L : Nat) (a b c : Nat) (code : List Tx.Ins) (hok : Lay.codeOk code = true) (k : Nat) (hk : k < code.length) (w : World) (hrow : Row w g 0 code)
    (hL : Cells w L (lrnC (.slice (some ⟨g, 0, none⟩) code.length cap) (ldB code code.length) a b c)) :
    Calls Try.prog 117 #[.pointer (some ⟨L, 0, none⟩), .int .i64 (k : Int)] w fun e w' => e = .returned (.agg #[.int .i64 (storedF code k).1, .int .i64 (storedF code k).2.1, .int .i64 (storedF code k).2.2]) ∧ Below w.heap.size w w' := by
  have hl40 := (Lay.ok_len hok).2
  have hkl : (k : Int) < 40 := by omega
  obtain ⟨c0, _⟩ := hL 0 _ rfl
  obtain ⟨c1, _⟩ := hL (k + 1) _ (lrnC_lead _ _ _ _ _ (by omega))
  rw [Nat.add_comm] at c1
  have hLl := cell_lt c0
  have hgl := cell_lt (hrow 0 _ (ins_is (Lay.ok_len hok).1)).1
  cases hld : ldB code code.length k
  · have hk0 : k ≠ 0 := fun e => by rw [e, ld_zero] at hld; simp at hld
    obtain ⟨j, rfl⟩ : ∃ j, k = j + 1 := ⟨k - 1, by omega⟩
    rw [hld] at c1
    have HS : Hid (storedF code (j + 1) = if (insF code j).1 = 1 ∨ (insF code j).1 = 2 then insF code j else (1, UnK, 0)) := by show _ = _; simp [storedF, hld]
    obtain ⟨d0, d1, d2⟩ := hrow j _ (ins_is (by omega))
    simp only [Nat.zero_add] at d0 d1 d2
    generalize insF code j = ins at *
    obtain ⟨op, A, B⟩ := ins
    dsimp only at d0 d1 d2 HS
    have hjl : (j : Int) < (code.length : Int) := by omega
    have hcast : ((j + 1 : Nat) : Int) = (j : Int) + 1 := by omega
    rw [hcast] at hkl ⊢
    clear hL hrow hld hk0 hcast
    have HB : Hid (∀ x y z, Below w.heap.size w (((w.alloc x).alloc y).alloc z)) := fun x y z =>
      (((Below.refl _ _).alloc (Nat.le_refl _) _).alloc (by simp) _).alloc (by simp; omega) _
    by_cases h1 : op = 1
    · subst h1
      go_enter Try.func117, Try.ntmps117
      go_wp2
      refine bodyPost_ret (ret_cell rfl rfl (((Cells.new w _ rfl [.int .i64 1, .int .i64 A, .int .i64 B] 76).alloc _).alloc _).range Try.underlying76 rfl (by rw [infoI3]; rfl)) rfl ?_
      exact ⟨by rw [HS.out]; rfl, HB.out _ _ _⟩
    · by_cases h2 : op = 2
      · subst h2
        go_enter Try.func117, Try.ntmps117
        go_wp2
        refine bodyPost_ret (ret_cell rfl rfl (((Cells.new w _ rfl [.int .i64 2, .int .i64 A, .int .i64 B] 76).alloc _).alloc _).range Try.underlying76 rfl (by rw [infoI3]; rfl)) rfl ?_
        exact ⟨by rw [HS.out]; rfl, HB.out _ _ _⟩
      · have h1' : (op == 1) = false := by simp [h1]
        have h2' : (op == 2) = false := by simp [h2]
        have HS' : Hid (storedF code (j + 1) = (1, UnK, 0)) := by show _ = _; rw [HS.out]; simp [h1, h2]
        go_enter Try.func117, Try.ntmps117
        go_wp2
        refine bodyPost_ret (ret_cell rfl rfl (((Cells.new w _ rfl [.int .i64 1, .int .i64 1099511627776, .int .i64 0] 76).alloc _).alloc _).range Try.underlying76 rfl (by rw [infoI3]; rfl)) rfl ?_
        exact ⟨by rw [HS'.out], HB.out _ _ _⟩
  · rw [hld] at c1
    have HS : Hid (storedF code k = (1, UnK, 0)) := by show _ = _; simp [storedF, hld]
    clear hL hrow hld
    go_enter Try.func117, Try.ntmps117
    go_wp2
    refine bodyPost_ret (ret_cell rfl rfl ((Cells.new w _ rfl [.int .i64 1, .int .i64 1099511627776, .int .i64 0] 76).alloc _).range Try.underlying76 rfl (by rw [infoI3]; rfl)) rfl ?_
    exact ⟨by rw [HS.out], ((Below.refl _ _).alloc (Nat.le_refl _) _).alloc (by simp) _⟩
end Pg
end Go.Proofs.Ytffkkhaiedhaiaa

/- Contracts: a word is told to all that may come next. -/
namespace Go.Proofs.Ytffkkhaiedhaiaa
namespace Pg
open Go.ChangeShapes Go.WideShapes Go.ChangeAt Go.RowKit St Wd

/-- A word for local j, told to all that may come behind step i. -/
def tellK (code : List Tx.Ins) (i : Nat) (m : Kw) (j : Nat) (x : Int) : Kw := fun t s => if s = j ∧ nxB code i t = true then joO (m t s) x else m t s
def partK (l : List Int) (q : Nat) (m : Kw) (j : Nat) (x : Int) : Kw := fun t s => if s = j ∧ ((t : Int) ∈ l.take q) then joO (m t s) x else m t s
theorem partK_step {l : List Int} (hr : Rise l) {q : Nat} (hq : q < l.length) {tn : Nat} (ht : l[q] = (tn : Int)) (m : Kw) (j : Nat) (x : Int) {y : Int} (hy : joO (partK l q m j x tn j) x = some y) :
    setK (partK l q m j x) tn j y = partK l (q + 1) m j x := by
  have hnot : (tn : Int) ∉ l.take q := fun hm => by
    obtain ⟨p, hp, e⟩ := List.getElem_of_mem hm
    have hpq : p < q := by simp at hp; omega
    rw [List.getElem_take] at e
    have := List.pairwise_iff_getElem.1 hr p q (by omega) hq hpq
    rw [e, ht] at this
    omega
  have hp0 : partK l q m j x tn j = m tn j := by unfold partK; simp [hnot]
  rw [hp0] at hy
  funext t s
  unfold setK
  by_cases e : t = tn ∧ s = j
  · obtain ⟨rfl, rfl⟩ := e
    rw [if_pos ⟨rfl, rfl⟩]
    unfold partK
    have : (t : Int) ∈ l.take (q + 1) := by rw [← ht]; exact List.mem_take_iff_getElem.2 ⟨q, by omega, rfl⟩
    simp [this, hy]
  · rw [if_neg e]
    unfold partK
    by_cases hs : s = j
    · have htn : t ≠ tn := fun h => e ⟨h, hs⟩
      have : ((t : Int) ∈ l.take (q + 1)) ↔ ((t : Int) ∈ l.take q) := by
        rw [List.take_succ_eq_append_getElem hq, List.mem_append, List.mem_singleton, ht]
        constructor
        · rintro (h | h)
          · exact h
          · exact absurd (by omega) htn
        · exact .inl
      simp only [hs, true_and, this]
    · simp [hs]
theorem partK_end {code : List Tx.Ins} (hok : Lay.codeOk code = true) (i : Nat) (m : Kw) (j : Nat) (x : Int) : partK (risL (nxB code i) 40) (risL (nxB code i) 40).length m j x = tellK code i m j x := by
  funext t s
  unfold partK tellK
  rw [List.take_length]
  have : ((t : Int) ∈ risL (nxB code i) 40) ↔ nxB code i t = true := by
    rw [risL_mem]
    constructor
    · rintro ⟨k, _, h, e⟩
      have : t = k := by omega
      rw [this]; exact h
    · intro h
      have h' := h
      unfold nxB at h'
      simp only [Bool.and_eq_true, decide_eq_true_eq] at h'
      have := (Lay.ok_len hok).2
      exact ⟨t, by omega, h, rfl⟩
  simp only [this]
theorem partK_zero (l : List Int) (m : Kw) (j : Nat) (x : Int) : partK l 0 m j x = m := by
  funext t s
  simp [partK]
theorem gb_trans {u v w : World} {b : Nat} (h : u.grownBy v (some b)) (k : v.grownBy w (some b)) : u.grownBy w (some b) := h.andThen k (fun _ hj => .inr hj)
theorem Cells.gb {u v : World} {k b : Nat} {vs : List Value} (h : Cells u k vs) (hg : u.grownBy v (some b)) (hne : k ≠ b) (hk : k < u.heap.size) : Cells v k vs := fun i x hx => by
  obtain ⟨h1, h2⟩ := h i x hx
  have hbk := hg.block k hk (by simpa using hne)
  exact ⟨(World.cell?_of_block (w := u) hbk).trans h1, (World.frozen?_of_block (w := u) hbk).trans h2⟩
theorem irow_gb {u v : World} {k b : Nat} {l : List Int} (h : IRow u k 0 l) (hg : u.grownBy v (some b)) (hne : k ≠ b) (hk : k < u.heap.size) : IRow v k 0 l := fun i x hx => by
  have hbk := hg.block k hk (by simpa using hne)
  exact (World.cell?_of_block (w := u) hbk).trans (h i x hx)
theorem row_gb {u v : World} {k b : Nat} {l : List Tx.Ins} (h : Row u k 0 l) (hg : u.grownBy v (some b)) (hne : k ≠ b) (hk : k < u.heap.size) : Row v k 0 l := fun i x hx => by
  have hbk := hg.block k hk (by simpa using hne)
  obtain ⟨h1, h2, h3⟩ := h i x hx
  exact ⟨(World.cell?_of_block (w := u) hbk).trans h1, (World.cell?_of_block (w := u) hbk).trans h2, (World.cell?_of_block (w := u) hbk).trans h3⟩
set_option maxRecDepth 100000 in
set_option maxHeartbeats 1000000 in
theorem tell_at (g cap L : Nat) (a b c : Nat) (P : Nat → Bool) (code : List Tx.Ins) (hok : Lay.codeOk code = true) (k : Nat) (hk : k < code.length) (j : Nat) (hj : j < 8) (x : Int) (h1 : -9223372036854775808 ≤ x) (h2 : x ≤ 9223372036854775807)
    (w : World) (hrow : Row w g 0 code) (hL : Cells w L (lrnC (.slice (some ⟨g, 0, none⟩) code.length cap) P a b c)) (hLc : L ≠ c) (m : Kw) (hm : KM w c m) :
    Calls Try.prog 116 #[.pointer (some ⟨L, 0, none⟩), .int .i64 (k : Int), .int .i64 (j : Int), .int .i64 x] w fun e w' => e = .returned (.tuple #[]) ∧ KM w' c (tellK code k m j x) ∧ w.grownBy w' (some c) := by
  obtain ⟨c0, _⟩ := hL 0 _ rfl
  have hLl : L < w.heap.size := cell_lt c0
  have HL : Hid (Cells w L (lrnC (.slice (some ⟨g, 0, none⟩) code.length cap) P a b c)) := hL
  have HE : Hid (partK (risL (nxB code k) 40) (risL (nxB code k) 40).length m j x = tellK code k m j x) := partK_end hok k m j x
  clear hL
  go_enter Try.func116, Try.ntmps116
  go_wp2_with fail
  refine (nextsIn_at g cap code hok k hk w hrow).mono ?_
  rintro e w1 ⟨rfl, hb1⟩
  go_wp2_with fail
  refine (rising_at (nxB code k) w1).mono ?_
  rintro e w2 ⟨v, rfl, hg, hb2⟩
  have hw2 : Below w.heap.size w w2 := below_over hb1 hb2
  have hmem : ∀ q (h : q < (risL (nxB code k) 40).length), ∃ tn : Nat, tn < 40 ∧ (risL (nxB code k) 40)[q] = (tn : Int) := fun q h => by
    obtain ⟨t, ht, _, e⟩ := risL_mem.1 (List.getElem_mem h)
    exact ⟨t, ht, e⟩
  have hrise := risL_rise (nxB code k) 40
  have hlen := risL_len (nxB code k) 40
  generalize risL (nxB code k) 40 = l at *
  have HM : Hid (∀ q (h : q < l.length), ∃ tn : Nat, tn < 40 ∧ l[q] = (tn : Int)) := hmem
  have HR : Hid (Rise l) := hrise
  obtain ⟨gv, cv, rfl, hcv, hgv, hrv⟩ := hg.lst
  have HI : Hid (IRow w2 gv 0 l) := hrv
  have hgvn : w1.heap.size ≤ gv := by
    obtain ⟨g', c', he, h1, _⟩ := hg.gint
    simp at he; omega
  have hcl : c < w.heap.size := hm.lt
  have hLl2 : L < w2.heap.size := Nat.lt_of_lt_of_le hLl hw2.size
  have hne : gv ≠ c := by have := hb1.size; omega
  have hm2 : Hid (KM w2 c m) := hm.on hw2
  have HL2 : Hid (Cells w2 L (lrnC (.slice (some ⟨g, 0, none⟩) code.length cap) P a b c)) := HL.out.on hw2
  have hg2 : w.grownBy w2 (some c) := gb_of hw2 _
  clear hmem hrise hb1 hb2 hg hrv HL c0 hm hrow hw2 hgvn
  go_wp2_with fail
  go_loopw [18] (fun i wr => ∃ q : Nat, q ≤ l.length ∧ i = .int .i64 (q : Int) ∧ Hid (KM wr c (partK l q m j x)) ∧ w2.grownBy wr (some c)) (fun i _ => l.length - (intOf i).toNat)
  case atStart => exact ⟨0, Nat.zero_le _, rfl, by show KM _ _ _; rw [partK_zero]; exact hm2.out, gb_of (Below.refl _ _) _⟩
  case round =>
    obtain ⟨q, hq, rfl, hk1, hgr⟩ := hrel
    by_cases hlt : q < l.length
    · have hqi : (q : Int) < (l.length : Int) := by omega
      obtain ⟨tn, htn, he⟩ := HM.out q hlt
      have HE2 : Hid (l[q] = (tn : Int)) := he
      obtain ⟨e0, _⟩ := (HL2.out.gb hgr hLc hLl2) 43 _ (lrnC_at _ _ _ _ _).2.2
      have i0 := irow_gb HI.out hgr hne hgv q (tn : Int) (by rw [List.getElem?_eq_getElem hlt, he])
      rw [Nat.zero_add] at i0
      clear he
      go_wp2_with fail
      refine (learn_at c (partK l q m j x) tn j htn hj x h1 h2 wr hk1.out).mono ?_
      rintro e w3 ⟨y, hy, rfl, hk3, hg3⟩
      have HK : Hid (KM w3 c (partK l (q + 1) m j x)) := by
        show KM _ _ _
        rw [← partK_step HR.out hlt HE2.out m j x hy]
        exact hk3
      clear hy hk3
      go_wp2
      go_roundw
      case rel => exact ⟨q + 1, by omega, by go_num, HK.out, gb_trans hgr hg3⟩
      case measure => simp [intOf]; omega
    · obtain rfl : q = l.length := by omega
      have HK : Hid (KM wr c (tellK code k m j x)) := by show KM _ _ _; rw [← HE.out]; exact hk1.out
      clear hk1 HE
      go_wp2
      refine bodyPost_end (results_none rfl _ _ _) rfl ?_
      exact ⟨rfl, HK.out, gb_trans hg2 hgr⟩
end Pg
end Go.Proofs.Ytffkkhaiedhaiaa
