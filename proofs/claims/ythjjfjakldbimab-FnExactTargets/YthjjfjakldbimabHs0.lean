/- Contracts of the other side's questions about those above. -/
import Derived.Test.YthjjfjakldbimabHi0
import Derived.Test.YthjjfjakldbimabPr0
import Derived.Maps.AppendAt
namespace Go.Proofs.Ythjjfjakldbimab
namespace Pg
open Go.ChangeShapes Go.WideShapes Go.ChangeAt Go.RowKit St

theorem cells_lowP {B k : Nat} {u w : World} {vs : List Value} (h : Cells u k vs) (hb : Below B u w) (hk : k < B) : Cells w k vs := fun i x hx => by
  obtain ⟨h1, h2⟩ := h i x hx
  exact ⟨(hb.cell (p := ⟨k, i, none⟩) hk).trans h1, (hb.frozen (p := ⟨k, i, none⟩) hk).trans h2⟩
theorem nums_snoc (l : List Int) (x : Int) : nums (l ++ [x]) = nums l ++ [.int .i64 x] := by simp [nums]
theorem grow_next {w : World} {B : Nat} {v : Value} {l : List Int} {x : Int} (h : w.ownsRow B 2 1 v (l.length + 1) (nums l ++ [.int .i64 x])) (hv : v ≠ .slice none 0 0) : Grow B w v (l ++ [x]) := by
  refine ⟨?_, hv⟩
  rw [nums_snoc, show (l ++ [x]).length = l.length + 1 from by simp]
  exact h
theorem grow_start (w : World) : Grow w.heap.size (w.alloc (.cells #[] 2)) (.slice (some ⟨w.heap.size, 0, none⟩) 0 0) [] := by
  refine ⟨?_, by simp⟩
  have h : (w.alloc (.cells #[] 2)).ownsRow w.heap.size 2 1 (.slice (some ⟨w.heap.size, 0, none⟩) 0 0) 0 [] := World.ownsRow_made w #[] 0 (Nat.le_refl _) (by decide) (by simp)
  simpa [nums] using h
theorem Grow.on {B : Nat} {u v : World} {x : Value} {l : List Int} (h : Grow B u x l) (hb : Below u.heap.size u v) : Grow B v x l := ⟨ownOn h.1 hb, h.2⟩
theorem Grow.form {B : Nat} {w : World} {x : Value} {l : List Int} (h : Grow B w x l) : ∃ g cap, x = .slice (some ⟨g, 0, none⟩) l.length cap := by
  obtain ⟨g, cap, hv, _⟩ := h.gint
  exact ⟨g, cap, hv⟩
theorem Grow.base' {B B' : Nat} {w : World} {v : Value} {l : List Int} (h : Grow B w v l) (hB : B' ≤ B) : Grow B' w v l := ⟨ownBase h.1 hB, h.2⟩

set_option maxHeartbeats 800000 in
theorem l1Has (g cap : Nat) (l : List Int) (n : Int) (hl : l.length ≤ 1048576) (w : World) (h : IRow w g 0 l) :
    Calls Try.prog 55 #[.slice (some ⟨g, 0, none⟩) l.length cap, .int .i64 n] w fun e w' => e = .returned (.bool (decide (n ∈ l))) ∧ w' = w := by
  have HI : Hid (IRow w g 0 l) := h
  clear h
  go_enter Try.func55, Try.ntmps55
  go_wp2
  go_loopw [5] (fun i wr => ∃ k : Nat, k ≤ l.length ∧ i = .int .i64 k ∧ Hid (n ∉ l.take k) ∧ wr = w) (fun i _ => l.length - (intOf i).toNat)
  case atStart => exact ⟨0, Nat.zero_le _, rfl, by show _ ∉ _; simp, rfl⟩
  case round =>
    obtain ⟨k, hk, rfl, hno, rfl⟩ := hrel
    by_cases hlt : k < l.length
    · have c0 := HI.out k _ (List.getElem?_eq_getElem hlt)
      rw [Nat.zero_add] at c0
      have HT : Hid (l[k] ≠ n → n ∉ l.take (k + 1)) := fun h hm => by
        rw [List.take_succ_eq_append_getElem hlt] at hm
        rcases List.mem_append.1 hm with hm | hm
        · exact hno.out hm
        · simp at hm; exact h hm.symm
      have HF : Hid (l[k] = n → decide (n ∈ l) = true) := fun h => by
        simp only [decide_eq_true_eq]; rw [← h]; exact List.getElem_mem hlt
      generalize l[k] = x at *
      have hki : (k : Int) < (l.length : Int) := by omega
      by_cases hx : x = n
      · have HD : Hid (decide (n ∈ l) = true) := HF.out hx
        have hxb : (x == n) = true := by simpa using hx
        clear HT HF hno hx
        go_wp2
        go_ret
        exact ⟨retB HD.out.symm, rfl⟩
      · have HD : Hid (n ∉ l.take (k + 1)) := HT.out hx
        have hxb : (x == n) = false := by simpa using hx
        clear HT HF hno hx
        go_wp2
        go_roundw
        case rel => exact ⟨k + 1, by omega, by go_num, HD.out, by simp⟩
        case measure => simp [intOf]; omega
    · have HD : Hid (decide (n ∈ l) = false) := by
        show _ = _
        have h := hno.out
        rw [List.take_of_length_le (by omega)] at h
        simpa using h
      go_wp2
      go_ret
      exact ⟨retB HD.out.symm, rfl⟩
set_option maxRecDepth 100000 in
set_option maxHeartbeats 1000000 in
theorem l5Above (B : Nat) (p : Prg) (a : Option Addr) (cap : Nat) (u0 : Int) (hu0 : -1 ≤ u0) (hu1 : u0 < (p.length : Int)) (h6 : p.length ≤ 6) (hsup : SupOk p p.length) (w : World) (hp : SK front B w (.slice a p.length cap) p) :
    Calls Try.prog 30 #[.agg #[.slice a p.length cap], .int .i64 u0] w fun e w' => ∃ v, e = .returned v ∧ Grow w.heap.size w' v (upL p u0) ∧ Below w.heap.size w w' := by
  obtain ⟨i0, hif, hz0, hz1, hz2⟩ := info_parts infoN
  have HP : Hid (SK front B w (.slice a p.length cap) p) := hp
  have HSUP : Hid (SupOk p p.length) := hsup
  clear hp hsup
  obtain ⟨W, hW⟩ : ∃ W, W = w.alloc (.cells #[.slice a p.length cap] 30) := ⟨_, rfl⟩
  have hwW : Below w.heap.size w W := by rw [hW]; exact (Below.refl _ _).alloc (Nat.le_refl _) _
  have P0 : Hid (Cells W w.heap.size [.slice a p.length cap]) := by rw [hW]; exact Cells.new w _ rfl _ _
  have G0 : Hid (Grow W.heap.size (W.alloc (.cells #[] 2)) (.slice (some ⟨W.heap.size, 0, none⟩) 0 0) []) := grow_start W
  have HSZ : Hid (W.heap.size = w.heap.size + 1) := by show _ = _; rw [hW]; simp
  go_enter Try.func30, Try.ntmps30
  go_wp2
  rw [← HSZ.out, ← hW]
  clear hW
  go_loopw [1, 5] (fun x y wr => ∃ (pre : List Int) (u : Int) (v0 : Value), x = .int .i64 u ∧ v0 = y ∧ -1 ≤ u ∧ u < (p.length : Int) ∧ Hid (upL p u0 = pre ++ upL p u) ∧ Hid (Grow W.heap.size wr v0 pre) ∧ Below W.heap.size W wr) (fun x _ _ => (intOf x + 1).toNat)
  case atStart => exact ⟨[], u0, _, rfl, rfl, hu0, hu1, by show _ = _; simp, G0.out, (Below.refl _ _).alloc (Nat.le_refl _) _⟩
  case round =>
    clear hu0 hu1 G0
    obtain ⟨pre, u, v0, rfl, rfl, hu0, hu1, hx, hg, hb⟩ := hrel
    have hwr : Below w.heap.size w wr := hwW.trans (hb.mono hwW.size)
    by_cases hneg : u = -1
    · have HE : Hid (upL p u0 = pre) := by
        show _ = _
        rw [hx.out, hneg, upL_neg p (by omega)]; simp
      obtain ⟨g, cp, rfl⟩ := hg.out.form
      have HG : Hid (Grow w.heap.size wr (.slice (some ⟨g, 0, none⟩) pre.length cp) (upL p u0)) := by
        rw [HE.out]; exact hg.out.base' (by have := HSZ.out; omega)
      subst hneg
      clear hx hg HE
      go_wp2
      go_ret
      exact ⟨_, rfl, HG.out, hwr⟩
    · obtain ⟨j, rfl⟩ := Int.eq_ofNat_of_zero_le (show 0 ≤ u by omega)
      have hjp : j < p.length := by omega
      have hji : (j : Int) < (p.length : Int) := by omega
      have hj0 : (0 : Int) ≤ (j : Int) := by omega
      have HST : Hid (upL p u0 = (pre ++ [(j : Int)]) ++ upL p p[j].super) := by
        show _ = _
        rw [hx.out, upL_step HSUP.out hjp (by omega) (List.getElem?_eq_getElem hjp)]; simp
      have hlen : pre.length < 6 := by
        have h1 := upL_len p u0
        rw [HST.out] at h1
        simp at h1
        omega
      obtain ⟨b, o, rfl, _, vf, vm, d0, d1, d2, hcv⟩ := HP.out.get hjp
      have l0 : b < w.heap.size := cell_lt d0
      have hsu := HSUP.out j _ hjp (List.getElem?_eq_getElem hjp)
      generalize p[j] = c at *
      have hsu1 := hsu.1
      have hsu2 := hsu.2
      clear hcv hsu d1 d2 hneg hx
      obtain ⟨g, cp, rfl⟩ := hg.out.form
      have hzr : W.heap.size ≤ wr.heap.size := hb.size
      go_wp2_with (at_builtin; refine wpList_append_own _ rfl _ _ 26 rfl W.heap.size 2 i0 (.int .i64 0) 1 8 Try.underlying26 hif hz0 hz1 hz2 rfl (by decide) _ _ _ rfl (hg.out.1.alloc _) ⟨wr.heap.size, 0, none⟩ 1 1 [.int .i64 (j : Int)] rfl rfl (cell_one_new _ _ _) (by simp [Value.oneCell']) (by unfold maxLen; omega) (by omega) (by simp; omega) ?_)
      intro v' w1 hown hgrow hnil
      have hb1 : Below W.heap.size W w1 := (hb.alloc hb.size _).grown hgrow (by simp; omega) (fun k hk => by simp [Value.ownBlock] at hk; subst hk; exact (hg.out.1.lt g rfl).1)
      have HG : Hid (Grow W.heap.size w1 v' (pre ++ [(j : Int)])) := grow_next hown (fun h => by first | exact hnil h | exact absurd (hnil.1 h).1 (by simp))
      clear hown hgrow hnil
      obtain ⟨p0, _⟩ := (cells_lowP P0.out hb1 (by have := HSZ.out; omega)).g0
      have hw1 : Below w.heap.size w w1 := hwW.trans (hb1.mono hwW.size)
      have c0 := (hw1.cell l0).trans d0
      clear hb hwr hg
      go_wp2
      go_roundw
      case rel => exact ⟨pre ++ [(j : Int)], c.super, v', rfl, rfl, hsu1, by omega, HST.out, HG.out, hb1⟩
      case measure => simp [intOf]; omega
set_option maxHeartbeats 1000000 in
theorem l5Under (B : Nat) (p : Prg) (a : Option Addr) (cap : Nat) (u0 b : Int) (hu0 : -1 ≤ u0) (hu1 : u0 < (p.length : Int)) (h6 : p.length ≤ 6) (hsup : SupOk p p.length) (w : World) (hp : SK front B w (.slice a p.length cap) p) :
    Calls Try.prog 36 #[.agg #[.slice a p.length cap], .int .i64 u0, .int .i64 b] w fun e w' => e = .returned (.bool (undB p u0 b)) ∧ Below w.heap.size w w' := by
  obtain ⟨W, hW⟩ : ∃ W, W = w.alloc (.cells #[.slice a p.length cap] 30) := ⟨_, rfl⟩
  have hwW : Below w.heap.size w W := by rw [hW]; exact (Below.refl _ _).alloc (Nat.le_refl _) _
  have HP : Hid (SK front B W (.slice a p.length cap) p) := SK.on hp (Keep.of hwW)
  have HSUP : Hid (SupOk p p.length) := hsup
  clear hp hsup
  go_enter Try.func36, Try.ntmps36
  go_wp2_with fail
  rw [← hW]
  clear hW
  refine (l5Above B p a cap u0 hu0 hu1 h6 HSUP.out _ HP.out).mono ?_
  rintro e w1 ⟨v, rfl, hg, hb1⟩
  obtain ⟨g, cp, rfl, _, _, hir, _⟩ := hg.gint
  have hw1 : Below w.heap.size w w1 := below_over hwW hb1
  have HI : Hid (IRow w1 g 0 (upL p u0)) := hir
  have hln := upL_len p u0
  clear hg hir hb1
  go_wp2_with fail
  refine (l1Has g cp (upL p u0) b (by omega) _ HI.out).mono ?_
  rintro e w2 ⟨rfl, rfl⟩
  go_wp2
  go_ret
  exact ⟨rfl, hw1⟩
theorem lowF_neg (p : Prg) {u : Int} (b : Int) (h : u < 0) : lowF p u b = -1 := by unfold lowF; rw [upL_neg p h]; rfl
theorem lowF_step {p : Prg} {n : Nat} (hs : SupOk p n) {u : Nat} (hu : u < n) (h6 : u < 6) {c : Cls} (hc : p[u]? = some c) (b : Int) : lowF p (u : Int) b = if undB p b (u : Int) then (u : Int) else lowF p c.super b := by
  unfold lowF
  rw [upL_step hs hu h6 hc, find_step]
  split <;> rfl
theorem selF_neg (p : Prg) {u : Int} (b : Int) (h : u < 0) : selF p u b = -1 := by unfold selF; rw [upL_neg p h]; rfl
theorem selF_step {p : Prg} {n : Nat} (hs : SupOk p n) {u : Nat} (hu : u < n) (h6 : u < 6) {c : Cls} (hc : p[u]? = some c) (b : Int) : selF p (u : Int) b = if (ownF c b).isSome then (u : Int) else selF p c.super b := by
  unfold selF
  rw [upL_step hs hu h6 hc, find_step]
  have : hasM p b (u : Int) = (ownF c b).isSome := by unfold hasM; rw [Int.toNat_natCast, hc]
  rw [this]
  split <;> rfl
set_option maxRecDepth 100000 in
set_option maxHeartbeats 1000000 in
theorem l5Lowest (B : Nat) (p : Prg) (a : Option Addr) (cap : Nat) (u0 b : Int) (hu0 : -1 ≤ u0) (hu1 : u0 < (p.length : Int)) (hv0 : -1 ≤ b) (hv1 : b < (p.length : Int)) (h6 : p.length ≤ 6) (hsup : SupOk p p.length) (w : World) (hp : SK front B w (.slice a p.length cap) p) :
    Calls Try.prog 38 #[.agg #[.slice a p.length cap], .int .i64 u0, .int .i64 b] w fun e w' => e = .returned (.int .i64 (lowF p u0 b)) ∧ Below w.heap.size w w' := by
  have HP : Hid (SK front B w (.slice a p.length cap) p) := hp
  have HSUP : Hid (SupOk p p.length) := hsup
  clear hp hsup
  obtain ⟨W, hW⟩ : ∃ W, W = w.alloc (.cells #[.slice a p.length cap] 30) := ⟨_, rfl⟩
  have hwW : Below w.heap.size w W := by rw [hW]; exact (Below.refl _ _).alloc (Nat.le_refl _) _
  have P0 : Hid (Cells W w.heap.size [.slice a p.length cap]) := by rw [hW]; exact Cells.new w _ rfl _ _
  go_enter Try.func38, Try.ntmps38
  go_wp2
  rw [← hW]
  clear hW
  go_loopw [1] (fun x wr => ∃ u : Int, x = .int .i64 u ∧ -1 ≤ u ∧ u < (p.length : Int) ∧ Hid (lowF p u0 b = lowF p u b) ∧ Below W.heap.size W wr) (fun x _ => (intOf x + 1).toNat)
  case atStart => exact ⟨u0, rfl, hu0, hu1, rfl, Below.refl _ _⟩
  case round =>
    clear hu0 hu1
    obtain ⟨u, rfl, hu0, hu1, hx, hb⟩ := hrel
    have hwr : Below w.heap.size w wr := below_over hwW hb
    by_cases hneg : u = -1
    · have HE : Hid (lowF p u0 b = -1) := by show _ = _; rw [hx.out, hneg]; exact lowF_neg p b (by omega)
      subst hneg
      go_wp2
      go_ret
      exact ⟨retI HE.out.symm, hwr⟩
    · obtain ⟨j, rfl⟩ := Int.eq_ofNat_of_zero_le (show 0 ≤ u by omega)
      have hjp : j < p.length := by omega
      have hji : (j : Int) < (p.length : Int) := by omega
      have hj0 : (0 : Int) ≤ (j : Int) := by omega
      have HST : Hid (lowF p u0 b = if undB p b (j : Int) then (j : Int) else lowF p p[j].super b) := by
        show _ = _
        rw [hx.out, lowF_step HSUP.out hjp (by omega) (List.getElem?_eq_getElem hjp)]
      obtain ⟨b', o, rfl, _, vf, vm, d0, d1, d2, hcv⟩ := HP.out.get hjp
      have l0 : b' < w.heap.size := cell_lt d0
      have hsu := HSUP.out j _ hjp (List.getElem?_eq_getElem hjp)
      generalize p[j] = c at *
      have hsu1 := hsu.1
      have hsu2 := hsu.2
      clear hcv hsu d1 d2 hneg hx
      obtain ⟨p0, _⟩ := (P0.out.on hb).g0
      go_wp2_with fail
      refine (l5Under B p (some ⟨b', o, none⟩) cap b (j : Int) hv0 hv1 h6 HSUP.out _ (SK.on HP.out (Keep.of hwr))).mono ?_
      rintro e w1 ⟨rfl, hb1⟩
      have hw1 : Below w.heap.size w w1 := below_over hwr hb1
      have hW1 : Below W.heap.size W w1 := below_over hb hb1
      have c0 := (hw1.cell l0).trans d0
      clear p0
      obtain ⟨p0, _⟩ := (P0.out.on hW1).g0
      clear hb1 hb hwr
      cases hq : undB p b (j : Int)
      · have HE : Hid (lowF p u0 b = lowF p c.super b) := by show _ = _; rw [HST.out, hq]; rfl
        clear HST
        go_wp2
        go_roundw
        case rel => exact ⟨c.super, rfl, hsu1, by omega, HE.out, hW1⟩
        case measure => simp [intOf]; omega
      · have HE : Hid (lowF p u0 b = (j : Int)) := by show _ = _; rw [HST.out, hq]; rfl
        clear HST
        go_wp2
        go_ret
        exact ⟨retI HE.out.symm, hw1⟩
theorem ownI_neg (c : Cls) (name : Int) : decide (ownI c name < 0) = !(ownF c name).isSome := by
  unfold ownI ownF
  cases h : c.meths.findIdx? (fun m => decide (m.name = name)) with
  | none =>
    have h2 : c.meths.find? (fun m => decide (m.name = name)) = none := by
      rw [List.find?_eq_none]
      intro m hm
      have := (List.findIdx?_eq_none_iff.1 h) m hm
      simpa using this
    rw [h2]; rfl
  | some k =>
    have h2 : (c.meths.find? (fun m => decide (m.name = name))).isSome = true := by
      rw [List.findIdx?_eq_some_iff_getElem] at h
      obtain ⟨hk, hp, _⟩ := h
      rw [List.find?_isSome]
      exact ⟨c.meths[k], List.getElem_mem hk, hp⟩
    rw [h2]
    simp
set_option maxRecDepth 100000 in
set_option maxHeartbeats 1000000 in
theorem l5Selected (B : Nat) (p : Prg) (a : Option Addr) (cap : Nat) (u0 b : Int) (hu0 : -1 ≤ u0) (hu1 : u0 < (p.length : Int)) (hsp : SmallP p) (h6 : p.length ≤ 6) (hsup : SupOk p p.length) (w : World) (hp : SK front B w (.slice a p.length cap) p) :
    Calls Try.prog 41 #[.agg #[.slice a p.length cap], .int .i64 u0, .int .i64 b] w fun e w' => e = .returned (.int .i64 (selF p u0 b)) ∧ Below w.heap.size w w' := by
  have HP : Hid (SK front B w (.slice a p.length cap) p) := hp
  have HSUP : Hid (SupOk p p.length) := hsup
  have HSP : Hid (SmallP p) := hsp
  clear hp hsup hsp
  obtain ⟨W, hW⟩ : ∃ W, W = w.alloc (.cells #[.slice a p.length cap] 30) := ⟨_, rfl⟩
  have hwW : Below w.heap.size w W := by rw [hW]; exact (Below.refl _ _).alloc (Nat.le_refl _) _
  have P0 : Hid (Cells W w.heap.size [.slice a p.length cap]) := by rw [hW]; exact Cells.new w _ rfl _ _
  go_enter Try.func41, Try.ntmps41
  go_wp2
  rw [← hW]
  clear hW
  go_loopw [1] (fun x wr => ∃ u : Int, x = .int .i64 u ∧ -1 ≤ u ∧ u < (p.length : Int) ∧ Hid (selF p u0 b = selF p u b) ∧ Below W.heap.size W wr) (fun x _ => (intOf x + 1).toNat)
  case atStart => exact ⟨u0, rfl, hu0, hu1, rfl, Below.refl _ _⟩
  case round =>
    clear hu0 hu1
    obtain ⟨u, rfl, hu0, hu1, hx, hb⟩ := hrel
    have hwr : Below w.heap.size w wr := below_over hwW hb
    by_cases hneg : u = -1
    · have HE : Hid (selF p u0 b = -1) := by show _ = _; rw [hx.out, hneg]; exact selF_neg p b (by omega)
      subst hneg
      go_wp2
      go_ret
      exact ⟨retI HE.out.symm, hwr⟩
    · obtain ⟨j, rfl⟩ := Int.eq_ofNat_of_zero_le (show 0 ≤ u by omega)
      have hjp : j < p.length := by omega
      have hji : (j : Int) < (p.length : Int) := by omega
      have hj0 : (0 : Int) ≤ (j : Int) := by omega
      have HST : Hid (selF p u0 b = if (ownF p[j] b).isSome then (j : Int) else selF p p[j].super b) := by
        show _ = _
        rw [hx.out, selF_step HSUP.out hjp (by omega) (List.getElem?_eq_getElem hjp)]
      obtain ⟨b', o, rfl, _, vf, vm, d0, d1, d2, hcv⟩ := HP.out.get hjp
      obtain ⟨z1, t1, rfl⟩ := hcv.1.form
      obtain ⟨z2, t2, rfl⟩ := hcv.2.form
      have l0 : b' < w.heap.size := cell_lt d0
      have hsu := HSUP.out j _ hjp (List.getElem?_eq_getElem hjp)
      have HSM : Hid (SM front B w (.slice z2 p[j].meths.length t2) p[j].meths) := hcv.2
      have hsm := HSP.out.2 _ (List.getElem_mem hjp)
      have hsl := hsm.2.1
      have k0 := (hwr.cell l0).trans d0
      have k1 := (hwr.cell l0).trans d1
      have k2 := (hwr.cell l0).trans d2
      generalize p[j] = c at *
      have hsu1 := hsu.1
      have hsu2 := hsu.2
      clear hcv hsu d1 d2 hneg hx hsm
      obtain ⟨p0, _⟩ := (P0.out.on hb).g0
      go_wp2_with fail
      refine (l4Own B c z1 z2 t2 c.fields.length t1 b hsl _ (SM.on HSM.out (Keep.of hwr))).mono ?_
      rintro e w1 ⟨rfl, hb1⟩
      have hw1 : Below w.heap.size w w1 := below_over hwr hb1
      have hW1 : Below W.heap.size W w1 := below_over hb hb1
      have c0 := (hw1.cell l0).trans d0
      clear p0 k0 k1 k2
      obtain ⟨p0, _⟩ := (P0.out.on hW1).g0
      clear hb1 hb hwr
      have HO1 : Hid (ownI c b < 0 → (ownF c b).isSome = false) := fun h => by have := ownI_neg c b; rw [decide_eq_true h] at this; simpa using this.symm
      have HO2 : Hid (¬ ownI c b < 0 → (ownF c b).isSome = true) := fun h => by have := ownI_neg c b; rw [decide_eq_false h] at this; simpa using this.symm
      generalize ownI c b = oi at *
      by_cases hq : oi < 0
      · have HE : Hid (selF p u0 b = selF p c.super b) := by
          show _ = _
          rw [HST.out, HO1.out hq]; rfl
        clear HST HO1 HO2
        go_wp2
        go_roundw
        case rel => exact ⟨c.super, rfl, hsu1, by omega, HE.out, hW1⟩
        case measure => simp [intOf]; omega
      · have HE : Hid (selF p u0 b = (j : Int)) := by
          show _ = _
          rw [HST.out, HO2.out hq]; rfl
        clear HST HO1 HO2
        go_wp2
        go_ret
        exact ⟨retI HE.out.symm, hw1⟩
end Pg
end Go.Proofs.Ythjjfjakldbimab
