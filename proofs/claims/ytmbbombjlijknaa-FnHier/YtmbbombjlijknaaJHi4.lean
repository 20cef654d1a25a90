/- Contracts of both sides' question whether a program and a class of it are right. -/
import Derived.Test.YtmbbombjlijknaaJPs0
import Derived.Test.YtmbbombjlijknaaJPs1
import Derived.Test.YtmbbombjlijknaaJDq0
import Derived.Test.YtmbbombjlijknaaJPi0
import Derived.Maps.AppendAt
import Derived.Test.YtmbbombjlijknaaJHi2
import Derived.Maps.OwnIn
import Derived.Test.YtmbbombjlijknaaJPi1
import Derived.Deep.RegionHeld3
import Derived.OrdersIn
namespace Go.Proofs.Ytmbbombjlijknaa
namespace Pg
open Go.ChangeShapes Go.WideShapes Go.ChangeAt Go.RowKit St

def inB (p : Prg) (t : Int) : Bool := decide (0 ≤ t) && decide (t < (p.length : Int))
theorem okIn {p : Prg} {t : Int} (h : (okP p && inB p t) = true) : okP p = true ∧ 0 ≤ t ∧ t < (p.length : Int) := by
  simp only [Bool.and_eq_true, inB, decide_eq_true_eq] at h
  exact h
set_option maxHeartbeats 1000000 in
theorem isRightClass (B : Nat) (p : Prg) (a : Option Addr) (cap : Nat) (t : Int) (hsp : SmallP p) (w : World) (hp : SK front B w (.slice a p.length cap) p) :
    Calls Try.prog 36 #[.agg #[.slice a p.length cap], .int .i64 t] w fun e w' => e = .returned (.bool (okP p && inB p t)) ∧ Below w.heap.size w w' := by
  have HSP : Hid (SmallP p) := hsp
  have HP : Hid (SK front B w (.slice a p.length cap) p) := hp
  clear hp hsp
  obtain ⟨W, hW⟩ : ∃ W, W = w.alloc (.cells #[.slice a p.length cap] 26) := ⟨_, rfl⟩
  have hwW : Below w.heap.size w W := by rw [hW]; exact (Below.refl _ _).alloc (Nat.le_refl _) _
  have P0 : Hid (Cells W w.heap.size [.slice a p.length cap]) := by rw [hW]; exact Cells.new w _ rfl _ _
  go_enter Try.func36, Try.ntmps36
  go_wp2_with fail
  rw [← hW]
  clear hW
  refine (implProgramOk B p a cap HSP.out _ (SK.on HP.out (Keep.of hwW))).mono ?_
  rintro e w1 ⟨rfl, hb1⟩
  have hw1 : Below w.heap.size w w1 := below_over hwW hb1
  obtain ⟨q0, _⟩ := (P0.out.on hb1).g0
  clear hb1 P0
  cases hok : okP p
  · have HN : Hid ((okP p && inB p t) = false) := by show _ = _; rw [hok]; rfl
    go_wp2
    go_ret
    exact ⟨retB HN.out.symm, hw1⟩
  · have HN : Hid ((okP p && inB p t) = (decide (0 ≤ t) && decide (t < (p.length : Int)))) := by show _ = _; rw [hok]; rfl
    go_wp2_with fail
    refine (hasClass a p.length cap t _).mono ?_
    rintro e w2 ⟨rfl, hb2⟩
    have hw2 : Below w.heap.size w w2 := below_over hw1 hb2
    clear hb2 q0 hok
    generalize (decide (0 ≤ t) && decide (t < (p.length : Int))) = q at *
    go_wp2
    go_ret
    exact ⟨retB HN.out.symm, hw2⟩
set_option maxHeartbeats 1000000 in
theorem l4In (B : Nat) (p : Prg) (a : Option Addr) (cap : Nat) (t : Int) (hsp : SmallP p) (w : World) (hp : SK front B w (.slice a p.length cap) p) :
    Calls Try.prog 42 #[.agg #[.slice a p.length cap], .int .i64 t] w fun e w' => e = .returned (.bool (okP p && inB p t)) ∧ Below w.heap.size w w' := by
  have HSP : Hid (SmallP p) := hsp
  have HP : Hid (SK front B w (.slice a p.length cap) p) := hp
  clear hp hsp
  obtain ⟨W, hW⟩ : ∃ W, W = w.alloc (.cells #[.slice a p.length cap] 26) := ⟨_, rfl⟩
  have hwW : Below w.heap.size w W := by rw [hW]; exact (Below.refl _ _).alloc (Nat.le_refl _) _
  have P0 : Hid (Cells W w.heap.size [.slice a p.length cap]) := by rw [hW]; exact Cells.new w _ rfl _ _
  go_enter Try.func42, Try.ntmps42
  go_wp2_with fail
  rw [← hW]
  clear hW
  refine (specProgramOk B p a cap HSP.out _ (SK.on HP.out (Keep.of hwW))).mono ?_
  rintro e w1 ⟨rfl, hb1⟩
  have hw1 : Below w.heap.size w w1 := below_over hwW hb1
  obtain ⟨q0, _⟩ := (P0.out.on hb1).g0
  clear hb1 P0
  cases hok : okP p
  · have HN : Hid ((okP p && inB p t) = false) := by show _ = _; rw [hok]; rfl
    go_wp2
    go_ret
    exact ⟨retB HN.out.symm, hw1⟩
  · by_cases h0 : 0 ≤ t
    · have HN : Hid ((okP p && inB p t) = decide (t < (p.length : Int))) := by show _ = _; rw [hok]; simp [inB, h0]
      by_cases h1 : t < (p.length : Int)
      · have HX : Hid ((okP p && inB p t) = true) := by show _ = _; rw [HN.out]; simp [h1]
        go_wp2
        go_ret
        exact ⟨retB HX.out.symm, hw1⟩
      · go_wp2
        go_ret
        exact ⟨retB HN.out.symm, hw1⟩
    · have HN : Hid (inB p t = false) := by show _ = _; simp [inB, h0]
      have HM : Hid ((okP p && inB p t) = false) := by show _ = _; rw [HN.out]; simp
      clear hok
      go_wp2
      go_ret
      exact ⟨retB HM.out.symm, hw1⟩

end Pg
end Go.Proofs.Ytmbbombjlijknaa

/- Contracts of the other side's questions about those above. -/
namespace Go.Proofs.Ytmbbombjlijknaa
namespace Pg
open Go.ChangeShapes Go.WideShapes Go.ChangeAt Go.RowKit St

theorem cells_lowP {B k : Nat} {u w : World} {vs : List Value} (h : Cells u k vs) (hb : Below B u w) (hk : k < B) : Cells w k vs := fun i x hx => by
  obtain ⟨h1, h2⟩ := h i x hx
  exact ⟨(hb.cell (p := ⟨k, i, none⟩) hk).trans h1, (hb.frozen (p := ⟨k, i, none⟩) hk).trans h2⟩
theorem nums_snoc (l : List Int) (x : Int) : nums (l ++ [x]) = nums l ++ [.int .i64 x] := by simp [nums]
theorem grow_next {w : World} {B : Nat} {v : Value} {l : List Int} {x : Int} (h : w.ownsRow B 2 1 v (l.length + 1) (nums l ++ [.int .i64 x])) (hv : v ≠ .slice none 0 0) : Grow B w v (l ++ [x]) := by
  refine ⟨?_, hv⟩
  rw [nums_snoc, show (l ++ [x]).length = l.length + 1 from by simp]
  exact h
theorem grow_start (w : World) : Grow w.heap.size (w.alloc (.cells #[] 2)) (.slice (some ⟨w.heap.size, 0, none⟩) 0 0) [] := by
  refine ⟨?_, by simp⟩
  have h : (w.alloc (.cells #[] 2)).ownsRow w.heap.size 2 1 (.slice (some ⟨w.heap.size, 0, none⟩) 0 0) 0 [] := World.ownsRow_made w #[] 0 (Nat.le_refl _) (by decide) (by simp)
  simpa [nums] using h
theorem Grow.on {B : Nat} {u v : World} {x : Value} {l : List Int} (h : Grow B u x l) (hb : Below u.heap.size u v) : Grow B v x l := ⟨ownOn h.1 hb, h.2⟩
theorem Grow.form {B : Nat} {w : World} {x : Value} {l : List Int} (h : Grow B w x l) : ∃ g cap, x = .slice (some ⟨g, 0, none⟩) l.length cap := by
  obtain ⟨g, cap, hv, _⟩ := h.gint
  exact ⟨g, cap, hv⟩
theorem Grow.base' {B B' : Nat} {w : World} {v : Value} {l : List Int} (h : Grow B w v l) (hB : B' ≤ B) : Grow B' w v l := ⟨ownBase h.1 hB, h.2⟩

set_option maxHeartbeats 800000 in
theorem l1Has (g cap : Nat) (l : List Int) (n : Int) (hl : l.length ≤ 1048576) (w : World) (h : IRow w g 0 l) :
    Calls Try.prog 75 #[.slice (some ⟨g, 0, none⟩) l.length cap, .int .i64 n] w fun e w' => e = .returned (.bool (decide (n ∈ l))) ∧ w' = w := by
  have HI : Hid (IRow w g 0 l) := h
  clear h
  go_enter Try.func75, Try.ntmps75
  go_wp2
  go_loopw [5] (fun i wr => ∃ k : Nat, k ≤ l.length ∧ i = .int .i64 k ∧ Hid (n ∉ l.take k) ∧ wr = w) (fun i _ => l.length - (intOf i).toNat)
  case atStart => exact ⟨0, Nat.zero_le _, rfl, by show _ ∉ _; simp, rfl⟩
  case round =>
    obtain ⟨k, hk, rfl, hno, rfl⟩ := hrel
    by_cases hlt : k < l.length
    · have c0 := HI.out k _ (List.getElem?_eq_getElem hlt)
      rw [Nat.zero_add] at c0
      have HT : Hid (l[k] ≠ n → n ∉ l.take (k + 1)) := fun h hm => by
        rw [List.take_succ_eq_append_getElem hlt] at hm
        rcases List.mem_append.1 hm with hm | hm
        · exact hno.out hm
        · simp at hm; exact h hm.symm
      have HF : Hid (l[k] = n → decide (n ∈ l) = true) := fun h => by
        simp only [decide_eq_true_eq]; rw [← h]; exact List.getElem_mem hlt
      generalize l[k] = x at *
      have hki : (k : Int) < (l.length : Int) := by omega
      by_cases hx : x = n
      · have HD : Hid (decide (n ∈ l) = true) := HF.out hx
        have hxb : (x == n) = true := by simpa using hx
        clear HT HF hno hx
        go_wp2
        go_ret
        exact ⟨retB HD.out.symm, rfl⟩
      · have HD : Hid (n ∉ l.take (k + 1)) := HT.out hx
        have hxb : (x == n) = false := by simpa using hx
        clear HT HF hno hx
        go_wp2
        go_roundw
        case rel => exact ⟨k + 1, by omega, by go_num, HD.out, by simp⟩
        case measure => simp [intOf]; omega
    · have HD : Hid (decide (n ∈ l) = false) := by
        show _ = _
        have h := hno.out
        rw [List.take_of_length_le (by omega)] at h
        simpa using h
      go_wp2
      go_ret
      exact ⟨retB HD.out.symm, rfl⟩
set_option maxRecDepth 100000 in
set_option maxHeartbeats 1000000 in
theorem l5Above (B : Nat) (p : Prg) (a : Option Addr) (cap : Nat) (u0 : Int) (hu0 : -1 ≤ u0) (hu1 : u0 < (p.length : Int)) (h6 : p.length ≤ 6) (hsup : SupOk p p.length) (w : World) (hp : SK front B w (.slice a p.length cap) p) :
    Calls Try.prog 46 #[.agg #[.slice a p.length cap], .int .i64 u0] w fun e w' => ∃ v, e = .returned v ∧ Grow w.heap.size w' v (upL p u0) ∧ Below w.heap.size w w' := by
  obtain ⟨i0, hif, hz0, hz1, hz2⟩ := info_parts infoN
  have HP : Hid (SK front B w (.slice a p.length cap) p) := hp
  have HSUP : Hid (SupOk p p.length) := hsup
  clear hp hsup
  obtain ⟨W, hW⟩ : ∃ W, W = w.alloc (.cells #[.slice a p.length cap] 26) := ⟨_, rfl⟩
  have hwW : Below w.heap.size w W := by rw [hW]; exact (Below.refl _ _).alloc (Nat.le_refl _) _
  have P0 : Hid (Cells W w.heap.size [.slice a p.length cap]) := by rw [hW]; exact Cells.new w _ rfl _ _
  have G0 : Hid (Grow W.heap.size (W.alloc (.cells #[] 2)) (.slice (some ⟨W.heap.size, 0, none⟩) 0 0) []) := grow_start W
  have HSZ : Hid (W.heap.size = w.heap.size + 1) := by show _ = _; rw [hW]; simp
  go_enter Try.func46, Try.ntmps46
  go_wp2
  rw [← HSZ.out, ← hW]
  clear hW
  go_loopw [1, 5] (fun x y wr => ∃ (pre : List Int) (u : Int) (v0 : Value), x = .int .i64 u ∧ v0 = y ∧ -1 ≤ u ∧ u < (p.length : Int) ∧ Hid (upL p u0 = pre ++ upL p u) ∧ Hid (Grow W.heap.size wr v0 pre) ∧ Below W.heap.size W wr) (fun x _ _ => (intOf x + 1).toNat)
  case atStart => exact ⟨[], u0, _, rfl, rfl, hu0, hu1, by show _ = _; simp, G0.out, (Below.refl _ _).alloc (Nat.le_refl _) _⟩
  case round =>
    clear hu0 hu1 G0
    obtain ⟨pre, u, v0, rfl, rfl, hu0, hu1, hx, hg, hb⟩ := hrel
    have hwr : Below w.heap.size w wr := hwW.trans (hb.mono hwW.size)
    by_cases hneg : u = -1
    · have HE : Hid (upL p u0 = pre) := by
        show _ = _
        rw [hx.out, hneg, upL_neg p (by omega)]; simp
      obtain ⟨g, cp, rfl⟩ := hg.out.form
      have HG : Hid (Grow w.heap.size wr (.slice (some ⟨g, 0, none⟩) pre.length cp) (upL p u0)) := by
        rw [HE.out]; exact hg.out.base' (by have := HSZ.out; omega)
      subst hneg
      clear hx hg HE
      go_wp2
      go_ret
      exact ⟨_, rfl, HG.out, hwr⟩
    · obtain ⟨j, rfl⟩ := Int.eq_ofNat_of_zero_le (show 0 ≤ u by omega)
      have hjp : j < p.length := by omega
      have hji : (j : Int) < (p.length : Int) := by omega
      have hj0 : (0 : Int) ≤ (j : Int) := by omega
      have HST : Hid (upL p u0 = (pre ++ [(j : Int)]) ++ upL p p[j].super) := by
        show _ = _
        rw [hx.out, upL_step HSUP.out hjp (by omega) (List.getElem?_eq_getElem hjp)]; simp
      have hlen : pre.length < 6 := by
        have h1 := upL_len p u0
        rw [HST.out] at h1
        simp at h1
        omega
      obtain ⟨b, o, rfl, _, vf, vm, d0, d1, d2, hcv⟩ := HP.out.get hjp
      have l0 : b < w.heap.size := cell_lt d0
      have hsu := HSUP.out j _ hjp (List.getElem?_eq_getElem hjp)
      generalize p[j] = c at *
      have hsu1 := hsu.1
      have hsu2 := hsu.2
      clear hcv hsu d1 d2 hneg hx
      obtain ⟨g, cp, rfl⟩ := hg.out.form
      have hzr : W.heap.size ≤ wr.heap.size := hb.size
      go_wp2_with (at_builtin; refine wpList_append_own _ rfl _ _ 32 rfl W.heap.size 2 i0 (.int .i64 0) 1 8 Try.underlying32 hif hz0 hz1 hz2 rfl (by decide) _ _ _ rfl (hg.out.1.alloc _) ⟨wr.heap.size, 0, none⟩ 1 1 [.int .i64 (j : Int)] rfl rfl (cell_one_new _ _ _) (by simp [Value.oneCell']) (by unfold maxLen; omega) (by omega) (by simp; omega) ?_)
      intro v' w1 hown hgrow hnil
      have hb1 : Below W.heap.size W w1 := (hb.alloc hb.size _).grown hgrow (by simp; omega) (fun k hk => by simp [Value.ownBlock] at hk; subst hk; exact (hg.out.1.lt g rfl).1)
      have HG : Hid (Grow W.heap.size w1 v' (pre ++ [(j : Int)])) := grow_next hown (fun h => by first | exact hnil h | exact absurd (hnil.1 h).1 (by simp))
      clear hown hgrow hnil
      obtain ⟨p0, _⟩ := (cells_lowP P0.out hb1 (by have := HSZ.out; omega)).g0
      have hw1 : Below w.heap.size w w1 := hwW.trans (hb1.mono hwW.size)
      have c0 := (hw1.cell l0).trans d0
      clear hb hwr hg
      go_wp2
      go_roundw
      case rel => exact ⟨pre ++ [(j : Int)], c.super, v', rfl, rfl, hsu1, by omega, HST.out, HG.out, hb1⟩
      case measure => simp [intOf]; omega
set_option maxHeartbeats 1000000 in
theorem l5Under (B : Nat) (p : Prg) (a : Option Addr) (cap : Nat) (u0 b : Int) (hu0 : -1 ≤ u0) (hu1 : u0 < (p.length : Int)) (h6 : p.length ≤ 6) (hsup : SupOk p p.length) (w : World) (hp : SK front B w (.slice a p.length cap) p) :
    Calls Try.prog 45 #[.agg #[.slice a p.length cap], .int .i64 u0, .int .i64 b] w fun e w' => e = .returned (.bool (undB p u0 b)) ∧ Below w.heap.size w w' := by
  obtain ⟨W, hW⟩ : ∃ W, W = w.alloc (.cells #[.slice a p.length cap] 26) := ⟨_, rfl⟩
  have hwW : Below w.heap.size w W := by rw [hW]; exact (Below.refl _ _).alloc (Nat.le_refl _) _
  have HP : Hid (SK front B W (.slice a p.length cap) p) := SK.on hp (Keep.of hwW)
  have HSUP : Hid (SupOk p p.length) := hsup
  clear hp hsup
  go_enter Try.func45, Try.ntmps45
  go_wp2_with fail
  rw [← hW]
  clear hW
  refine (l5Above B p a cap u0 hu0 hu1 h6 HSUP.out _ HP.out).mono ?_
  rintro e w1 ⟨v, rfl, hg, hb1⟩
  obtain ⟨g, cp, rfl, _, _, hir, _⟩ := hg.gint
  have hw1 : Below w.heap.size w w1 := below_over hwW hb1
  have HI : Hid (IRow w1 g 0 (upL p u0)) := hir
  have hln := upL_len p u0
  clear hg hir hb1
  go_wp2_with fail
  refine (l1Has g cp (upL p u0) b (by omega) _ HI.out).mono ?_
  rintro e w2 ⟨rfl, rfl⟩
  go_wp2
  go_ret
  exact ⟨rfl, hw1⟩
theorem lowF_neg (p : Prg) {u : Int} (b : Int) (h : u < 0) : lowF p u b = -1 := by unfold lowF; rw [upL_neg p h]; rfl
theorem lowF_step {p : Prg} {n : Nat} (hs : SupOk p n) {u : Nat} (hu : u < n) (h6 : u < 6) {c : Cls} (hc : p[u]? = some c) (b : Int) : lowF p (u : Int) b = if undB p b (u : Int) then (u : Int) else lowF p c.super b := by
  unfold lowF
  rw [upL_step hs hu h6 hc, find_step]
  split <;> rfl
theorem selF_neg (p : Prg) {u : Int} (b : Int) (h : u < 0) : selF p u b = -1 := by unfold selF; rw [upL_neg p h]; rfl
theorem selF_step {p : Prg} {n : Nat} (hs : SupOk p n) {u : Nat} (hu : u < n) (h6 : u < 6) {c : Cls} (hc : p[u]? = some c) (b : Int) : selF p (u : Int) b = if (ownF c b).isSome then (u : Int) else selF p c.super b := by
  unfold selF
  rw [upL_step hs hu h6 hc, find_step]
  have : hasM p b (u : Int) = (ownF c b).isSome := by unfold hasM; rw [Int.toNat_natCast, hc]
  rw [this]
  split <;> rfl
set_option maxRecDepth 100000 in
set_option maxHeartbeats 1000000 in
theorem l5Lowest (B : Nat) (p : Prg) (a : Option Addr) (cap : Nat) (u0 b : Int) (hu0 : -1 ≤ u0) (hu1 : u0 < (p.length : Int)) (hv0 : -1 ≤ b) (hv1 : b < (p.length : Int)) (h6 : p.length ≤ 6) (hsup : SupOk p p.length) (w : World) (hp : SK front B w (.slice a p.length cap) p) :
    Calls Try.prog 43 #[.agg #[.slice a p.length cap], .int .i64 u0, .int .i64 b] w fun e w' => e = .returned (.int .i64 (lowF p u0 b)) ∧ Below w.heap.size w w' := by
  have HP : Hid (SK front B w (.slice a p.length cap) p) := hp
  have HSUP : Hid (SupOk p p.length) := hsup
  clear hp hsup
  obtain ⟨W, hW⟩ : ∃ W, W = w.alloc (.cells #[.slice a p.length cap] 26) := ⟨_, rfl⟩
  have hwW : Below w.heap.size w W := by rw [hW]; exact (Below.refl _ _).alloc (Nat.le_refl _) _
  have P0 : Hid (Cells W w.heap.size [.slice a p.length cap]) := by rw [hW]; exact Cells.new w _ rfl _ _
  go_enter Try.func43, Try.ntmps43
  go_wp2
  rw [← hW]
  clear hW
  go_loopw [1] (fun x wr => ∃ u : Int, x = .int .i64 u ∧ -1 ≤ u ∧ u < (p.length : Int) ∧ Hid (lowF p u0 b = lowF p u b) ∧ Below W.heap.size W wr) (fun x _ => (intOf x + 1).toNat)
  case atStart => exact ⟨u0, rfl, hu0, hu1, rfl, Below.refl _ _⟩
  case round =>
    clear hu0 hu1
    obtain ⟨u, rfl, hu0, hu1, hx, hb⟩ := hrel
    have hwr : Below w.heap.size w wr := below_over hwW hb
    by_cases hneg : u = -1
    · have HE : Hid (lowF p u0 b = -1) := by show _ = _; rw [hx.out, hneg]; exact lowF_neg p b (by omega)
      subst hneg
      go_wp2
      go_ret
      exact ⟨retI HE.out.symm, hwr⟩
    · obtain ⟨j, rfl⟩ := Int.eq_ofNat_of_zero_le (show 0 ≤ u by omega)
      have hjp : j < p.length := by omega
      have hji : (j : Int) < (p.length : Int) := by omega
      have hj0 : (0 : Int) ≤ (j : Int) := by omega
      have HST : Hid (lowF p u0 b = if undB p b (j : Int) then (j : Int) else lowF p p[j].super b) := by
        show _ = _
        rw [hx.out, lowF_step HSUP.out hjp (by omega) (List.getElem?_eq_getElem hjp)]
      obtain ⟨b', o, rfl, _, vf, vm, d0, d1, d2, hcv⟩ := HP.out.get hjp
      have l0 : b' < w.heap.size := cell_lt d0
      have hsu := HSUP.out j _ hjp (List.getElem?_eq_getElem hjp)
      generalize p[j] = c at *
      have hsu1 := hsu.1
      have hsu2 := hsu.2
      clear hcv hsu d1 d2 hneg hx
      obtain ⟨p0, _⟩ := (P0.out.on hb).g0
      go_wp2_with fail
      refine (l5Under B p (some ⟨b', o, none⟩) cap b (j : Int) hv0 hv1 h6 HSUP.out _ (SK.on HP.out (Keep.of hwr))).mono ?_
      rintro e w1 ⟨rfl, hb1⟩
      have hw1 : Below w.heap.size w w1 := below_over hwr hb1
      have hW1 : Below W.heap.size W w1 := below_over hb hb1
      have c0 := (hw1.cell l0).trans d0
      clear p0
      obtain ⟨p0, _⟩ := (P0.out.on hW1).g0
      clear hb1 hb hwr
      cases hq : undB p b (j : Int)
      · have HE : Hid (lowF p u0 b = lowF p c.super b) := by show _ = _; rw [HST.out, hq]; rfl
        clear HST
        go_wp2
        go_roundw
        case rel => exact ⟨c.super, rfl, hsu1, by omega, HE.out, hW1⟩
        case measure => simp [intOf]; omega
      · have HE : Hid (lowF p u0 b = (j : Int)) := by show _ = _; rw [HST.out, hq]; rfl
        clear HST
        go_wp2
        go_ret
        exact ⟨retI HE.out.symm, hw1⟩
theorem ownI_neg (c : Cls) (name : Int) : decide (ownI c name < 0) = !(ownF c name).isSome := by
  unfold ownI ownF
  cases h : c.meths.findIdx? (fun m => decide (m.name = name)) with
  | none =>
    have h2 : c.meths.find? (fun m => decide (m.name = name)) = none := by
      rw [List.find?_eq_none]
      intro m hm
      have := (List.findIdx?_eq_none_iff.1 h) m hm
      simpa using this
    rw [h2]; rfl
  | some k =>
    have h2 : (c.meths.find? (fun m => decide (m.name = name))).isSome = true := by
      rw [List.findIdx?_eq_some_iff_getElem] at h
      obtain ⟨hk, hp, _⟩ := h
      rw [List.find?_isSome]
      exact ⟨c.meths[k], List.getElem_mem hk, hp⟩
    rw [h2]
    simp
set_option maxRecDepth 100000 in
set_option maxHeartbeats 1000000 in
theorem l5Selected (B : Nat) (p : Prg) (a : Option Addr) (cap : Nat) (u0 b : Int) (hu0 : -1 ≤ u0) (hu1 : u0 < (p.length : Int)) (hsp : SmallP p) (h6 : p.length ≤ 6) (hsup : SupOk p p.length) (w : World) (hp : SK front B w (.slice a p.length cap) p) :
    Calls Try.prog 52 #[.agg #[.slice a p.length cap], .int .i64 u0, .int .i64 b] w fun e w' => e = .returned (.int .i64 (selF p u0 b)) ∧ Below w.heap.size w w' := by
  have HP : Hid (SK front B w (.slice a p.length cap) p) := hp
  have HSUP : Hid (SupOk p p.length) := hsup
  have HSP : Hid (SmallP p) := hsp
  clear hp hsup hsp
  obtain ⟨W, hW⟩ : ∃ W, W = w.alloc (.cells #[.slice a p.length cap] 26) := ⟨_, rfl⟩
  have hwW : Below w.heap.size w W := by rw [hW]; exact (Below.refl _ _).alloc (Nat.le_refl _) _
  have P0 : Hid (Cells W w.heap.size [.slice a p.length cap]) := by rw [hW]; exact Cells.new w _ rfl _ _
  go_enter Try.func52, Try.ntmps52
  go_wp2
  rw [← hW]
  clear hW
  go_loopw [1] (fun x wr => ∃ u : Int, x = .int .i64 u ∧ -1 ≤ u ∧ u < (p.length : Int) ∧ Hid (selF p u0 b = selF p u b) ∧ Below W.heap.size W wr) (fun x _ => (intOf x + 1).toNat)
  case atStart => exact ⟨u0, rfl, hu0, hu1, rfl, Below.refl _ _⟩
  case round =>
    clear hu0 hu1
    obtain ⟨u, rfl, hu0, hu1, hx, hb⟩ := hrel
    have hwr : Below w.heap.size w wr := below_over hwW hb
    by_cases hneg : u = -1
    · have HE : Hid (selF p u0 b = -1) := by show _ = _; rw [hx.out, hneg]; exact selF_neg p b (by omega)
      subst hneg
      go_wp2
      go_ret
      exact ⟨retI HE.out.symm, hwr⟩
    · obtain ⟨j, rfl⟩ := Int.eq_ofNat_of_zero_le (show 0 ≤ u by omega)
      have hjp : j < p.length := by omega
      have hji : (j : Int) < (p.length : Int) := by omega
      have hj0 : (0 : Int) ≤ (j : Int) := by omega
      have HST : Hid (selF p u0 b = if (ownF p[j] b).isSome then (j : Int) else selF p p[j].super b) := by
        show _ = _
        rw [hx.out, selF_step HSUP.out hjp (by omega) (List.getElem?_eq_getElem hjp)]
      obtain ⟨b', o, rfl, _, vf, vm, d0, d1, d2, hcv⟩ := HP.out.get hjp
      obtain ⟨z1, t1, rfl⟩ := hcv.1.form
      obtain ⟨z2, t2, rfl⟩ := hcv.2.form
      have l0 : b' < w.heap.size := cell_lt d0
      have hsu := HSUP.out j _ hjp (List.getElem?_eq_getElem hjp)
      have HSM : Hid (SM front B w (.slice z2 p[j].meths.length t2) p[j].meths) := hcv.2
      have hsm := HSP.out.2 _ (List.getElem_mem hjp)
      have hsl := hsm.2.1
      have k0 := (hwr.cell l0).trans d0
      have k1 := (hwr.cell l0).trans d1
      have k2 := (hwr.cell l0).trans d2
      generalize p[j] = c at *
      have hsu1 := hsu.1
      have hsu2 := hsu.2
      clear hcv hsu d1 d2 hneg hx hsm
      obtain ⟨p0, _⟩ := (P0.out.on hb).g0
      go_wp2_with fail
      refine (l4Own B c z1 z2 t2 c.fields.length t1 b hsl _ (SM.on HSM.out (Keep.of hwr))).mono ?_
      rintro e w1 ⟨rfl, hb1⟩
      have hw1 : Below w.heap.size w w1 := below_over hwr hb1
      have hW1 : Below W.heap.size W w1 := below_over hb hb1
      have c0 := (hw1.cell l0).trans d0
      clear p0 k0 k1 k2
      obtain ⟨p0, _⟩ := (P0.out.on hW1).g0
      clear hb1 hb hwr
      have HO1 : Hid (ownI c b < 0 → (ownF c b).isSome = false) := fun h => by have := ownI_neg c b; rw [decide_eq_true h] at this; simpa using this.symm
      have HO2 : Hid (¬ ownI c b < 0 → (ownF c b).isSome = true) := fun h => by have := ownI_neg c b; rw [decide_eq_false h] at this; simpa using this.symm
      generalize ownI c b = oi at *
      by_cases hq : oi < 0
      · have HE : Hid (selF p u0 b = selF p c.super b) := by
          show _ = _
          rw [HST.out, HO1.out hq]; rfl
        clear HST HO1 HO2
        go_wp2
        go_roundw
        case rel => exact ⟨c.super, rfl, hsu1, by omega, HE.out, hW1⟩
        case measure => simp [intOf]; omega
      · have HE : Hid (selF p u0 b = (j : Int)) := by
          show _ = _
          rw [HST.out, HO2.out hq]; rfl
        clear HST HO1 HO2
        go_wp2
        go_ret
        exact ⟨retI HE.out.symm, hw1⟩
end Pg
end Go.Proofs.Ytmbbombjlijknaa

/- Contracts of the program's lists of those above and below. -/
namespace Go.Proofs.Ytmbbombjlijknaa
namespace Pg
open Go.ChangeShapes Go.WideShapes Go.ChangeAt Go.RowKit Go.Shelf St
attribute [local go_sem] Oper.semAt_some

def upA (p : Prg) (c : Int) : List Int := if okP p && inB p c then upL p c else []
def downA (p : Prg) (c : Int) : List Int := if okP p && inB p c then downL p c else []
theorem upA_len (p : Prg) (c : Int) : (upA p c).length ≤ 24 := by
  unfold upA; split
  · have := upL_len p c; omega
  · simp
theorem downL_len (p : Prg) (c : Int) (h : p.length ≤ 6) : (downL p c).length ≤ 6 := by
  unfold downL
  have h1 := List.length_filter_le (fun i => undB p i c) (allC p)
  have h2 : (allC p).length = p.length := by simp [allC]
  omega
theorem downA_len (p : Prg) (c : Int) : (downA p c).length ≤ 24 := by
  unfold downA; split
  · rename_i h
    have := downL_len p c (okP_len (okIn h).1).2; omega
  · simp
/-- A list of the caller's own, in a box. -/
def BoxL (n₀ b : Nat) (W : World) (l : List Int) : Prop := ∃ v, Boxed W b 32 v ∧ Grow n₀ W v l
theorem nums_map (l : List Int) : nums l = l.map (Value.int .i64) := rfl
theorem boxL_own {β : Type} (n₀ b : Nat) (f : β → List Int) : Own (fun (s : β) W => BoxL n₀ b W (f s)) := fun s X Y row hs hg hr => by
  obtain ⟨v, h1, h2, h3⟩ := hs
  obtain ⟨v', k1, k2, k3⟩ := holdsRow_own (β := Unit) n₀ b 32 2 1 (fun _ => (f s).length) (fun _ => nums (f s)) (fun _ v => v ≠ .slice none 0 0) () X Y row ⟨v, h1, h2, h3⟩ hg hr
  exact ⟨v', k1, k2, k3⟩
theorem BoxL.below {n₀ b : Nat} {W W' : World} {l : List Int} (h : BoxL n₀ b W l) (hb : Below W.heap.size W W') : BoxL n₀ b W' l := by
  obtain ⟨v, h1, h2⟩ := h
  exact ⟨v, (hb.block b h1.lt).trans h1, h2.on hb⟩

/-- An append onto the caller's own list, in its box: what is kept of the others' boxes. -/
theorem kp_app {W w1 : World} {n₀ bA : Nat} {bs : List Nat} {v v' : Value} {k m : Nat} {xs ys : List Value} {tmp : Obj}
    (hv : Boxed W bA 32 v) (hrow : W.ownsRow n₀ 2 1 v k xs) (hn₀ : n₀ ≤ W.heap.size) (hB : n₀ ≤ bA) (hown' : w1.ownsRow n₀ 2 1 v' m ys) (hgrow : (W.alloc tmp).grownBy w1 v.ownBlock)
    (hbs : ∀ b ∈ bs, b ≠ bA ∧ b < W.heap.size ∧ some b ≠ v.ownBlock) : Kp n₀ bs W (w1.setCell ⟨bA, 0, none⟩ v') := by
  obtain ⟨_, _, _, _, hb2⟩ := hv.appended (by decide) hrow hn₀ hB hown' hgrow
  refine ⟨hb2, fun b hb hl => ?_⟩
  obtain ⟨h1, h2, h3⟩ := hbs b hb
  rw [Below.heap_setCell w1 ⟨bA, 0, none⟩ v' b h1, hgrow.block b (by simp; omega) h3]
  exact Below.heap_alloc W tmp b hl
theorem box_prog {W : World} {bx n₀ : Nat} {v : Value} {k : Nat} {xs : List Value} {o : Value} (h : Boxed W bx 26 o) (hrow : W.ownsRow n₀ 2 1 v k xs) : some bx ≠ v.ownBlock := h.not_row (by decide) hrow
/-- A box of one number is no row's block, where the row began later. -/
theorem box_off {n₀ bx : Nat} {W : World} {v : Value} {k : Nat} {xs : List Value} (hrow : W.ownsRow n₀ 2 1 v k xs) (hb : bx < n₀) : some bx ≠ v.ownBlock := fun e => by
  have := (hrow.lt bx e.symm).1
  omega

set_option maxRecDepth 100000 in
set_option maxHeartbeats 2000000 in
theorem implAboveOf (B : Nat) (p : Prg) (a : Option Addr) (cap : Nat) (t : Int) (hsp : SmallP p) (w : World) (hp : SK front B w (.slice a p.length cap) p) :
    Calls Try.prog 10 #[.agg #[.slice a p.length cap], .int .i64 t] w fun e w' => ∃ v, e = .returned v ∧ Grow w.heap.size w' v (upA p t) ∧ Below w.heap.size w w' := by
  obtain ⟨i0, hif, hz0, hz1, hz2⟩ := info_parts infoN
  have HP : Hid (SK front B w (.slice a p.length cap) p) := hp
  have HSP : Hid (SmallP p) := hsp
  clear hp hsp
  obtain ⟨V, hV⟩ : ∃ V, V = (w.alloc (.cells #[.slice a p.length cap] 26)).alloc (.cells #[] 2) := ⟨_, rfl⟩
  have GV : Hid (Grow w.heap.size V (.slice (some ⟨w.heap.size + 1, 0, none⟩) 0 0) []) := by
    have h := (grow_start (w.alloc (.cells #[.slice a p.length cap] 26))).base' (B' := w.heap.size) (by simp)
    simp only [World.size_alloc] at h
    rw [hV]; exact h
  have HZV : Hid (V.heap.size = w.heap.size + 1 + 1) := by show _ = _; rw [hV]; simp
  obtain ⟨Y, hY⟩ : ∃ Y, Y = V.alloc (.cells #[.slice (some ⟨w.heap.size + 1, 0, none⟩) 0 0] 32) := ⟨_, rfl⟩
  have hwY : Below w.heap.size w Y := by rw [hY, hV]; exact (((Below.refl _ w).alloc (Nat.le_refl _) _).alloc (by simp) _).alloc (by simp; omega) _
  have PY : Hid (Boxed Y w.heap.size 26 (.slice a p.length cap)) := by rw [hY, hV]; exact ((Boxed.new w _ _).alloc _).alloc _
  have AY : Hid (BoxL w.heap.size (w.heap.size + 1 + 1) Y []) := by
    rw [hY]
    refine ⟨_, ?_, GV.out.on ((Below.refl _ _).alloc (Nat.le_refl _) _)⟩
    have h := Boxed.new V 32 (.slice (some ⟨w.heap.size + 1, 0, none⟩) 0 0)
    rw [HZV.out] at h
    exact h
  refine (callsIn_wide (n := 4)).1 ?_
  refine callsIn_of_wp_marks Try.func10 rfl trivial ?_ rfl
  simp only [Try.ntmps10, List.size_toArray, List.length_cons, List.length_nil, Nat.reduceAdd, Nat.reduceSub, Array.replicate_succ, Array.replicate_zero, List.push_toArray, List.append_toArray, List.nil_append, List.cons_append]
  gi_wp2_with fail
  rw [← hV, ← hY]
  clear hV hY GV HZV
  refine ⟨trivial, ?_⟩
  refine (callsIn_wide.2 (isRightClass B p a cap t HSP.out Y (SK.on HP.out (Keep.of hwY)))).mono ?_
  rintro e w1 ⟨rfl, hb1⟩
  have hw1 : Below w.heap.size w w1 := below_over hwY hb1
  have P1 : Hid (Boxed w1 w.heap.size 26 (.slice a p.length cap)) := (hb1.block _ PY.out.lt).trans PY.out
  have A1 : Hid (BoxL w.heap.size (w.heap.size + 1 + 1) w1 []) := AY.out.below hb1
  have p1 := P1.out.cell
  clear PY AY hb1 hwY
  cases hok : (okP p && inB p t)
  · have HN : Hid (upA p t = []) := by show _ = _; unfold upA; rw [hok]; rfl
    obtain ⟨v, hv, hg⟩ := A1.out
    have c1 := hv.cell
    have HG : Hid (Grow w.heap.size w1 v []) := hg
    clear hg
    gi_wp2
    refine ⟨_, results_tmp rfl _ _ _, v, rfl, by rw [HN.out]; exact HG.out, hw1⟩
  · have HN : Hid (upA p t = upL p t) := by show _ = _; unfold upA; rw [hok]; rfl
    obtain ⟨hk, h0, h1⟩ := okIn hok
    have h6 := (okP_len hk).2
    have HSU : Hid (SupOk p p.length) := okP_sup hk
    clear hk hok
    have hlw : w.heap.size + 1 + 1 < w1.heap.size := by obtain ⟨v, hv, _⟩ := A1.out; exact hv.lt
    gi_wp2_with (refine ⟨trivial, ?_⟩; gi_at_call 40; refine (upFrom_in _ a p.length cap t _).mono ?_; rintro e w' ⟨rfl, rfl⟩)
    have b3 := Boxed.new w1 26 (.slice a p.length cap)
    have b4 := Boxed.new (w1.alloc (.cells #[.slice a p.length cap] 26)) 2 (.int .i64 t)
    simp only [World.size_alloc] at b4
    have hbZ : Below w1.heap.size w1 ((w1.alloc (.cells #[.slice a p.length cap] 26)).alloc (.cells #[.int .i64 t] 2)) := ((Below.refl _ w1).alloc (Nat.le_refl _) _).alloc (by simp) _
    have hB0 : Below w.heap.size w ((w1.alloc (.cells #[.slice a p.length cap] 26)).alloc (.cells #[.int .i64 t] 2)) := below_over hw1 hbZ
    have A2 : Hid (BoxL w.heap.size (w.heap.size + 1 + 1) ((w1.alloc (.cells #[.slice a p.length cap] 26)).alloc (.cells #[.int .i64 t] 2)) []) := A1.out.below hbZ
    have hzw := hw1.size
    refine wpIn_rangeFunc_ownF rfl (show 1 ≤ 4 by omega) (gf := 73) (lb := #[.pointer (some ⟨w1.heap.size + 1, 0, none⟩), .pointer (some ⟨w1.heap.size, 0, none⟩)]) rfl trivial (enters_of Try.func73 (by kernel_rfl) rfl)
      (up_stops _ (by omega) (w1.heap.size + 1) w1.heap.size B p a cap t (by omega) h1 h6 HSU.out w _ HP.out hB0 b4.cell (b3.alloc _)) kp_t (kp_b (by simp; omega) (by simp; omega)) (Below.refl _ _) (fun _ => rfl)
      (fun pre W => (BoxL w.heap.size (w.heap.size + 1 + 1) W pre ∧ Boxed W w1.heap.size 26 (.slice a p.length cap)) ∧ Below w.heap.size w W)
      (fun _ _ _ => False)
      (OwnFrom.and (Own.from (fun s X Y row hs hg hr => ⟨boxL_own w.heap.size (w.heap.size + 1 + 1) (fun x : List Int => x) s X Y row hs.1 hg hr, boxed_own w1.heap.size 26 (fun _ : List Int => .slice a p.length cap) s X Y row hs.2 hg hr⟩) _) (ownFrom_below (Nat.le_refl _) (by simp; omega)))
      (fun _ _ _ _ _ hs _ _ => hs)
      ⟨⟨A2.out, b3.alloc _⟩, hB0⟩
      (fun x => { tmps := #[.agg #[.slice a p.length cap], .int .i64 t, .pointer (some ⟨w.heap.size, 0, none⟩), undef, .slice none 0 0, .pointer (some ⟨w.heap.size + 1 + 1, 0, none⟩), .int .i64 x, .slice (some ⟨w.heap.size + 1, 0, none⟩) 0 0, .agg #[.slice a p.length cap], .int .i64 t, .bool true, .bool false, undef, .agg #[.slice a p.length cap], .int .i64 t, .func (.func 73) #[] #[.pointer (some ⟨w1.heap.size + 1, 0, none⟩), .pointer (some ⟨w1.heap.size, 0, none⟩)], .int .i64 x, undef, undef, undef, undef, undef], defers := [] }) ?assign ?body ?done ?stop
    case assign =>
      intro l x W K hK
      gi_wp2
      exact hK
    case body =>
      rintro l pre x W ⟨⟨⟨v, hv, hg⟩, hbx⟩, hB⟩ hlt
      obtain ⟨g, cp, rfl⟩ := hg.form
      have hc := hv.cell
      gi_wp2_with (gi_at_builtin; refine wpListIn_append_own _ rfl _ _ 32 rfl w.heap.size 2 i0 (.int .i64 0) 1 8 Try.underlying32 hif hz0 hz1 hz2 rfl (by decide) _ _ _ rfl (hg.1.alloc _) ⟨W.heap.size, 0, none⟩ 1 1 [.int .i64 x] rfl rfl (cell_one_new _ _ _) (by simp [Value.oneCell']) (by unfold maxLen; omega) (by omega) (by have := hB.size; simp; omega) ?_; intro v' w2 hown' hgrow hnil; obtain ⟨g', cap', rfl⟩ := ownsRow_succ hown'; obtain ⟨hv1, hv2, hr2, hk2, hb2⟩ := hv.appended (by decide) hg.1 hB.size (by omega) hown' hgrow; have hc1 := hv1.cell; have hf1 := hv1.frozen)
      exact ⟨hk2, kp_app hv hg.1 hB.size (by omega) hown' hgrow (by simp; exact ⟨by omega, hbx.lt, box_prog hbx hg.1⟩), ⟨⟨_, hv2, grow_next hr2 (by simp)⟩, ((kp_app (bs := [w1.heap.size]) hv hg.1 hB.size (by omega) hown' hgrow (by simp; exact ⟨by omega, hbx.lt, box_prog hbx hg.1⟩)).boxed (by simp) hbx)⟩, hB.trans hb2⟩
    case done =>
      rintro D ys W hD hys ⟨⟨⟨v, hv, hg⟩, _⟩, hB⟩ hK
      have hc := hv.cell
      gi_wp2
      refine ⟨by simp, .inl ⟨_, _, rfl, run_takeDeferred hK, ?_⟩⟩
      refine ⟨_, results_tmp rfl _ _ _, v, rfl, ?_, hB.trans (belowK_b (w := w) (Nat.le_refl _) W D _ _ (by simp at hD; omega) hK rfl rfl)⟩
      rw [HN.out, ← hys]
      exact ⟨ownsRow_putObj hg.1 _ hK rfl, hg.2⟩
    case stop =>
      rintro D c pre W _ _ h _
      exact h.elim
end Pg
end Go.Proofs.Ytmbbombjlijknaa

/- The program's iterator over the classes below, and the list of them. -/
namespace Go.Proofs.Ytmbbombjlijknaa
namespace Pg
open Go.ChangeShapes Go.WideShapes Go.ChangeAt Go.RowKit Go.Shelf St
attribute [local go_sem] Oper.semAt_some

theorem abide {β : Type} {n : Nat} {J : β → World → Prop} (hJ : AbidesFrom n J) {s : β} {W W' : World} (h : J s W) (hb : Below W.heap.size W W') : J s W' :=
  hJ s W W' none h ⟨hb.os, hb.tape, hb.output, hb.size, fun k hk _ => hb.block k hk⟩ (fun _ e => by cases e)
theorem filter_one {α : Type} (f : α → Bool) (x : α) : [x].filter f = if f x then [x] else [] := by cases h : f x <;> simp [h]
theorem allC_take {p : Prg} {k : Nat} (hk : k < p.length) : (allC p).take (k + 1) = (allC p).take k ++ [(k : Int)] := by
  unfold allC
  rw [← List.map_take, ← List.map_take, List.take_range, List.take_range, Nat.min_eq_left (by omega), Nat.min_eq_left (by omega), List.range_succ]
  simp
theorem downL_low {p : Prg} (hs : SupOk p p.length) {c : Nat} (hc : c ≤ p.length) : ((allC p).take c).filter (fun i => undB p i (c : Int)) = [] := by
  rw [List.filter_eq_nil_iff]
  intro i hi
  unfold allC at hi
  rw [← List.map_take, List.take_range, Nat.min_eq_left hc] at hi
  obtain ⟨k, hk, rfl⟩ := List.mem_map.1 hi
  have hk' := List.mem_range.1 hk
  simp only [undB, decide_eq_true_eq]
  intro hm
  have := upL_le hs hm
  omega
theorem downL_all (p : Prg) (c : Int) : ((allC p).take p.length).filter (fun i => undB p i c) = downL p c := by
  have : (allC p).take p.length = allC p := List.take_of_length_le (by simp [allC])
  rw [this]; rfl
theorem downL_pre (p : Prg) (c : Int) (k : Nat) : ((allC p).take k).filter (fun i => undB p i c) <+: downL p c := by
  obtain ⟨r, hr⟩ := List.take_prefix k (allC p)
  refine ⟨r.filter (fun i => undB p i c), ?_⟩
  rw [← List.filter_append, hr]; rfl

set_option maxHeartbeats 400000 in
theorem downFrom_in (n : Nat) (a : Option Addr) (len cap : Nat) (c : Int) (w : World) :
    CallsIn Fence.wide n Try.prog 41 #[.agg #[.slice a len cap], .int .i64 c] w fun e w' => e = .returned (.func (.func 74) #[] #[.pointer (some ⟨w.heap.size + 1, 0, none⟩), .pointer (some ⟨w.heap.size, 0, none⟩)]) ∧ w' = (w.alloc (.cells #[.slice a len cap] 26)).alloc (.cells #[.int .i64 c] 2) := by
  refine callsIn_of_wp Try.func41 rfl trivial ?_ rfl
  simp only [Try.ntmps41, List.size_toArray, List.length_cons, List.length_nil, Nat.reduceAdd, Nat.reduceSub, Array.replicate_succ, Array.replicate_zero, List.push_toArray, List.append_toArray, List.nil_append, List.cons_append]
  gi_wp2
  go_ret
  exact ⟨rfl, rfl⟩

set_option maxRecDepth 100000 in
set_option maxHeartbeats 2000000 in
theorem down1_in {α : Type} (n : Nat) (hn : 1 ≤ n) (l bc bp B : Nat) (p : Prg) (a : Option Addr) (cap : Nat) (c : Nat) (hc : c < p.length) (h6 : p.length ≤ 6) (hsup : SupOk p p.length) (w0 : World) (hp : SK front B w0 (.slice a p.length cap) p) (en : α → Int) (mk : ∀ j : Nat, j < p.length → α) (hen : ∀ j hj, en (mk j hj) = (j : Int)) (J Jx : List α → World → Prop) (N : Nat) (hJ : AbidesFrom N J)
    (hY : ∀ pre x W, J pre W → pre.length < 6 → YieldAt Fence.wide (n - 1) Try.prog l #[.int .i64 (en x)] W fun e W' =>
      (e = .returned (.bool true) ∧ J (pre ++ [x]) W' ∧ Kp w0.heap.size [bc, bp] W W') ∨ (e = .returned (.bool false) ∧ Jx (pre ++ [x]) W'))
    (W : World) (hW : Below w0.heap.size w0 W) (hbc : Boxed W bc 2 (.int .i64 (c : Int))) (hbp : Boxed W bp 26 (.slice a p.length cap)) (h0 : J [] W) :
    CallsIn Fence.wide n Try.prog 74 #[.func (.yield l) #[] #[], .pointer (some ⟨bc, 0, none⟩), .pointer (some ⟨bp, 0, none⟩)] W fun e W' => (∃ v, e = .returned v) ∧
      ((∃ ys, ys.map en = downL p (c : Int) ∧ J ys W') ∨ (∃ pre, pre.map en <+: downL p (c : Int) ∧ Jx pre W')) := by
  have HP : Hid (SK front B w0 (.slice a p.length cap) p) := hp
  have HSUP : Hid (SupOk p p.length) := hsup
  have HJ : Hid (AbidesFrom N J) := hJ
  have HLOW : Hid (((allC p).take c).filter (fun i => undB p i (c : Int)) = []) := downL_low hsup (by omega)
  clear hp hsup hJ
  have hcc := hbc.cell
  refine callsIn_of_wp Try.func74 rfl trivial ?_ rfl
  simp only [Try.ntmps74, List.size_toArray, List.length_cons, List.length_nil, Nat.reduceAdd, Nat.reduceSub, Array.replicate_succ, Array.replicate_zero, List.push_toArray, List.append_toArray, List.nil_append, List.cons_append]
  gi_wp2
  gi_loopw [4] (fun v wr => ∃ (pre : List α) (k : Nat), v = .int .i64 (k : Int) ∧ k ≤ p.length ∧ Hid (pre.map en = ((allC p).take k).filter (fun i => undB p i (c : Int))) ∧ J pre wr ∧ Below w0.heap.size w0 wr ∧ Boxed wr bc 2 (.int .i64 (c : Int)) ∧ Boxed wr bp 26 (.slice a p.length cap)) (fun v _ => p.length - (intOf v).toNat)
  case atStart => exact ⟨[], c, rfl, by omega, HLOW.out.symm, h0, hW, hbc, hbp⟩
  case round =>
    clear hcc hbc hbp h0 hW HLOW
    obtain ⟨pre, k, rfl, hk, hx, hJ0, hb, hbc, hbp⟩ := hrel
    have p0 := hbp.cell
    have HJ0 : Hid (J pre wr) := hJ0
    clear hJ0
    gi_wp2_with fail
    refine ⟨trivial, ?_⟩
    refine (callsIn_wide.2 (hasClass a p.length cap (k : Int) wr)).mono ?_
    rintro e w1 ⟨rfl, hb1⟩
    have HJ1 : Hid (J pre w1) := abide HJ.out HJ0.out hb1
    have hw1 : Below w0.heap.size w0 w1 := below_over hb hb1
    have hbc1 : Boxed w1 bc 2 (.int .i64 (c : Int)) := (hb1.block _ hbc.lt).trans hbc
    have hbp1 : Boxed w1 bp 26 (.slice a p.length cap) := (hb1.block _ hbp.lt).trans hbp
    have p1 := hbp1.cell
    have c1 := hbc1.cell
    clear hb1 hb hbc hbp p0 HJ0
    by_cases hlt : k < p.length
    · have HQ : (decide (0 ≤ (k : Int)) && decide ((k : Int) < (p.length : Int))) = true := by simp; omega
      rw [HQ]
      clear HQ
      gi_wp2_with fail
      refine ⟨trivial, ?_⟩
      refine (callsIn_wide.2 (isUnder B p a cap (k : Int) (c : Int) (by omega) (by omega) h6 HSUP.out w1 (SK.on HP.out (Keep.of hw1)))).mono ?_
      rintro e w2 ⟨rfl, hb2⟩
      have hJ2 : J pre w2 := abide HJ.out HJ1.out hb2
      have hw2 : Below w0.heap.size w0 w2 := below_over hw1 hb2
      have hbc2 : Boxed w2 bc 2 (.int .i64 (c : Int)) := (hb2.block _ hbc1.lt).trans hbc1
      have hbp2 : Boxed w2 bp 26 (.slice a p.length cap) := (hb2.block _ hbp1.lt).trans hbp1
      clear hb2 hw1 hbc1 hbp1 p1 c1 HJ1
      have HST : Hid (((allC p).take (k + 1)).filter (fun i => undB p i (c : Int)) = pre.map en ++ (if undB p (k : Int) (c : Int) then [(k : Int)] else [])) := by
        show _ = _
        rw [allC_take hlt, List.filter_append, hx.out, filter_one]
      cases hq : undB p (k : Int) (c : Int)
      · have HX : Hid (pre.map en = ((allC p).take (k + 1)).filter (fun i => undB p i (c : Int))) := by
          show _ = _
          rw [HST.out, hq]; simp
        clear HST hx
        gi_wp2
        refine ⟨fun _ h => (by cases h), ?_⟩
        gi_wp2
        go_roundw
        case rel => exact ⟨pre, k + 1, by go_num, by omega, HX.out, hJ2, hw2, hbc2, hbp2⟩
        case measure => simp [intOf]; omega
      · have HX : Hid ((pre ++ [mk k hlt]).map en = ((allC p).take (k + 1)).filter (fun i => undB p i (c : Int))) := by
          show _ = _
          rw [HST.out, hq]; simp [hen]
        have hlen : pre.length < 6 := by
          have h1 := downL_len p (c : Int) h6
          have h2 := (downL_pre p (c : Int) (k + 1)).length_le
          rw [← HX.out] at h2
          simp at h2
          omega
        have HPRE : Hid ((pre ++ [mk k hlt]).map en <+: downL p (c : Int)) := by show _ <+: _; rw [HX.out]; exact downL_pre p (c : Int) (k + 1)
        obtain ⟨fn, tmps, assign, body, hy, hR⟩ := hY pre (mk k hlt) w2 hJ2 hlen
        rw [hen] at hy
        generalize mk k hlt = xj at *
        clear HST hx
        gi_wp2
        refine hR.mono ?_
        rintro e W3 (⟨rfl, hJ3, hk3⟩ | ⟨rfl, hJx3⟩)
        · have hb3 : Below w0.heap.size w0 W3 := hw2.trans hk3.1
          have hbc3 := hk3.boxed (b := bc) (by simp) hbc2
          have hbp3 := hk3.boxed (b := bp) (by simp) hbp2
          gi_wp2
          go_roundw
          case rel => exact ⟨pre ++ [xj], k + 1, by go_num, by omega, HX.out, hJ3, hb3, hbc3, hbp3⟩
          case measure => simp [intOf]; omega
        · gi_wp2
          refine bodyPost_ret (results_none rfl _ _ _) rfl ?_
          exact ⟨⟨_, rfl⟩, .inr ⟨pre ++ [xj], HPRE.out, hJx3⟩⟩
    · have hkk : k = p.length := by omega
      have HE : Hid (pre.map en = downL p (c : Int)) := by
        show _ = _
        rw [hx.out, hkk, downL_all]
      have HQ : (decide (0 ≤ (k : Int)) && decide ((k : Int) < (p.length : Int))) = false := by simp; omega
      rw [HQ]
      clear HQ hx hkk
      gi_wp2
      go_end0
      exact ⟨⟨_, rfl⟩, .inl ⟨pre, HE.out, HJ1.out⟩⟩

/-- What the iterator over those below hands out. -/
theorem down_stops (n : Nat) (hn : 1 ≤ n) (bc bp B : Nat) (p : Prg) (a : Option Addr) (cap : Nat) (c : Nat) (hc : c < p.length) (h6 : p.length ≤ 6) (hsup : SupOk p p.length) (w0 w : World) (hp : SK front B w0 (.slice a p.length cap) p) (hw : Below w0.heap.size w0 w) (hbc : Boxed w bc 2 (.int .i64 (c : Int))) (hbp : Boxed w bp 26 (.slice a p.length cap)) :
    SeqStopsK Fence.wide n Try.prog 74 #[.pointer (some ⟨bc, 0, none⟩), .pointer (some ⟨bp, 0, none⟩)] (fun x : Cl p.length => #[Value.int .i64 x.1]) (Kp w0.heap.size [bc, bp]) (fun ys => vals ys = downL p (c : Int)) (fun pre => vals pre <+: downL p (c : Int)) 6 w := fun l J Jx W hW hJ _ hY h0 =>
  down1_in n hn l bc bp B p a cap c hc h6 hsup w0 hp (fun x : Cl p.length => x.1) (fun j hj => ⟨(j : Int), by omega, by omega⟩) (fun _ _ => rfl) J Jx _ hJ hY W (hw.trans (hW.mono hw.size)) ((hW.block bc hbc.lt).trans hbc) ((hW.block bp hbp.lt).trans hbp) h0

/-- A list of the caller's own, in a box, its row none of these blocks. -/
def BoxN (n₀ b : Nat) (bs : List Nat) (W : World) (l : List Int) : Prop := ∃ v, Boxed W b 32 v ∧ Grow n₀ W v l ∧ ∀ y ∈ bs, some y ≠ v.ownBlock
theorem boxN_own {β : Type} (n₀ b : Nat) (bs : List Nat) (f : β → List Int) : Own (fun (s : β) W => BoxN n₀ b bs W (f s)) := fun s X Y row hs hg hr => by
  obtain ⟨v, h1, ⟨h2, h3⟩, h4⟩ := hs
  obtain ⟨v', k1, k2, k3, k4⟩ := holdsRow_own (β := Unit) n₀ b 32 2 1 (fun _ => (f s).length) (fun _ => nums (f s)) (fun _ v => v ≠ .slice none 0 0 ∧ ∀ y ∈ bs, some y ≠ v.ownBlock) () X Y row ⟨v, h1, h2, h3, h4⟩ hg hr
  exact ⟨v', k1, ⟨k2, k3⟩, k4⟩
theorem BoxN.below {n₀ b : Nat} {bs : List Nat} {W W' : World} {l : List Int} (h : BoxN n₀ b bs W l) (hb : Below W.heap.size W W') : BoxN n₀ b bs W' l := by
  obtain ⟨v, h1, h2, h3⟩ := h
  exact ⟨v, (hb.block b h1.lt).trans h1, h2.on hb, h3⟩
/-- An append onto it. -/
theorem boxN_app {W w1 : World} {n₀ bA : Nat} {bs : List Nat} {v v' : Value} {l : List Int} {x : Int} {tmp : Obj}
    (hv : Boxed W bA 32 v) (hg : Grow n₀ W v l) (hoff : ∀ y ∈ bs, some y ≠ v.ownBlock) (hbs : ∀ y ∈ bs, y ≠ bA ∧ y < W.heap.size) (hn₀ : n₀ ≤ W.heap.size) (hB : n₀ ≤ bA)
    (hown' : w1.ownsRow n₀ 2 1 v' (l.length + 1) (nums l ++ [.int .i64 x])) (hgrow : (W.alloc tmp).grownBy w1 v.ownBlock) (hvn : v' ≠ .slice none 0 0) (hat : v'.ownBlock = v.ownBlock ∨ v'.ownBlock = some (W.alloc tmp).heap.size) :
    (Boxed w1 bA 32 v) ∧ BoxN n₀ bA bs (w1.setCell ⟨bA, 0, none⟩ v') (l ++ [x]) ∧ Kp n₀ bs W (w1.setCell ⟨bA, 0, none⟩ v') ∧ KeepsOthers W (w1.setCell ⟨bA, 0, none⟩ v') ∧ Below n₀ W (w1.setCell ⟨bA, 0, none⟩ v') := by
  obtain ⟨hv1, hv2, hr2, hk2, hb2⟩ := hv.appended (by decide) hg.1 hn₀ hB hown' hgrow
  refine ⟨hv1, ⟨_, hv2, grow_next hr2 hvn, fun y hy => ?_⟩, kp_app hv hg.1 hn₀ hB hown' hgrow (fun b hb => ⟨(hbs b hb).1, (hbs b hb).2, hoff b hb⟩), hk2, hb2⟩
  rcases hat with h | h
  · rw [h]; exact hoff y hy
  · rw [h]
    intro e
    have h1 := (hbs y hy).2
    simp at e
    omega

set_option maxRecDepth 100000 in
set_option maxHeartbeats 2000000 in
theorem implBelowOf (B : Nat) (p : Prg) (a : Option Addr) (cap : Nat) (t : Int) (hsp : SmallP p) (w : World) (hp : SK front B w (.slice a p.length cap) p) :
    Calls Try.prog 11 #[.agg #[.slice a p.length cap], .int .i64 t] w fun e w' => ∃ v, e = .returned v ∧ Grow w.heap.size w' v (downA p t) ∧ Below w.heap.size w w' := by
  obtain ⟨i0, hif, hz0, hz1, hz2⟩ := info_parts infoN
  have HP : Hid (SK front B w (.slice a p.length cap) p) := hp
  have HSP : Hid (SmallP p) := hsp
  clear hp hsp
  obtain ⟨V, hV⟩ : ∃ V, V = (w.alloc (.cells #[.slice a p.length cap] 26)).alloc (.cells #[] 2) := ⟨_, rfl⟩
  have GV : Hid (Grow w.heap.size V (.slice (some ⟨w.heap.size + 1, 0, none⟩) 0 0) []) := by
    have h := (grow_start (w.alloc (.cells #[.slice a p.length cap] 26))).base' (B' := w.heap.size) (by simp)
    simp only [World.size_alloc] at h
    rw [hV]; exact h
  have HZV : Hid (V.heap.size = w.heap.size + 1 + 1) := by show _ = _; rw [hV]; simp
  obtain ⟨Y, hY⟩ : ∃ Y, Y = V.alloc (.cells #[.slice (some ⟨w.heap.size + 1, 0, none⟩) 0 0] 32) := ⟨_, rfl⟩
  have hwY : Below w.heap.size w Y := by rw [hY, hV]; exact (((Below.refl _ w).alloc (Nat.le_refl _) _).alloc (by simp) _).alloc (by simp; omega) _
  have PY : Hid (Boxed Y w.heap.size 26 (.slice a p.length cap)) := by rw [hY, hV]; exact ((Boxed.new w _ _).alloc _).alloc _
  have AY : Hid (Boxed Y (w.heap.size + 1 + 1) 32 (.slice (some ⟨w.heap.size + 1, 0, none⟩) 0 0) ∧ Grow w.heap.size Y (.slice (some ⟨w.heap.size + 1, 0, none⟩) 0 0) []) := by
    rw [hY]
    refine ⟨?_, GV.out.on ((Below.refl _ _).alloc (Nat.le_refl _) _)⟩
    have h := Boxed.new V 32 (.slice (some ⟨w.heap.size + 1, 0, none⟩) 0 0)
    rw [HZV.out] at h
    exact h
  refine (callsIn_wide (n := 4)).1 ?_
  refine callsIn_of_wp_marks Try.func11 rfl trivial ?_ rfl
  simp only [Try.ntmps11, List.size_toArray, List.length_cons, List.length_nil, Nat.reduceAdd, Nat.reduceSub, Array.replicate_succ, Array.replicate_zero, List.push_toArray, List.append_toArray, List.nil_append, List.cons_append]
  gi_wp2_with fail
  rw [← hV, ← hY]
  clear hV hY GV HZV
  refine ⟨trivial, ?_⟩
  refine (callsIn_wide.2 (isRightClass B p a cap t HSP.out Y (SK.on HP.out (Keep.of hwY)))).mono ?_
  rintro e w1 ⟨rfl, hb1⟩
  have hw1 : Below w.heap.size w w1 := below_over hwY hb1
  have P1 : Hid (Boxed w1 w.heap.size 26 (.slice a p.length cap)) := (hb1.block _ PY.out.lt).trans PY.out
  have A1 : Hid (Boxed w1 (w.heap.size + 1 + 1) 32 (.slice (some ⟨w.heap.size + 1, 0, none⟩) 0 0) ∧ Grow w.heap.size w1 (.slice (some ⟨w.heap.size + 1, 0, none⟩) 0 0) []) := ⟨(hb1.block _ AY.out.1.lt).trans AY.out.1, AY.out.2.on hb1⟩
  have p1 := P1.out.cell
  clear PY AY hb1 hwY
  cases hok : (okP p && inB p t)
  · have HN : Hid (downA p t = []) := by show _ = _; unfold downA; rw [hok]; rfl
    have c1 := A1.out.1.cell
    have HG : Hid (Grow w.heap.size w1 (.slice (some ⟨w.heap.size + 1, 0, none⟩) 0 0) []) := A1.out.2
    gi_wp2
    refine ⟨_, results_tmp rfl _ _ _, _, rfl, by rw [HN.out]; exact HG.out, hw1⟩
  · have HN : Hid (downA p t = downL p t) := by show _ = _; unfold downA; rw [hok]; rfl
    obtain ⟨hk, h0, h1⟩ := okIn hok
    have h6 := (okP_len hk).2
    have HSU : Hid (SupOk p p.length) := okP_sup hk
    clear hk hok
    have hlw : w.heap.size + 1 + 1 < w1.heap.size := A1.out.1.lt
    obtain ⟨c, rfl⟩ := Int.eq_ofNat_of_zero_le h0
    have hcp : c < p.length := by omega
    gi_wp2_with (refine ⟨trivial, ?_⟩; gi_at_call 41; refine (downFrom_in _ a p.length cap (c : Int) _).mono ?_; rintro e w' ⟨rfl, rfl⟩)
    have b3 := Boxed.new w1 26 (.slice a p.length cap)
    have b4 := Boxed.new (w1.alloc (.cells #[.slice a p.length cap] 26)) 2 (.int .i64 (c : Int))
    simp only [World.size_alloc] at b4
    have hbZ : Below w1.heap.size w1 ((w1.alloc (.cells #[.slice a p.length cap] 26)).alloc (.cells #[.int .i64 (c : Int)] 2)) := ((Below.refl _ w1).alloc (Nat.le_refl _) _).alloc (by simp) _
    have hB0 : Below w.heap.size w ((w1.alloc (.cells #[.slice a p.length cap] 26)).alloc (.cells #[.int .i64 (c : Int)] 2)) := below_over hw1 hbZ
    have A2 : Hid (BoxN w.heap.size (w.heap.size + 1 + 1) [w1.heap.size + 1, w1.heap.size] ((w1.alloc (.cells #[.slice a p.length cap] 26)).alloc (.cells #[.int .i64 (c : Int)] 2)) []) := ⟨_, (hbZ.block _ A1.out.1.lt).trans A1.out.1, A1.out.2.on hbZ, by simp [Value.ownBlock]; omega⟩
    have hzw := hw1.size
    refine wpIn_rangeFunc_ownF rfl (show 1 ≤ 4 by omega) (gf := 74) (lb := #[.pointer (some ⟨w1.heap.size + 1, 0, none⟩), .pointer (some ⟨w1.heap.size, 0, none⟩)]) rfl trivial (enters_of Try.func74 (by kernel_rfl) rfl)
      (down_stops _ (by omega) (w1.heap.size + 1) w1.heap.size B p a cap c hcp h6 HSU.out w _ HP.out hB0 b4 (b3.alloc _)) kp_t (kp_b (by simp; omega) (by simp; omega)) (Below.refl _ _) (fun _ => rfl)
      (fun pre W => (BoxN w.heap.size (w.heap.size + 1 + 1) [w1.heap.size + 1, w1.heap.size] W (vals pre) ∧ w1.heap.size + 1 < W.heap.size) ∧ Below w.heap.size w W)
      (fun _ _ _ => False)
      (OwnFrom.and (Own.from (fun s X Y row hs hg hr => ⟨boxN_own w.heap.size (w.heap.size + 1 + 1) [w1.heap.size + 1, w1.heap.size] (fun x : List (Cl p.length) => vals x) s X Y row hs.1 hg hr, Nat.lt_of_lt_of_le hs.2 hg.size⟩) _) (ownFrom_below (Nat.le_refl _) (by simp; omega)))
      (fun _ _ _ _ _ hs _ _ => hs)
      ⟨⟨A2.out, by simp⟩, hB0⟩
      (fun x => { tmps := #[.agg #[.slice a p.length cap], .int .i64 (c : Int), .pointer (some ⟨w.heap.size, 0, none⟩), undef, .slice none 0 0, .pointer (some ⟨w.heap.size + 1 + 1, 0, none⟩), .int .i64 x.1, .slice (some ⟨w.heap.size + 1, 0, none⟩) 0 0, .agg #[.slice a p.length cap], .int .i64 (c : Int), .bool true, .bool false, undef, .agg #[.slice a p.length cap], .int .i64 (c : Int), .func (.func 74) #[] #[.pointer (some ⟨w1.heap.size + 1, 0, none⟩), .pointer (some ⟨w1.heap.size, 0, none⟩)], .int .i64 x.1, undef, undef, undef, undef, undef], defers := [] }) ?assign ?body ?done ?stop
    case assign =>
      intro l x W K hK
      gi_wp2
      exact hK
    case body =>
      rintro l pre x W ⟨⟨⟨v, hv, hg, hoff⟩, hzW⟩, hB⟩ hlt
      obtain ⟨g, cp, rfl⟩ := hg.form
      have hc := hv.cell
      have hlv : (vals pre).length < 6 := by simpa [vals] using hlt
      have HVS : Hid (vals (pre ++ [x]) = vals pre ++ [x.1]) := vals_snoc pre x
      gi_wp2_with (gi_at_builtin; refine wpListIn_append_own_at _ rfl _ _ 32 rfl w.heap.size 2 i0 (.int .i64 0) 1 8 Try.underlying32 hif hz0 hz1 hz2 rfl (by decide) _ _ _ rfl (hg.1.alloc _) ⟨W.heap.size, 0, none⟩ 1 1 [.int .i64 x.1] rfl rfl (cell_one_new _ _ _) (by simp [Value.oneCell']) (by unfold maxLen; omega) (by omega) (by have := hB.size; simp; omega) ?_; intro v' w2 hown' hgrow hnil hat; obtain ⟨g', cap', rfl⟩ := ownsRow_succ hown'; obtain ⟨hv1, hbn, hkp, hk2, hb2⟩ := boxN_app hv hg hoff (by simp; omega) hB.size (by omega) hown' hgrow (by simp) hat; have hc1 := hv1.cell; have hf1 := hv1.frozen)
      exact ⟨hk2, hkp, ⟨by rw [HVS.out]; exact hbn, Nat.lt_of_lt_of_le hzW hb2.size⟩, hB.trans hb2⟩
    case done =>
      rintro D ys W hD hys ⟨⟨⟨v, hv, hg, _⟩, _⟩, hB⟩ hK
      have hc := hv.cell
      gi_wp2
      refine ⟨by simp, .inl ⟨_, _, rfl, run_takeDeferred hK, ?_⟩⟩
      refine ⟨_, results_tmp rfl _ _ _, v, rfl, ?_, hB.trans (belowK_b (w := w) (Nat.le_refl _) W D _ _ (by simp at hD; omega) hK rfl rfl)⟩
      rw [HN.out, ← hys]
      exact ⟨ownsRow_putObj hg.1 _ hK rfl, hg.2⟩
    case stop =>
      rintro D c pre W _ _ h _
      exact h.elim
end Pg
end Go.Proofs.Ytmbbombjlijknaa

/- Contracts of the other side's lists of those above and below. -/
namespace Go.Proofs.Ytmbbombjlijknaa
namespace Pg
open Go.ChangeShapes Go.WideShapes Go.ChangeAt Go.RowKit St

set_option maxRecDepth 100000 in
set_option maxHeartbeats 1000000 in
theorem l5Below (B : Nat) (p : Prg) (a : Option Addr) (cap : Nat) (c : Int) (h6 : p.length ≤ 6) (hsup : SupOk p p.length) (w : World) (hp : SK front B w (.slice a p.length cap) p) :
    Calls Try.prog 47 #[.agg #[.slice a p.length cap], .int .i64 c] w fun e w' => ∃ v, e = .returned v ∧ Grow w.heap.size w' v (downL p c) ∧ Below w.heap.size w w' := by
  obtain ⟨i0, hif, hz0, hz1, hz2⟩ := info_parts infoN
  have HP : Hid (SK front B w (.slice a p.length cap) p) := hp
  have HSUP : Hid (SupOk p p.length) := hsup
  clear hp hsup
  obtain ⟨W, hW⟩ : ∃ W, W = w.alloc (.cells #[.slice a p.length cap] 26) := ⟨_, rfl⟩
  have hwW : Below w.heap.size w W := by rw [hW]; exact (Below.refl _ _).alloc (Nat.le_refl _) _
  have P0 : Hid (Cells W w.heap.size [.slice a p.length cap]) := by rw [hW]; exact Cells.new w _ rfl _ _
  have G0 : Hid (Grow W.heap.size (W.alloc (.cells #[] 2)) (.slice (some ⟨W.heap.size, 0, none⟩) 0 0) []) := grow_start W
  have HSZ : Hid (W.heap.size = w.heap.size + 1) := by show _ = _; rw [hW]; simp
  go_enter Try.func47, Try.ntmps47
  go_wp2
  rw [← HSZ.out, ← hW]
  clear hW
  go_loopw [5, 6] (fun y i wr => ∃ (k : Nat) (v0 : Value), k ≤ p.length ∧ i = .int .i64 (k : Int) ∧ v0 = y ∧ Hid (Grow W.heap.size wr v0 (((allC p).take k).filter (fun i => undB p i c))) ∧ Below W.heap.size W wr) (fun _ i _ => p.length - (intOf i).toNat)
  case atStart => exact ⟨0, _, Nat.zero_le _, rfl, rfl, G0.out, (Below.refl _ _).alloc (Nat.le_refl _) _⟩
  case round =>
    clear G0
    obtain ⟨k, v0, hk, rfl, rfl, hg, hb⟩ := hrel
    have hwr : Below w.heap.size w wr := hwW.trans (hb.mono hwW.size)
    obtain ⟨p0, _⟩ := (cells_lowP P0.out hb (by have := HSZ.out; omega)).g0
    obtain ⟨g, cp, rfl⟩ := hg.out.form
    by_cases hlt : k < p.length
    · have hki : (k : Int) < (p.length : Int) := by omega
      have HST : Hid (((allC p).take (k + 1)).filter (fun i => undB p i c) = ((allC p).take k).filter (fun i => undB p i c) ++ (if undB p (k : Int) c then [(k : Int)] else [])) := by
        show _ = _
        rw [allC_take hlt, List.filter_append, filter_one]
      have hlen : (((allC p).take k).filter (fun i => undB p i c)).length ≤ 6 := by
        have h1 := downL_len p c h6
        have h2 := (downL_pre p c k).length_le
        omega
      generalize hl : ((allC p).take k).filter (fun i => undB p i c) = pre at *
      clear hl
      go_wp2_with fail
      refine (l5Under B p a cap (k : Int) c (by omega) hki h6 HSUP.out _ (SK.on HP.out (Keep.of hwr))).mono ?_
      rintro e w1 ⟨rfl, hb1⟩
      have hw1 : Below w.heap.size w w1 := below_over hwr hb1
      have hW1 : Below W.heap.size W w1 := hb.trans (hb1.mono hb.size)
      have HG1 : Hid (Grow W.heap.size w1 (.slice (some ⟨g, 0, none⟩) pre.length cp) pre) := hg.out.on hb1
      clear hb1 hb hwr hg p0
      cases hq : undB p (k : Int) c
      · have HE : Hid (Grow W.heap.size w1 (.slice (some ⟨g, 0, none⟩) pre.length cp) (((allC p).take (k + 1)).filter (fun i => undB p i c))) := by
          rw [HST.out, hq, if_neg (by simp), List.append_nil]; exact HG1.out
        clear HST HG1
        go_wp2
        go_roundw
        case rel => exact ⟨k + 1, _, by omega, by go_num, rfl, HE.out, hW1⟩
        case measure => simp [intOf]; omega
      · have hzr : W.heap.size ≤ w1.heap.size := hW1.size
        go_wp2_with (at_builtin; refine wpList_append_own _ rfl _ _ 32 rfl W.heap.size 2 i0 (.int .i64 0) 1 8 Try.underlying32 hif hz0 hz1 hz2 rfl (by decide) _ _ _ rfl (HG1.out.1.alloc _) ⟨w1.heap.size, 0, none⟩ 1 1 [.int .i64 (k : Int)] rfl rfl (cell_one_new _ _ _) (by simp [Value.oneCell']) (by unfold maxLen; omega) (by omega) (by simp; omega) ?_)
        intro v' w2 hown hgrow hnil
        have hb2 : Below W.heap.size W w2 := (hW1.alloc hW1.size _).grown hgrow (by simp; omega) (fun k hk => by simp [Value.ownBlock] at hk; subst hk; exact (HG1.out.1.lt g rfl).1)
        have HE : Hid (Grow W.heap.size w2 v' (((allC p).take (k + 1)).filter (fun i => undB p i c))) := by
          rw [HST.out, hq]
          exact grow_next hown (fun h => by first | exact hnil h | exact absurd (hnil.1 h).1 (by simp))
        clear hown hgrow hnil HST HG1
        go_wp2
        go_roundw
        case rel => exact ⟨k + 1, v', by omega, by go_num, rfl, HE.out, hb2⟩
        case measure => simp [intOf]; omega
    · have hkk : k = p.length := by omega
      have HG : Hid (Grow w.heap.size wr (.slice (some ⟨g, 0, none⟩) (((allC p).take k).filter (fun i => undB p i c)).length cp) (downL p c)) := by
        rw [← downL_all p c, ← hkk]; exact hg.out.base' (by have := HSZ.out; omega)
      have hki : ¬ (k : Int) < (p.length : Int) := by omega
      clear hg hkk
      go_wp2
      go_ret
      exact ⟨_, rfl, HG.out, hwr⟩
set_option maxHeartbeats 1000000 in
theorem specAboveOf (B : Nat) (p : Prg) (a : Option Addr) (cap : Nat) (t : Int) (hsp : SmallP p) (w : World) (hp : SK front B w (.slice a p.length cap) p) :
    Calls Try.prog 16 #[.agg #[.slice a p.length cap], .int .i64 t] w fun e w' => ∃ v, e = .returned v ∧ Grow w.heap.size w' v (upA p t) ∧ Below w.heap.size w w' := by
  have HSP : Hid (SmallP p) := hsp
  have HP : Hid (SK front B w (.slice a p.length cap) p) := hp
  clear hp hsp
  obtain ⟨W, hW⟩ : ∃ W, W = w.alloc (.cells #[.slice a p.length cap] 26) := ⟨_, rfl⟩
  have hwW : Below w.heap.size w W := by rw [hW]; exact (Below.refl _ _).alloc (Nat.le_refl _) _
  have P0 : Hid (Cells W w.heap.size [.slice a p.length cap]) := by rw [hW]; exact Cells.new w _ rfl _ _
  go_enter Try.func16, Try.ntmps16
  go_wp2_with fail
  rw [← hW]
  clear hW
  refine (l4In B p a cap t HSP.out _ (SK.on HP.out (Keep.of hwW))).mono ?_
  rintro e w1 ⟨rfl, hb1⟩
  have hw1 : Below w.heap.size w w1 := below_over hwW hb1
  obtain ⟨q0, _⟩ := (P0.out.on hb1).g0
  clear hb1 P0
  cases hok : (okP p && inB p t)
  · have HN : Hid (upA p t = []) := by show _ = _; unfold upA; rw [hok]; rfl
    go_wp2
    go_ret
    exact ⟨_, rfl, by rw [HN.out]; exact (grow_start w1).base' hw1.size, hw1.alloc hw1.size _⟩
  · have HN : Hid (upA p t = upL p t) := by show _ = _; unfold upA; rw [hok]; rfl
    obtain ⟨hk, h0, h1⟩ := okIn hok
    have h6 := (okP_len hk).2
    have HSU : Hid (SupOk p p.length) := okP_sup hk
    clear hk hok
    go_wp2_with fail
    refine (l5Above B p a cap t (by omega) h1 h6 HSU.out _ (SK.on HP.out (Keep.of hw1))).mono ?_
    rintro e w3 ⟨v, rfl, hg, hb3⟩
    have hw3 : Below w.heap.size w w3 := below_over hw1 hb3
    have HG : Hid (Grow w.heap.size w3 v (upL p t)) := hg.base' hw1.size
    clear hg hb3 q0
    go_wp2
    go_ret
    exact ⟨_, rfl, by rw [HN.out]; exact HG.out, hw3⟩
set_option maxHeartbeats 1000000 in
theorem specBelowOf (B : Nat) (p : Prg) (a : Option Addr) (cap : Nat) (t : Int) (hsp : SmallP p) (w : World) (hp : SK front B w (.slice a p.length cap) p) :
    Calls Try.prog 17 #[.agg #[.slice a p.length cap], .int .i64 t] w fun e w' => ∃ v, e = .returned v ∧ Grow w.heap.size w' v (downA p t) ∧ Below w.heap.size w w' := by
  have HSP : Hid (SmallP p) := hsp
  have HP : Hid (SK front B w (.slice a p.length cap) p) := hp
  clear hp hsp
  obtain ⟨W, hW⟩ : ∃ W, W = w.alloc (.cells #[.slice a p.length cap] 26) := ⟨_, rfl⟩
  have hwW : Below w.heap.size w W := by rw [hW]; exact (Below.refl _ _).alloc (Nat.le_refl _) _
  have P0 : Hid (Cells W w.heap.size [.slice a p.length cap]) := by rw [hW]; exact Cells.new w _ rfl _ _
  go_enter Try.func17, Try.ntmps17
  go_wp2_with fail
  rw [← hW]
  clear hW
  refine (l4In B p a cap t HSP.out _ (SK.on HP.out (Keep.of hwW))).mono ?_
  rintro e w1 ⟨rfl, hb1⟩
  have hw1 : Below w.heap.size w w1 := below_over hwW hb1
  obtain ⟨q0, _⟩ := (P0.out.on hb1).g0
  clear hb1 P0
  cases hok : (okP p && inB p t)
  · have HN : Hid (downA p t = []) := by show _ = _; unfold downA; rw [hok]; rfl
    go_wp2
    go_ret
    exact ⟨_, rfl, by rw [HN.out]; exact (grow_start w1).base' hw1.size, hw1.alloc hw1.size _⟩
  · have HN : Hid (downA p t = downL p t) := by show _ = _; unfold downA; rw [hok]; rfl
    obtain ⟨hk, h0, h1⟩ := okIn hok
    have h6 := (okP_len hk).2
    have HSU : Hid (SupOk p p.length) := okP_sup hk
    clear hk hok
    go_wp2_with fail
    refine (l5Below B p a cap t h6 HSU.out _ (SK.on HP.out (Keep.of hw1))).mono ?_
    rintro e w3 ⟨v, rfl, hg, hb3⟩
    have hw3 : Below w.heap.size w w3 := below_over hw1 hb3
    have HG : Hid (Grow w.heap.size w3 v (downL p t)) := hg.base' hw1.size
    clear hg hb3 q0
    go_wp2
    go_ret
    exact ⟨_, rfl, by rw [HN.out]; exact HG.out, hw3⟩
end Pg
end Go.Proofs.Ytmbbombjlijknaa

/- Contracts of the program's questions that go up: the lowest that is above two, and what is selected. -/
namespace Go.Proofs.Ytmbbombjlijknaa
namespace Pg
open Go.ChangeShapes Go.WideShapes Go.ChangeAt Go.RowKit Go.Shelf St
attribute [local go_sem] Oper.semAt_some

theorem find_none' {α : Type} {f : α → Bool} {l : List α} (h : ∀ y ∈ l, f y = false) : l.find? f = none := by
  rw [List.find?_eq_none]; intro x hx; rw [h x hx]; simp
theorem find_pre {α : Type} {f : α → Bool} {l pre : List α} {x : α} (hp : pre ++ [x] <+: l) (h : ∀ y ∈ pre, f y = false) (hx : f x = true) : l.find? f = some x := by
  obtain ⟨r, rfl⟩ := hp
  rw [List.find?_append, List.find?_append, find_none' h]
  simp [hx]
/-- The round that leaves: none before was one, this one is. -/
def Hit (f : Int → Bool) (pre : List Int) (x : Int) : Prop := ∃ q, pre = q ++ [x] ∧ (∀ y ∈ q, f y = false) ∧ f x = true
theorem Hit.find {f : Int → Bool} {pre l : List Int} {x : Int} (h : Hit f pre x) (hp : pre <+: l) : l.find? f = some x := by
  obtain ⟨q, rfl, h1, h2⟩ := h
  exact find_pre hp h1 h2

set_option maxRecDepth 100000 in
set_option maxHeartbeats 2000000 in
theorem lowestOf (B : Nat) (p : Prg) (a : Option Addr) (cap : Nat) (u0 b : Int) (hu0 : -1 ≤ u0) (hu1 : u0 < (p.length : Int)) (hv0 : -1 ≤ b) (hv1 : b < (p.length : Int)) (h6 : p.length ≤ 6) (hsup : SupOk p p.length) (w : World) (hp : SK front B w (.slice a p.length cap) p) :
    Calls Try.prog 38 #[.agg #[.slice a p.length cap], .int .i64 u0, .int .i64 b] w fun e w' => e = .returned (.int .i64 (lowF p u0 b)) ∧ Below w.heap.size w w' := by
  have HP : Hid (SK front B w (.slice a p.length cap) p) := hp
  have HSUP : Hid (SupOk p p.length) := hsup
  clear hp hsup
  refine (callsIn_wide (n := 4)).1 ?_
  refine callsIn_of_wp_marks Try.func38 rfl trivial ?_ rfl
  simp only [Try.ntmps38, List.size_toArray, List.length_cons, List.length_nil, Nat.reduceAdd, Nat.reduceSub, Array.replicate_succ, Array.replicate_zero, List.push_toArray, List.append_toArray, List.nil_append, List.cons_append]
  gi_wp2_with (refine ⟨trivial, ?_⟩; gi_at_call 40; refine (upFrom_in _ a p.length cap u0 _).mono ?_; rintro e w' ⟨rfl, rfl⟩)
  have b0 := Boxed.new w 26 (.slice a p.length cap)
  have b1 := Boxed.new (w.alloc (.cells #[.slice a p.length cap] 26)) 2 (.int .i64 b)
  have b2 := Boxed.new ((w.alloc (.cells #[.slice a p.length cap] 26)).alloc (.cells #[.int .i64 b] 2)) 2 (.int .i64 0)
  have b3 := Boxed.new (((w.alloc (.cells #[.slice a p.length cap] 26)).alloc (.cells #[.int .i64 b] 2)).alloc (.cells #[.int .i64 0] 2)) 26 (.slice a p.length cap)
  have b4 := Boxed.new ((((w.alloc (.cells #[.slice a p.length cap] 26)).alloc (.cells #[.int .i64 b] 2)).alloc (.cells #[.int .i64 0] 2)).alloc (.cells #[.slice a p.length cap] 26)) 2 (.int .i64 u0)
  simp only [World.size_alloc] at b1 b2 b3 b4
  have hB0 : Below w.heap.size w (((((w.alloc (.cells #[.slice a p.length cap] 26)).alloc (.cells #[.int .i64 b] 2)).alloc (.cells #[.int .i64 0] 2)).alloc (.cells #[.slice a p.length cap] 26)).alloc (.cells #[.int .i64 u0] 2)) := (((((Below.refl _ w).alloc (Nat.le_refl _) _).alloc (by simp) _).alloc (by simp; omega) _).alloc (by simp; omega) _).alloc (by simp; omega) _
  refine wpIn_rangeFunc_ownF rfl (show 1 ≤ 4 by omega) (gf := 73) (lb := #[.pointer (some ⟨w.heap.size + 1 + 1 + 1 + 1, 0, none⟩), .pointer (some ⟨w.heap.size + 1 + 1 + 1, 0, none⟩)]) rfl trivial (enters_of Try.func73 (by kernel_rfl) rfl)
    (up_stops _ (by omega) (w.heap.size + 1 + 1 + 1 + 1) (w.heap.size + 1 + 1 + 1) B p a cap u0 hu0 hu1 h6 HSUP.out w _ HP.out hB0 b4.cell (b3.alloc _)) kp_t (kp_b (by simp; omega) (by simp)) (Below.refl _ _) (fun _ => rfl)
    (fun pre W => (Hid (∀ y ∈ pre, undB p b y = false) ∧ W.cell? ⟨w.heap.size, 0, none⟩ = some (.slice a p.length cap) ∧ W.cell? ⟨w.heap.size + 1, 0, none⟩ = some (.int .i64 b) ∧ W.cell? ⟨w.heap.size + 1 + 1, 0, none⟩ = some (.int .i64 0) ∧ W.frozen? ⟨w.heap.size + 1 + 1, 0, none⟩ = false) ∧ Below w.heap.size w W)
    (fun c pre W => (c = .ret ∧ ∃ x, Hid (Hit (undB p b) pre x) ∧ W.cell? ⟨w.heap.size + 1 + 1, 0, none⟩ = some (.int .i64 x)) ∧ Below w.heap.size w W)
    (OwnFrom.and (Own.from (fun s A B row hs hg hr => ⟨hs.1, cell_kept hs.2.1 hg hr, cell_kept hs.2.2.1 hg hr, cell_kept hs.2.2.2.1 hg hr, (frozen_kept hs.2.2.2.1 hg hr).trans hs.2.2.2.2⟩) _) (ownFrom_below (Nat.le_refl _) (by simp; omega)))
    (fun c => OwnFrom.and (Own.from (fun s A B row hs hg hr => ⟨hs.1, hs.2.elim fun x hx => ⟨x, hx.1, cell_kept hx.2 hg hr⟩⟩) _) (ownFrom_below (Nat.le_refl _) (by simp; omega)))
    ⟨⟨fun _ h => absurd h (by simp), ((((b0.alloc _).alloc _).alloc _).alloc _).cell, (((b1.alloc _).alloc _).alloc _).cell, ((b2.alloc _).alloc _).cell, ((b2.alloc _).alloc _).frozen⟩, hB0⟩
    (fun x => { tmps := #[.agg #[.slice a p.length cap], .int .i64 u0, .int .i64 b, .pointer (some ⟨w.heap.size, 0, none⟩), undef, .pointer (some ⟨w.heap.size + 1, 0, none⟩), .pointer (some ⟨w.heap.size + 1 + 1, 0, none⟩), .int .i64 x, .agg #[.slice a p.length cap], .int .i64 u0, .func (.func 73) #[] #[.pointer (some ⟨w.heap.size + 1 + 1 + 1 + 1, 0, none⟩), .pointer (some ⟨w.heap.size + 1 + 1 + 1, 0, none⟩)], .int .i64 x, undef, undef, undef, undef, undef], defers := [] }) ?assign ?body ?done ?stop
  case assign =>
    intro l x W K hK
    gi_wp2
    exact hK
  case body =>
    rintro l pre x W ⟨⟨hne, c0, c1, c2, f2⟩, hB⟩ _
    clear b0 b1 b2 b3 b4 hB0
    gi_wp2_with fail
    refine ⟨trivial, ?_⟩
    refine (CallsIn.inRound l (callsIn_wide.2 (isUnder B p a cap b x hv0 hv1 h6 HSUP.out W (SK.on HP.out (Keep.of hB))))).mono ?_
    rintro e w1 ⟨rfl, hb1⟩
    have hB1 : Below w.heap.size w w1 := below_over hB hb1
    have d0 := (hb1.cell (cell_lt c0)).trans c0
    have d1 := (hb1.cell (cell_lt c1)).trans c1
    have d2 := (hb1.cell (cell_lt c2)).trans c2
    have e2 := (hb1.frozen (p := ⟨w.heap.size + 1 + 1, 0, none⟩) (cell_lt c2)).trans f2
    have HK : Hid (KeepsOthers W w1) := keeps_of hb1
    have HKP : Hid (Kp w.heap.size [w.heap.size + 1 + 1 + 1] W w1) := Kp.on hb1 hB.size
    clear c0 c1 c2 f2 hb1
    cases hq : undB p b x
    · have HNE : Hid (∀ y ∈ pre ++ [x], undB p b y = false) := fun y hy => (List.mem_append.1 hy).elim (hne.out y) (fun e => by simp at e; subst e; exact hq)
      gi_wp2
      exact ⟨HK.out, HKP.out, ⟨HNE, d0, d1, d2, e2⟩, hB1⟩
    · have HH : Hid (Hit (undB p b) (pre ++ [x]) x) := ⟨pre, rfl, hne.out, hq⟩
      gi_wp2
      exact ⟨HK.out.trans (KeepsOthers.setCell _ _ _), ⟨rfl, x, HH, World.cell?_setCell_same' _ _ _ (by rw [d2]; rfl)⟩, hB1.setCell (p := ⟨w.heap.size + 1 + 1, 0, none⟩) (by simp; omega) _⟩
  case done =>
    rintro D ys W hD rfl ⟨⟨hne, _, _, hcr, hfr⟩, hB⟩ hK
    gi_wp2
    have hK' := (KeepsOthers.setCell W ⟨w.heap.size + 1 + 1, 0, none⟩ (.int .i64 (-1))).same D _ hK rfl
    refine ⟨by simp, .inl ⟨_, _, rfl, run_takeDeferred hK', ?_⟩⟩
    have hc5 := cell_kept (World.cell?_setCell_same' W ⟨w.heap.size + 1 + 1, 0, none⟩ (.int .i64 (-1)) (by rw [hcr]; rfl)) (grownBy_putObj' _ D (.deferred none)) (fun r e => by cases e; exact ⟨_, hK', rfl⟩)
    refine ⟨.int .i64 (-1), ?_, by rw [show lowF p u0 b = -1 from by unfold lowF; rw [find_none' hne.out]; rfl], (hB.setCell (p := ⟨w.heap.size + 1 + 1, 0, none⟩) (by simp; omega) _).trans (belowK_b (w := w) (Nat.le_refl _) _ D _ _ (by simp at hD; omega) hK' rfl rfl)⟩
    simp [results, Try.f38, go_sem, hc5]
  case stop =>
    rintro D c pre W hD hpre ⟨⟨rfl, x, hin, hcr⟩, hB⟩ hK
    gi_wp2
    refine ⟨by simp, .inl ⟨_, _, rfl, run_takeDeferred hK, ?_⟩⟩
    have hc5 := cell_kept hcr (grownBy_putObj' _ D (.deferred none)) (fun r e => by cases e; exact ⟨_, hK, rfl⟩)
    refine ⟨.int .i64 x, ?_, by rw [show lowF p u0 b = x from by unfold lowF; rw [hin.out.find hpre]; rfl], hB.trans (belowK_b (w := w) (Nat.le_refl _) W D _ _ (by simp at hD; omega) hK rfl rfl)⟩
    simp [results, Try.f38, go_sem, hc5]
end Pg
end Go.Proofs.Ytmbbombjlijknaa

/- A region that draws its order, in a round of a loop over a function: as in a plain body. -/
namespace Go.Proofs.Ytmbbombjlijknaa
namespace Pg
open Go.ChangeShapes Go.WideShapes Go.ChangeAt Go.RowKit Go.Shelf St

theorem oper_in {l n : Nat} {P : Program} {o : Oper} {a : Act} {w : World} {K : Act → World → Prop} {Q : Exit → Act → World → Prop} (h : ∀ c, o.op ≠ .defer c) (hh : Oper.wp P o a w K Q) : Oper.wpIn (Fence.wide.inRound l) n P o a w K Q := by
  refine ⟨fun _ _ => trivial, ?_⟩
  show o.uponIn _ n P a K Q ((o.semAt (some l) a.eval).run P w)
  rw [Oper.semAt_some l _ _ h]
  unfold Oper.wp at hh
  generalize (execOp a.eval o).run P w = r at *
  cases r with
  | ok x w' =>
    cases x <;> simp only [Oper.upon, Oper.uponIn] at hh ⊢ <;>
      first
        | exact hh
        | exact ⟨fun h => absurd h (by simp [Fence.wide, Fence.inRound]), callsIn_wide.2 hh⟩
        | exact ⟨fun h => absurd h (by simp [Fence.wide, Fence.inRound]), fun c cs _ => let ⟨v, w', r, s⟩ := hh c cs; ⟨v, w', r, stepsIn_wide.2 s⟩⟩
  | halt x w' => cases x <;> simp only [Oper.upon, Oper.uponIn] at hh ⊢ <;> exact hh
theorem wpOp_in {l n : Nat} {P : Program} {ops : Array Oper} {Q : Exit → Act → World → Prop} {i : Nat} {K : Act → World → Prop} {a : Act} {w : World} (hd : ∀ o ∈ ops, ∀ c, o.op ≠ .defer c) (hlo : ¬ LetsOut Q) (h : wpOp P ops Q i K a w) : wpOpIn (Fence.wide.inRound l) n P ops Q i K a w := by
  unfold wpOp at h
  unfold wpOpIn
  split
  · rename_i ho
    simpa [ho] using h
  · rename_i o ho
    simp only [ho] at h
    split
    · rename_i hw
      simp only [hw, if_true] at h
      rcases h with h | ⟨_, h⟩
      · exact oper_in (hd o (Array.mem_of_getElem? ho)) h
      · exact absurd h hlo
    · rename_i hw
      simp only [hw] at h
      exact ⟨fun _ _ => trivial, h⟩
theorem any_in {l n : Nat} {P : Program} {md : Region.Mode} {ops : Array Oper} {Q : Exit → Act → World → Prop} (hd : ∀ o ∈ ops, ∀ c, o.op ≠ .defer c) (hlo : ¬ LetsOut Q) : ∀ (fuel : Nat) (listed : Array Bool) (a : Act) (w : World), wpAny P md ops Q fuel listed a w → wpAnyIn (Fence.wide.inRound l) n P md ops Q fuel listed a w
  | 0, _, _, _, h => h
  | fuel + 1, _, _, _, h => ⟨h.1, fun i hi => wpOp_in hd hlo (wpOp_mono (fun a' w' h' => any_in hd hlo fuel _ a' w' h') (h.2 i hi))⟩
theorem round_held {l n id : Nat} {P : Program} {ops : Array Oper} {Q : Exit → Act → World → Prop} {a : Act} {w : World} {S : World → Prop} (hm : P.follows .mixedOrders = true) (hd : ∀ o ∈ ops, ∀ c, o.op ≠ .defer c) (hlo : ¬ LetsOut Q) (hS : S w.drew) (h : S w.drew → wpAnyH P .any ops Q S ops.size (Array.replicate ops.size false) a w.drew) : (Code.region id ops true).wpIn (Fence.wide.inRound l) n P Q a w :=
  wpIn_region_any hm (any_in hd hlo _ _ _ _ (wpAny_of_held _ _ _ _ (h hS)))
end Pg
end Go.Proofs.Ytmbbombjlijknaa

/- Contract of the program's selection of a method. -/
namespace Go.Proofs.Ytmbbombjlijknaa
namespace Pg
open Go.ChangeShapes Go.WideShapes Go.ChangeAt Go.RowKit Go.Shelf St
attribute [local go_sem] Oper.semAt_some

set_option maxRecDepth 100000 in
set_option maxHeartbeats 2000000 in
theorem selectedFrom (B : Nat) (p : Prg) (a : Option Addr) (cap : Nat) (u0 b : Int) (hu0 : -1 ≤ u0) (hu1 : u0 < (p.length : Int)) (hsp : SmallP p) (h6 : p.length ≤ 6) (hsup : SupOk p p.length) (w : World) (hp : SK front B w (.slice a p.length cap) p) :
    Calls Try.prog 49 #[.agg #[.slice a p.length cap], .int .i64 u0, .int .i64 b] w fun e w' => e = .returned (.int .i64 (selF p u0 b)) ∧ Below w.heap.size w w' := by
  have HP : Hid (SK front B w (.slice a p.length cap) p) := hp
  have HSUP : Hid (SupOk p p.length) := hsup
  have HSP : Hid (SmallP p) := hsp
  clear hp hsup hsp
  refine (callsIn_wide (n := 4)).1 ?_
  refine callsIn_of_wp_marks Try.func49 rfl trivial ?_ rfl
  simp only [Try.ntmps49, List.size_toArray, List.length_cons, List.length_nil, Nat.reduceAdd, Nat.reduceSub, Array.replicate_succ, Array.replicate_zero, List.push_toArray, List.append_toArray, List.nil_append, List.cons_append]
  gi_wp2_with (refine ⟨trivial, ?_⟩; gi_at_call 40; refine (upFrom_in _ a p.length cap u0 _).mono ?_; rintro e w' ⟨rfl, rfl⟩)
  have b0 := Boxed.new w 26 (.slice a p.length cap)
  have b1 := Boxed.new (w.alloc (.cells #[.slice a p.length cap] 26)) 2 (.int .i64 b)
  have b2 := Boxed.new ((w.alloc (.cells #[.slice a p.length cap] 26)).alloc (.cells #[.int .i64 b] 2)) 2 (.int .i64 0)
  have b3 := Boxed.new (((w.alloc (.cells #[.slice a p.length cap] 26)).alloc (.cells #[.int .i64 b] 2)).alloc (.cells #[.int .i64 0] 2)) 26 (.slice a p.length cap)
  have b4 := Boxed.new ((((w.alloc (.cells #[.slice a p.length cap] 26)).alloc (.cells #[.int .i64 b] 2)).alloc (.cells #[.int .i64 0] 2)).alloc (.cells #[.slice a p.length cap] 26)) 2 (.int .i64 u0)
  simp only [World.size_alloc] at b1 b2 b3 b4
  have hB0 : Below w.heap.size w (((((w.alloc (.cells #[.slice a p.length cap] 26)).alloc (.cells #[.int .i64 b] 2)).alloc (.cells #[.int .i64 0] 2)).alloc (.cells #[.slice a p.length cap] 26)).alloc (.cells #[.int .i64 u0] 2)) := (((((Below.refl _ w).alloc (Nat.le_refl _) _).alloc (by simp) _).alloc (by simp; omega) _).alloc (by simp; omega) _).alloc (by simp; omega) _
  refine wpIn_rangeFunc_ownF rfl (show 1 ≤ 4 by omega) (gf := 73) (lb := #[.pointer (some ⟨w.heap.size + 1 + 1 + 1 + 1, 0, none⟩), .pointer (some ⟨w.heap.size + 1 + 1 + 1, 0, none⟩)]) rfl trivial (enters_of Try.func73 (by kernel_rfl) rfl)
    (up_stopsC _ (by omega) (w.heap.size + 1 + 1 + 1 + 1) (w.heap.size + 1 + 1 + 1) B p a cap u0 hu0 hu1 h6 HSUP.out w _ HP.out hB0 b4.cell (b3.alloc _)) kp_t (kp_b (by simp; omega) (by simp)) (Below.refl _ _) (fun _ => rfl)
    (fun pre W => (Hid (∀ y ∈ vals pre, hasM p b y = false) ∧ W.cell? ⟨w.heap.size, 0, none⟩ = some (.slice a p.length cap) ∧ W.cell? ⟨w.heap.size + 1, 0, none⟩ = some (.int .i64 b) ∧ W.cell? ⟨w.heap.size + 1 + 1, 0, none⟩ = some (.int .i64 0) ∧ W.frozen? ⟨w.heap.size + 1 + 1, 0, none⟩ = false) ∧ Below w.heap.size w W)
    (fun c pre W => (c = .ret ∧ ∃ x, Hid (Hit (hasM p b) (vals pre) x) ∧ W.cell? ⟨w.heap.size + 1 + 1, 0, none⟩ = some (.int .i64 x)) ∧ Below w.heap.size w W)
    (OwnFrom.and (Own.from (fun s A B row hs hg hr => ⟨hs.1, cell_kept hs.2.1 hg hr, cell_kept hs.2.2.1 hg hr, cell_kept hs.2.2.2.1 hg hr, (frozen_kept hs.2.2.2.1 hg hr).trans hs.2.2.2.2⟩) _) (ownFrom_below (Nat.le_refl _) (by simp; omega)))
    (fun c => OwnFrom.and (Own.from (fun s A B row hs hg hr => ⟨hs.1, hs.2.elim fun x hx => ⟨x, hx.1, cell_kept hx.2 hg hr⟩⟩) _) (ownFrom_below (Nat.le_refl _) (by simp; omega)))
    ⟨⟨fun _ h => absurd h (by simp [vals]), ((((b0.alloc _).alloc _).alloc _).alloc _).cell, (((b1.alloc _).alloc _).alloc _).cell, ((b2.alloc _).alloc _).cell, ((b2.alloc _).alloc _).frozen⟩, hB0⟩
    (fun x => { tmps := #[.agg #[.slice a p.length cap], .int .i64 u0, .int .i64 b, .pointer (some ⟨w.heap.size, 0, none⟩), undef, .pointer (some ⟨w.heap.size + 1, 0, none⟩), .pointer (some ⟨w.heap.size + 1 + 1, 0, none⟩), .int .i64 x.1, undef, undef, .agg #[.slice a p.length cap], .int .i64 u0, .func (.func 73) #[] #[.pointer (some ⟨w.heap.size + 1 + 1 + 1 + 1, 0, none⟩), .pointer (some ⟨w.heap.size + 1 + 1 + 1, 0, none⟩)], .int .i64 x.1, undef, undef, undef, undef, undef, undef, undef, undef, undef, undef, undef, undef], defers := [] }) ?assign ?body ?done ?stop
  case assign =>
    intro l x W K hK
    gi_wp2
    exact hK
  case body =>
    rintro l pre x W ⟨⟨hne, c0, c1, c2, f2'⟩, hB⟩ _
    have HV : Hid (vals (pre ++ [x]) = vals pre ++ [x.1]) := vals_snoc pre x
    obtain ⟨xv, hx0, hx1⟩ := x
    obtain ⟨j, rfl⟩ := Int.eq_ofNat_of_zero_le hx0
    clear b0 b1 b2 b3 b4 hB0
    have hjp : j < p.length := by omega
    obtain ⟨b', o, rfl, _, vf, vm, d0, d1, d2, hcv⟩ := HP.out.get hjp
    obtain ⟨z1, t1, rfl⟩ := hcv.1.form
    obtain ⟨z2, t2, rfl⟩ := hcv.2.form
    have l0 : b' < w.heap.size := cell_lt d0
    have k0 := (hB.cell l0).trans d0
    have k1 := (hB.cell l0).trans d1
    have k2 := (hB.cell l0).trans d2
    have HSM : Hid (SM front B w (.slice z2 p[j].meths.length t2) p[j].meths) := hcv.2
    have hsm := HSP.out.2 _ (List.getElem_mem hjp)
    have hsl := hsm.2.1
    have HHM : Hid (hasM p b (j : Int) = (ownF p[j] b).isSome) := by
      show _ = _
      unfold hasM
      rw [Int.toNat_natCast, List.getElem?_eq_getElem hjp]
    generalize p[j] = c at *
    clear hcv hsm d0 d1 d2
    dsimp only at HV ⊢
    have lb : b' < W.heap.size := Nat.lt_of_lt_of_le l0 hB.size
    have HS : Hid (∀ w', Below W.heap.size W w' → Below W.heap.size W w' ∧ w'.cell? ⟨w.heap.size, 0, none⟩ = some (.slice (some ⟨b', o, none⟩) p.length cap) ∧ w'.cell? ⟨w.heap.size + 1, 0, none⟩ = some (.int .i64 b) ∧ w'.cell? ⟨b', o + j * 3, none⟩ = some (.int .i64 c.super) ∧ w'.cell? ⟨b', o + j * 3 + 1, none⟩ = some (.slice z1 c.fields.length t1) ∧ w'.cell? ⟨b', o + j * 3 + 2, none⟩ = some (.slice z2 c.meths.length t2)) := fun w' h =>
      ⟨h, (h.cell (cell_lt c0)).trans c0, (h.cell (cell_lt c1)).trans c1, (h.cell lb).trans k0, (h.cell lb).trans k1, (h.cell lb).trans k2⟩
    gi_wp2_with fail
    refine round_held (S := fun w' => Below W.heap.size W w' ∧ w'.cell? ⟨w.heap.size, 0, none⟩ = some (.slice (some ⟨b', o, none⟩) p.length cap) ∧ w'.cell? ⟨w.heap.size + 1, 0, none⟩ = some (.int .i64 b) ∧ w'.cell? ⟨b', o + j * 3, none⟩ = some (.int .i64 c.super) ∧ w'.cell? ⟨b', o + j * 3 + 1, none⟩ = some (.slice z1 c.fields.length t1) ∧ w'.cell? ⟨b', o + j * 3 + 2, none⟩ = some (.slice z2 c.meths.length t2)) (by kernel_rfl) (by simp) (fun ⟨_, _, h⟩ => h) (HS.out _ (Below.refl _ _).drew) (fun hHeld => ?_)
    refine wpAnyH_take (i := 0) (v := ?_) rfl (by kernel_rfl) (by kernel_rfl) (by kernel_rfl) (fun _ _ _ h => h) (Or.inl ⟨by rfl, ?_⟩) hHeld ?_
    rotate_left 1
    · intro w' hSw
      obtain ⟨_, s0, s1, s2, s3, s4⟩ := hSw
      go_simp
      try with_reducible rfl
    simp only [Act.put]
    refine wpAnyH_take (i := 1) (v := ?_) rfl (by kernel_rfl) (by kernel_rfl) (by kernel_rfl) (fun _ _ _ h => h) (Or.inl ⟨by rfl, ?_⟩) hHeld ?_
    rotate_left 1
    · intro w' hSw
      obtain ⟨_, s0, s1, s2, s3, s4⟩ := hSw
      go_simp
      try with_reducible rfl
    simp only [Act.put]
    refine wpAnyH_take (i := 2) (v := ?_) rfl (by kernel_rfl) (by kernel_rfl) (by kernel_rfl) (fun _ _ _ h => h) (Or.inl ⟨by rfl, ?_⟩) hHeld ?_
    rotate_left 1
    · intro w' hSw
      obtain ⟨_, s0, s1, s2, s3, s4⟩ := hSw
      go_simp
      try with_reducible rfl
    simp only [Act.put]
    refine wpAnyH_take (i := 3) (v := ?_) rfl (by kernel_rfl) (by kernel_rfl) (by kernel_rfl) (fun _ _ _ h => h) (Or.inl ⟨by rfl, ?_⟩) hHeld ?_
    rotate_left 1
    · intro w' hSw
      obtain ⟨_, s0, s1, s2, s3, s4⟩ := hSw
      go_simp
      try with_reducible rfl
    simp only [Act.put]
    refine wpAnyH_take (i := 4) (v := ?_) rfl (by kernel_rfl) (by kernel_rfl) (by kernel_rfl) (fun _ _ _ h => h) (Or.inl ⟨by rfl, ?_⟩) hHeld ?_
    rotate_left 1
    · intro w' hSw
      obtain ⟨_, s0, s1, s2, s3, s4⟩ := hSw
      go_simp
      try with_reducible rfl
    simp only [Act.put]
    refine wpAnyH_take (i := 5) (v := ?_) rfl (by kernel_rfl) (by kernel_rfl) (by kernel_rfl) (fun _ _ _ h => h) (Or.inl ⟨by rfl, ?_⟩) hHeld ?_
    rotate_left 1
    · intro w' hSw
      obtain ⟨_, s0, s1, s2, s3, s4⟩ := hSw
      go_simp
      try with_reducible rfl
    simp only [Act.put]
    refine wpAnyH_ready (rs := [6, 10]) (by kernel_rfl) (by simp) ?_
    refine AllReadyH.cons rfl (fun K hK => ?_) (AllReadyH.cons rfl (fun K hK => ?_) AllReadyH.nil)
    · go_simp
      refine (ownMethodR B c z1 z2 t2 c.fields.length t1 b hsl w _ (below_over hB hHeld.1) HSM.out).mono ?_
      rintro e w1 ⟨n, f1, l1, g1, gv, f2, l2, g2, q, rfl, hor, hb1⟩
      have hW1 : Below W.heap.size W w1 := below_over hHeld.1 hb1
      dsimp only
      refine hK.out _ _ (HS.out _ hW1) (fun hHeld => ?_)
      clear hK K
      refine wpAnyH_take (i := 7) (v := ?_) rfl (by kernel_rfl) (by kernel_rfl) (by kernel_rfl) (fun _ _ _ h => h) (Or.inl ⟨by rfl, ?_⟩) hHeld ?_
      rotate_left 1
      · intro w' hSw
        go_simp
        try with_reducible rfl
      simp only [Act.put]
      refine wpAnyH_take (i := 8) (v := ?_) rfl (by kernel_rfl) (by kernel_rfl) (by kernel_rfl) (fun _ _ _ h => h) (Or.inl ⟨by rfl, ?_⟩) hHeld ?_
      rotate_left 1
      · intro w' hSw
        go_simp
        try with_reducible rfl
      simp only [Act.put]
      refine wpAnyH_take (i := 9) (v := ?_) rfl (by kernel_rfl) (by kernel_rfl) (by kernel_rfl) (fun _ _ _ h => h) (Or.inl ⟨by rfl, ?_⟩) hHeld ?_
      rotate_left 1
      · intro w' hSw
        go_simp
        try with_reducible rfl
      simp only [Act.put]
      refine wpAnyH_ready (rs := [10]) (by kernel_rfl) (by simp) ?_
      refine AllReadyH.cons rfl (fun K hK => ?_) AllReadyH.nil
      go_simp
      refine hK.out _ _ (HS.out _ (hW1.alloc hW1.size _)) (fun hHeld => ?_)
      clear hK K
      refine wpAnyH_ready (rs := [11]) (by kernel_rfl) (by simp) ?_
      refine AllReadyH.cons rfl (fun K hK => ?_) AllReadyH.nil
      have CX := Cells.new w1 w1.heap.size rfl [.int .i64 0, .slice none 0 0, .int .i64 0, .slice none 0 0] 41
      obtain ⟨x0, y0⟩ := CX.g0
      obtain ⟨x1, y1⟩ := CX.g1
      obtain ⟨x2, y2⟩ := CX.g2
      obtain ⟨x3, y3⟩ := CX.g3
      go_simp
      have hWF : Below W.heap.size W (w1.alloc (.cells #[.int .i64 n, .slice f1 l1 g1, .int .i64 gv, .slice f2 l2 g2] 41)) := hW1.alloc hW1.size _
      refine hK.out _ _ (HS.out _ hWF) (fun hHeld => ?_)
      clear hK K x0 x1 x2 x3 y0 y1 y2 y3 CX
      generalize w1.alloc (.cells #[.int .i64 n, .slice f1 l1 g1, .int .i64 gv, .slice f2 l2 g2] 41) = wF at *
      refine wpAnyH_take (i := 12) (v := ?_) rfl (by kernel_rfl) (by kernel_rfl) (by kernel_rfl) (fun _ _ _ h => h) (Or.inl ⟨by rfl, ?_⟩) hHeld ?_
      rotate_left 1
      · intro w' hSw
        go_simp
        try with_reducible rfl
      simp only [Act.put]
      refine wpAnyH_done (by kernel_rfl) ?_ _
      have hB1 : Below w.heap.size w wF := below_over hB hWF
      have e0 := (hWF.cell (cell_lt c0)).trans c0
      have e1 := (hWF.cell (cell_lt c1)).trans c1
      have e2 := (hWF.cell (cell_lt c2)).trans c2
      have q2 := (hWF.frozen (p := ⟨w.heap.size + 1 + 1, 0, none⟩) (cell_lt c2)).trans f2'
      have HK : Hid (KeepsOthers W wF) := keeps_of hWF
      have HKP : Hid (Kp w.heap.size [w.heap.size + 1 + 1 + 1] W wF) := Kp.on hWF hB.size
      clear hHeld hW1 hb1 hWF c0 c1 c2 k0 k1 k2
      rcases hor.out with ⟨rfl, x, hox, _⟩ | ⟨rfl, hox⟩
      · have HH : Hid (Hit (hasM p b) (vals pre ++ [(j : Int)]) (j : Int)) := ⟨vals pre, rfl, hne.out, by rw [HHM.out, hox]; rfl⟩
        clear hor hox
        gi_wp2
        exact ⟨HK.out.trans (KeepsOthers.setCell _ _ _), ⟨rfl, (j : Int), by rw [HV.out]; exact HH, World.cell?_setCell_same' _ _ _ (by rw [e2]; rfl)⟩, hB1.setCell (p := ⟨w.heap.size + 1 + 1, 0, none⟩) (by simp; omega) _⟩
      · have HNE : Hid (∀ y ∈ vals pre ++ [(j : Int)], hasM p b y = false) := fun y hy => (List.mem_append.1 hy).elim (hne.out y) (fun e => by simp at e; subst e; rw [HHM.out, hox]; rfl)
        clear hor hox
        gi_wp2
        exact ⟨HK.out, HKP.out, ⟨by rw [HV.out]; exact HNE, e0, e1, e2, q2⟩, hB1⟩
    · go_simp
      refine hK.out _ _ (HS.out _ (hHeld.1.alloc hHeld.1.size _)) (fun hHeld => ?_)
      clear hK K
      refine wpAnyH_ready (rs := [6]) (by kernel_rfl) (by simp) ?_
      refine AllReadyH.cons rfl (fun K hK => ?_) AllReadyH.nil
      go_simp
      refine (ownMethodR B c z1 z2 t2 c.fields.length t1 b hsl w _ (below_over hB hHeld.1) HSM.out).mono ?_
      rintro e w1 ⟨n, f1, l1, g1, gv, f2, l2, g2, q, rfl, hor, hb1⟩
      have hW1 : Below W.heap.size W w1 := below_over hHeld.1 hb1
      have CX := Cells.on (Cells.new W.drew W.heap.size rfl [.int .i64 0, .slice none 0 0, .int .i64 0, .slice none 0 0] 41) hb1
      dsimp only
      refine hK.out _ _ (HS.out _ hW1) (fun hHeld => ?_)
      clear hK K
      refine wpAnyH_take (i := 7) (v := ?_) rfl (by kernel_rfl) (by kernel_rfl) (by kernel_rfl) (fun _ _ _ h => h) (Or.inl ⟨by rfl, ?_⟩) hHeld ?_
      rotate_left 1
      · intro w' hSw
        go_simp
        try with_reducible rfl
      simp only [Act.put]
      refine wpAnyH_take (i := 8) (v := ?_) rfl (by kernel_rfl) (by kernel_rfl) (by kernel_rfl) (fun _ _ _ h => h) (Or.inl ⟨by rfl, ?_⟩) hHeld ?_
      rotate_left 1
      · intro w' hSw
        go_simp
        try with_reducible rfl
      simp only [Act.put]
      refine wpAnyH_take (i := 9) (v := ?_) rfl (by kernel_rfl) (by kernel_rfl) (by kernel_rfl) (fun _ _ _ h => h) (Or.inl ⟨by rfl, ?_⟩) hHeld ?_
      rotate_left 1
      · intro w' hSw
        go_simp
        try with_reducible rfl
      simp only [Act.put]
      refine wpAnyH_ready (rs := [11]) (by kernel_rfl) (by simp) ?_
      refine AllReadyH.cons rfl (fun K hK => ?_) AllReadyH.nil
      obtain ⟨x0, y0⟩ := CX.g0
      obtain ⟨x1, y1⟩ := CX.g1
      obtain ⟨x2, y2⟩ := CX.g2
      obtain ⟨x3, y3⟩ := CX.g3
      go_simp
      have hWF : Below W.heap.size W ((((w1.setCell ⟨W.heap.size, 0, none⟩ (.int .i64 n)).setCell ⟨W.heap.size, 1, none⟩ (.slice f1 l1 g1)).setCell ⟨W.heap.size, 2, none⟩ (.int .i64 gv)).setCell ⟨W.heap.size, 3, none⟩ (.slice f2 l2 g2)) := (((hW1.setCell (p := ⟨W.heap.size, 0, none⟩) (Nat.le_refl _) _).setCell (p := ⟨W.heap.size, 1, none⟩) (Nat.le_refl _) _).setCell (p := ⟨W.heap.size, 2, none⟩) (Nat.le_refl _) _).setCell (p := ⟨W.heap.size, 3, none⟩) (Nat.le_refl _) _
      refine hK.out _ _ (HS.out _ hWF) (fun hHeld => ?_)
      clear hK K x0 x1 x2 x3 y0 y1 y2 y3 CX
      generalize (((w1.setCell ⟨W.heap.size, 0, none⟩ (.int .i64 n)).setCell ⟨W.heap.size, 1, none⟩ (.slice f1 l1 g1)).setCell ⟨W.heap.size, 2, none⟩ (.int .i64 gv)).setCell ⟨W.heap.size, 3, none⟩ (.slice f2 l2 g2) = wF at *
      refine wpAnyH_take (i := 12) (v := ?_) rfl (by kernel_rfl) (by kernel_rfl) (by kernel_rfl) (fun _ _ _ h => h) (Or.inl ⟨by rfl, ?_⟩) hHeld ?_
      rotate_left 1
      · intro w' hSw
        go_simp
        try with_reducible rfl
      simp only [Act.put]
      refine wpAnyH_done (by kernel_rfl) ?_ _
      have hB1 : Below w.heap.size w wF := below_over hB hWF
      have e0 := (hWF.cell (cell_lt c0)).trans c0
      have e1 := (hWF.cell (cell_lt c1)).trans c1
      have e2 := (hWF.cell (cell_lt c2)).trans c2
      have q2 := (hWF.frozen (p := ⟨w.heap.size + 1 + 1, 0, none⟩) (cell_lt c2)).trans f2'
      have HK : Hid (KeepsOthers W wF) := keeps_of hWF
      have HKP : Hid (Kp w.heap.size [w.heap.size + 1 + 1 + 1] W wF) := Kp.on hWF hB.size
      clear hHeld hW1 hb1 hWF c0 c1 c2 k0 k1 k2
      rcases hor.out with ⟨rfl, x, hox, _⟩ | ⟨rfl, hox⟩
      · have HH : Hid (Hit (hasM p b) (vals pre ++ [(j : Int)]) (j : Int)) := ⟨vals pre, rfl, hne.out, by rw [HHM.out, hox]; rfl⟩
        clear hor hox
        gi_wp2
        exact ⟨HK.out.trans (KeepsOthers.setCell _ _ _), ⟨rfl, (j : Int), by rw [HV.out]; exact HH, World.cell?_setCell_same' _ _ _ (by rw [e2]; rfl)⟩, hB1.setCell (p := ⟨w.heap.size + 1 + 1, 0, none⟩) (by simp; omega) _⟩
      · have HNE : Hid (∀ y ∈ vals pre ++ [(j : Int)], hasM p b y = false) := fun y hy => (List.mem_append.1 hy).elim (hne.out y) (fun e => by simp at e; subst e; rw [HHM.out, hox]; rfl)
        clear hor hox
        gi_wp2
        exact ⟨HK.out, HKP.out, ⟨by rw [HV.out]; exact HNE, e0, e1, e2, q2⟩, hB1⟩
  case done =>
    rintro D ys W hD hys ⟨⟨hne, _, _, hcr, hfr⟩, hB⟩ hK
    gi_wp2
    have hK' := (KeepsOthers.setCell W ⟨w.heap.size + 1 + 1, 0, none⟩ (.int .i64 (-1))).same D _ hK rfl
    refine ⟨by simp, .inl ⟨_, _, rfl, run_takeDeferred hK', ?_⟩⟩
    have hc5 := cell_kept (World.cell?_setCell_same' W ⟨w.heap.size + 1 + 1, 0, none⟩ (.int .i64 (-1)) (by rw [hcr]; rfl)) (grownBy_putObj' _ D (.deferred none)) (fun r e => by cases e; exact ⟨_, hK', rfl⟩)
    refine ⟨.int .i64 (-1), ?_, by rw [show selF p u0 b = -1 from by unfold selF; rw [← hys, find_none' hne.out]; rfl], (hB.setCell (p := ⟨w.heap.size + 1 + 1, 0, none⟩) (by simp; omega) _).trans (belowK_b (w := w) (Nat.le_refl _) _ D _ _ (by simp at hD; omega) hK' rfl rfl)⟩
    simp [results, Try.f49, go_sem, hc5]
  case stop =>
    rintro D c pre W hD hpre ⟨⟨rfl, x, hin, hcr⟩, hB⟩ hK
    gi_wp2
    refine ⟨by simp, .inl ⟨_, _, rfl, run_takeDeferred hK, ?_⟩⟩
    have hc5 := cell_kept hcr (grownBy_putObj' _ D (.deferred none)) (fun r e => by cases e; exact ⟨_, hK, rfl⟩)
    refine ⟨.int .i64 x, ?_, by rw [show selF p u0 b = x from by unfold selF; rw [hin.out.find hpre]; rfl], hB.trans (belowK_b (w := w) (Nat.le_refl _) W D _ _ (by simp at hD; omega) hK rfl rfl)⟩
    simp [results, Try.f49, go_sem, hc5]
end Pg
end Go.Proofs.Ytmbbombjlijknaa
