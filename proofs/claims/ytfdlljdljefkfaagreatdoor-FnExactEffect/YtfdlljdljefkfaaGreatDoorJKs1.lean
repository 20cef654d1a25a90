/- Contracts of the other side's questions about those above. -/
import Derived.Test.YtfdlljdljefkfaaGreatDoorJHi0
import Derived.Test.YtfdlljdljefkfaaGreatDoorJEn0
import Derived.Maps.AppendAt
import Derived.Test.YtfdlljdljefkfaaGreatDoorJKi2
import Derived.Test.YtfdlljdljefkfaaGreatDoorJCk2
namespace Go.Proofs.YtfdlljdljefkfaaGreatDoor
namespace Pg
open Go.ChangeShapes Go.WideShapes Go.ChangeAt Go.RowKit St

theorem cells_lowP {B k : Nat} {u w : World} {vs : List Value} (h : Cells u k vs) (hb : Below B u w) (hk : k < B) : Cells w k vs := fun i x hx => by
  obtain ⟨h1, h2⟩ := h i x hx
  exact ⟨(hb.cell (p := ⟨k, i, none⟩) hk).trans h1, (hb.frozen (p := ⟨k, i, none⟩) hk).trans h2⟩
theorem nums_snoc (l : List Int) (x : Int) : nums (l ++ [x]) = nums l ++ [.int .i64 x] := by simp [nums]
theorem grow_next {w : World} {B : Nat} {v : Value} {l : List Int} {x : Int} (h : w.ownsRow B 2 1 v (l.length + 1) (nums l ++ [.int .i64 x])) (hv : v ≠ .slice none 0 0) : Grow B w v (l ++ [x]) := by
  refine ⟨?_, hv⟩
  rw [nums_snoc, show (l ++ [x]).length = l.length + 1 from by simp]
  exact h
theorem grow_start (w : World) : Grow w.heap.size (w.alloc (.cells #[] 2)) (.slice (some ⟨w.heap.size, 0, none⟩) 0 0) [] := by
  refine ⟨?_, by simp⟩
  have h : (w.alloc (.cells #[] 2)).ownsRow w.heap.size 2 1 (.slice (some ⟨w.heap.size, 0, none⟩) 0 0) 0 [] := World.ownsRow_made w #[] 0 (Nat.le_refl _) (by decide) (by simp)
  simpa [nums] using h
theorem Grow.on {B : Nat} {u v : World} {x : Value} {l : List Int} (h : Grow B u x l) (hb : Below u.heap.size u v) : Grow B v x l := ⟨ownOn h.1 hb, h.2⟩
theorem Grow.form {B : Nat} {w : World} {x : Value} {l : List Int} (h : Grow B w x l) : ∃ g cap, x = .slice (some ⟨g, 0, none⟩) l.length cap := by
  obtain ⟨g, cap, hv, _⟩ := h.gint
  exact ⟨g, cap, hv⟩
theorem Grow.base' {B B' : Nat} {w : World} {v : Value} {l : List Int} (h : Grow B w v l) (hB : B' ≤ B) : Grow B' w v l := ⟨ownBase h.1 hB, h.2⟩

set_option maxHeartbeats 800000 in
theorem l1Has (g cap : Nat) (l : List Int) (n : Int) (hl : l.length ≤ 1048576) (w : World) (h : IRow w g 0 l) :
    Calls Tryz.prog 71 #[.slice (some ⟨g, 0, none⟩) l.length cap, .int .i64 n] w fun e w' => e = .returned (.bool (decide (n ∈ l))) ∧ w' = w := by
  have HI : Hid (IRow w g 0 l) := h
  clear h
  go_enter Tryz.func71, Tryz.ntmps71
  go_wp2
  go_loopw [5] (fun i wr => ∃ k : Nat, k ≤ l.length ∧ i = .int .i64 k ∧ Hid (n ∉ l.take k) ∧ wr = w) (fun i _ => l.length - (intOf i).toNat)
  case atStart => exact ⟨0, Nat.zero_le _, rfl, by show _ ∉ _; simp, rfl⟩
  case round =>
    obtain ⟨k, hk, rfl, hno, rfl⟩ := hrel
    by_cases hlt : k < l.length
    · have c0 := HI.out k _ (List.getElem?_eq_getElem hlt)
      rw [Nat.zero_add] at c0
      have HT : Hid (l[k] ≠ n → n ∉ l.take (k + 1)) := fun h hm => by
        rw [List.take_succ_eq_append_getElem hlt] at hm
        rcases List.mem_append.1 hm with hm | hm
        · exact hno.out hm
        · simp at hm; exact h hm.symm
      have HF : Hid (l[k] = n → decide (n ∈ l) = true) := fun h => by
        simp only [decide_eq_true_eq]; rw [← h]; exact List.getElem_mem hlt
      generalize l[k] = x at *
      have hki : (k : Int) < (l.length : Int) := by omega
      by_cases hx : x = n
      · have HD : Hid (decide (n ∈ l) = true) := HF.out hx
        have hxb : (x == n) = true := by simpa using hx
        clear HT HF hno hx
        go_wp2
        go_ret
        exact ⟨retB HD.out.symm, rfl⟩
      · have HD : Hid (n ∉ l.take (k + 1)) := HT.out hx
        have hxb : (x == n) = false := by simpa using hx
        clear HT HF hno hx
        go_wp2
        go_roundw
        case rel => exact ⟨k + 1, by omega, by go_num, HD.out, by simp⟩
        case measure => simp [intOf]; omega
    · have HD : Hid (decide (n ∈ l) = false) := by
        show _ = _
        have h := hno.out
        rw [List.take_of_length_le (by omega)] at h
        simpa using h
      go_wp2
      go_ret
      exact ⟨retB HD.out.symm, rfl⟩
set_option maxRecDepth 100000 in
set_option maxHeartbeats 1000000 in
theorem l5Above (B : Nat) (p : Prg) (a : Option Addr) (cap : Nat) (u0 : Int) (hu0 : -1 ≤ u0) (hu1 : u0 < (p.length : Int)) (h6 : p.length ≤ 6) (hsup : SupOk p p.length) (w : World) (hp : SK front B w (.slice a p.length cap) p) :
    Calls Tryz.prog 72 #[.agg #[.slice a p.length cap], .int .i64 u0] w fun e w' => ∃ v, e = .returned v ∧ Grow w.heap.size w' v (upL p u0) ∧ Below w.heap.size w w' := by
  obtain ⟨i0, hif, hz0, hz1, hz2⟩ := info_parts infoN
  have HP : Hid (SK front B w (.slice a p.length cap) p) := hp
  have HSUP : Hid (SupOk p p.length) := hsup
  clear hp hsup
  obtain ⟨W, hW⟩ : ∃ W, W = w.alloc (.cells #[.slice a p.length cap] 37) := ⟨_, rfl⟩
  have hwW : Below w.heap.size w W := by rw [hW]; exact (Below.refl _ _).alloc (Nat.le_refl _) _
  have P0 : Hid (Cells W w.heap.size [.slice a p.length cap]) := by rw [hW]; exact Cells.new w _ rfl _ _
  have G0 : Hid (Grow W.heap.size (W.alloc (.cells #[] 2)) (.slice (some ⟨W.heap.size, 0, none⟩) 0 0) []) := grow_start W
  have HSZ : Hid (W.heap.size = w.heap.size + 1) := by show _ = _; rw [hW]; simp
  go_enter Tryz.func72, Tryz.ntmps72
  go_wp2
  rw [← HSZ.out, ← hW]
  clear hW
  go_loopw [1, 5] (fun x y wr => ∃ (pre : List Int) (u : Int) (v0 : Value), x = .int .i64 u ∧ v0 = y ∧ -1 ≤ u ∧ u < (p.length : Int) ∧ Hid (upL p u0 = pre ++ upL p u) ∧ Hid (Grow W.heap.size wr v0 pre) ∧ Below W.heap.size W wr) (fun x _ _ => (intOf x + 1).toNat)
  case atStart => exact ⟨[], u0, _, rfl, rfl, hu0, hu1, by show _ = _; simp, G0.out, (Below.refl _ _).alloc (Nat.le_refl _) _⟩
  case round =>
    clear hu0 hu1 G0
    obtain ⟨pre, u, v0, rfl, rfl, hu0, hu1, hx, hg, hb⟩ := hrel
    have hwr : Below w.heap.size w wr := hwW.trans (hb.mono hwW.size)
    by_cases hneg : u = -1
    · have HE : Hid (upL p u0 = pre) := by
        show _ = _
        rw [hx.out, hneg, upL_neg p (by omega)]; simp
      obtain ⟨g, cp, rfl⟩ := hg.out.form
      have HG : Hid (Grow w.heap.size wr (.slice (some ⟨g, 0, none⟩) pre.length cp) (upL p u0)) := by
        rw [HE.out]; exact hg.out.base' (by have := HSZ.out; omega)
      subst hneg
      clear hx hg HE
      go_wp2
      go_ret
      exact ⟨_, rfl, HG.out, hwr⟩
    · obtain ⟨j, rfl⟩ := Int.eq_ofNat_of_zero_le (show 0 ≤ u by omega)
      have hjp : j < p.length := by omega
      have hji : (j : Int) < (p.length : Int) := by omega
      have hj0 : (0 : Int) ≤ (j : Int) := by omega
      have HST : Hid (upL p u0 = (pre ++ [(j : Int)]) ++ upL p p[j].super) := by
        show _ = _
        rw [hx.out, upL_step HSUP.out hjp (by omega) (List.getElem?_eq_getElem hjp)]; simp
      have hlen : pre.length < 6 := by
        have h1 := upL_len p u0
        rw [HST.out] at h1
        simp at h1
        omega
      obtain ⟨b, o, rfl, _, vf, vm, d0, d1, d2, hcv⟩ := HP.out.get hjp
      have l0 : b < w.heap.size := cell_lt d0
      have hsu := HSUP.out j _ hjp (List.getElem?_eq_getElem hjp)
      generalize p[j] = c at *
      have hsu1 := hsu.1
      have hsu2 := hsu.2
      clear hcv hsu d1 d2 hneg hx
      obtain ⟨g, cp, rfl⟩ := hg.out.form
      have hzr : W.heap.size ≤ wr.heap.size := hb.size
      go_wp2_with (at_builtin; refine wpList_append_own _ rfl _ _ 27 rfl W.heap.size 2 i0 (.int .i64 0) 1 8 Tryz.underlying27 hif hz0 hz1 hz2 rfl (by decide) _ _ _ rfl (hg.out.1.alloc _) ⟨wr.heap.size, 0, none⟩ 1 1 [.int .i64 (j : Int)] rfl rfl (cell_one_new _ _ _) (by simp [Value.oneCell']) (by unfold maxLen; omega) (by omega) (by simp; omega) ?_)
      intro v' w1 hown hgrow hnil
      have hb1 : Below W.heap.size W w1 := (hb.alloc hb.size _).grown hgrow (by simp; omega) (fun k hk => by simp [Value.ownBlock] at hk; subst hk; exact (hg.out.1.lt g rfl).1)
      have HG : Hid (Grow W.heap.size w1 v' (pre ++ [(j : Int)])) := grow_next hown (fun h => by first | exact hnil h | exact absurd (hnil.1 h).1 (by simp))
      clear hown hgrow hnil
      obtain ⟨p0, _⟩ := (cells_lowP P0.out hb1 (by have := HSZ.out; omega)).g0
      have hw1 : Below w.heap.size w w1 := hwW.trans (hb1.mono hwW.size)
      have c0 := (hw1.cell l0).trans d0
      clear hb hwr hg
      go_wp2
      go_roundw
      case rel => exact ⟨pre ++ [(j : Int)], c.super, v', rfl, rfl, hsu1, by omega, HST.out, HG.out, hb1⟩
      case measure => simp [intOf]; omega
set_option maxHeartbeats 1000000 in
theorem l5Under (B : Nat) (p : Prg) (a : Option Addr) (cap : Nat) (u0 b : Int) (hu0 : -1 ≤ u0) (hu1 : u0 < (p.length : Int)) (h6 : p.length ≤ 6) (hsup : SupOk p p.length) (w : World) (hp : SK front B w (.slice a p.length cap) p) :
    Calls Tryz.prog 54 #[.agg #[.slice a p.length cap], .int .i64 u0, .int .i64 b] w fun e w' => e = .returned (.bool (undB p u0 b)) ∧ Below w.heap.size w w' := by
  obtain ⟨W, hW⟩ : ∃ W, W = w.alloc (.cells #[.slice a p.length cap] 37) := ⟨_, rfl⟩
  have hwW : Below w.heap.size w W := by rw [hW]; exact (Below.refl _ _).alloc (Nat.le_refl _) _
  have HP : Hid (SK front B W (.slice a p.length cap) p) := SK.on hp (Keep.of hwW)
  have HSUP : Hid (SupOk p p.length) := hsup
  clear hp hsup
  go_enter Tryz.func54, Tryz.ntmps54
  go_wp2_with fail
  rw [← hW]
  clear hW
  refine (l5Above B p a cap u0 hu0 hu1 h6 HSUP.out _ HP.out).mono ?_
  rintro e w1 ⟨v, rfl, hg, hb1⟩
  obtain ⟨g, cp, rfl, _, _, hir, _⟩ := hg.gint
  have hw1 : Below w.heap.size w w1 := below_over hwW hb1
  have HI : Hid (IRow w1 g 0 (upL p u0)) := hir
  have hln := upL_len p u0
  clear hg hir hb1
  go_wp2_with fail
  refine (l1Has g cp (upL p u0) b (by omega) _ HI.out).mono ?_
  rintro e w2 ⟨rfl, rfl⟩
  go_wp2
  go_ret
  exact ⟨rfl, hw1⟩
theorem lowF_neg (p : Prg) {u : Int} (b : Int) (h : u < 0) : lowF p u b = -1 := by unfold lowF; rw [upL_neg p h]; rfl
theorem lowF_step {p : Prg} {n : Nat} (hs : SupOk p n) {u : Nat} (hu : u < n) (h6 : u < 6) {c : Cls} (hc : p[u]? = some c) (b : Int) : lowF p (u : Int) b = if undB p b (u : Int) then (u : Int) else lowF p c.super b := by
  unfold lowF
  rw [upL_step hs hu h6 hc, find_step]
  split <;> rfl
theorem selF_neg (p : Prg) {u : Int} (b : Int) (h : u < 0) : selF p u b = -1 := by unfold selF; rw [upL_neg p h]; rfl
theorem selF_step {p : Prg} {n : Nat} (hs : SupOk p n) {u : Nat} (hu : u < n) (h6 : u < 6) {c : Cls} (hc : p[u]? = some c) (b : Int) : selF p (u : Int) b = if (ownF c b).isSome then (u : Int) else selF p c.super b := by
  unfold selF
  rw [upL_step hs hu h6 hc, find_step]
  have : hasM p b (u : Int) = (ownF c b).isSome := by unfold hasM; rw [Int.toNat_natCast, hc]
  rw [this]
  split <;> rfl
theorem ownI_neg (c : Cls) (name : Int) : decide (ownI c name < 0) = !(ownF c name).isSome := by
  unfold ownI ownF
  cases h : c.meths.findIdx? (fun m => decide (m.name = name)) with
  | none =>
    have h2 : c.meths.find? (fun m => decide (m.name = name)) = none := by
      rw [List.find?_eq_none]
      intro m hm
      have := (List.findIdx?_eq_none_iff.1 h) m hm
      simpa using this
    rw [h2]; rfl
  | some k =>
    have h2 : (c.meths.find? (fun m => decide (m.name = name))).isSome = true := by
      rw [List.findIdx?_eq_some_iff_getElem] at h
      obtain ⟨hk, hp, _⟩ := h
      rw [List.find?_isSome]
      exact ⟨c.meths[k], List.getElem_mem hk, hp⟩
    rw [h2]
    simp
set_option maxRecDepth 100000 in
set_option maxHeartbeats 1000000 in
theorem l5Selected (B : Nat) (p : Prg) (a : Option Addr) (cap : Nat) (u0 b : Int) (hu0 : -1 ≤ u0) (hu1 : u0 < (p.length : Int)) (hsp : SmallP p) (h6 : p.length ≤ 6) (hsup : SupOk p p.length) (w : World) (hp : SK front B w (.slice a p.length cap) p) :
    Calls Tryz.prog 55 #[.agg #[.slice a p.length cap], .int .i64 u0, .int .i64 b] w fun e w' => e = .returned (.int .i64 (selF p u0 b)) ∧ Below w.heap.size w w' := by
  have HP : Hid (SK front B w (.slice a p.length cap) p) := hp
  have HSUP : Hid (SupOk p p.length) := hsup
  have HSP : Hid (SmallP p) := hsp
  clear hp hsup hsp
  obtain ⟨W, hW⟩ : ∃ W, W = w.alloc (.cells #[.slice a p.length cap] 37) := ⟨_, rfl⟩
  have hwW : Below w.heap.size w W := by rw [hW]; exact (Below.refl _ _).alloc (Nat.le_refl _) _
  have P0 : Hid (Cells W w.heap.size [.slice a p.length cap]) := by rw [hW]; exact Cells.new w _ rfl _ _
  go_enter Tryz.func55, Tryz.ntmps55
  go_wp2
  rw [← hW]
  clear hW
  go_loopw [1] (fun x wr => ∃ u : Int, x = .int .i64 u ∧ -1 ≤ u ∧ u < (p.length : Int) ∧ Hid (selF p u0 b = selF p u b) ∧ Below W.heap.size W wr) (fun x _ => (intOf x + 1).toNat)
  case atStart => exact ⟨u0, rfl, hu0, hu1, rfl, Below.refl _ _⟩
  case round =>
    clear hu0 hu1
    obtain ⟨u, rfl, hu0, hu1, hx, hb⟩ := hrel
    have hwr : Below w.heap.size w wr := below_over hwW hb
    by_cases hneg : u = -1
    · have HE : Hid (selF p u0 b = -1) := by show _ = _; rw [hx.out, hneg]; exact selF_neg p b (by omega)
      subst hneg
      go_wp2
      go_ret
      exact ⟨retI HE.out.symm, hwr⟩
    · obtain ⟨j, rfl⟩ := Int.eq_ofNat_of_zero_le (show 0 ≤ u by omega)
      have hjp : j < p.length := by omega
      have hji : (j : Int) < (p.length : Int) := by omega
      have hj0 : (0 : Int) ≤ (j : Int) := by omega
      have HST : Hid (selF p u0 b = if (ownF p[j] b).isSome then (j : Int) else selF p p[j].super b) := by
        show _ = _
        rw [hx.out, selF_step HSUP.out hjp (by omega) (List.getElem?_eq_getElem hjp)]
      obtain ⟨b', o, rfl, _, vf, vm, d0, d1, d2, hcv⟩ := HP.out.get hjp
      obtain ⟨z1, t1, rfl⟩ := hcv.1.form
      obtain ⟨z2, t2, rfl⟩ := hcv.2.form
      have l0 : b' < w.heap.size := cell_lt d0
      have hsu := HSUP.out j _ hjp (List.getElem?_eq_getElem hjp)
      have HSM : Hid (SM front B w (.slice z2 p[j].meths.length t2) p[j].meths) := hcv.2
      have hsm := HSP.out.2 _ (List.getElem_mem hjp)
      have hsl := hsm.2.1
      have k0 := (hwr.cell l0).trans d0
      have k1 := (hwr.cell l0).trans d1
      have k2 := (hwr.cell l0).trans d2
      generalize p[j] = c at *
      have hsu1 := hsu.1
      have hsu2 := hsu.2
      clear hcv hsu d1 d2 hneg hx hsm
      obtain ⟨p0, _⟩ := (P0.out.on hb).g0
      go_wp2_with fail
      refine (l4Own B c z1 z2 t2 c.fields.length t1 b hsl _ (SM.on HSM.out (Keep.of hwr))).mono ?_
      rintro e w1 ⟨rfl, hb1⟩
      have hw1 : Below w.heap.size w w1 := below_over hwr hb1
      have hW1 : Below W.heap.size W w1 := below_over hb hb1
      have c0 := (hw1.cell l0).trans d0
      clear p0 k0 k1 k2
      obtain ⟨p0, _⟩ := (P0.out.on hW1).g0
      clear hb1 hb hwr
      have HO1 : Hid (ownI c b < 0 → (ownF c b).isSome = false) := fun h => by have := ownI_neg c b; rw [decide_eq_true h] at this; simpa using this.symm
      have HO2 : Hid (¬ ownI c b < 0 → (ownF c b).isSome = true) := fun h => by have := ownI_neg c b; rw [decide_eq_false h] at this; simpa using this.symm
      generalize ownI c b = oi at *
      by_cases hq : oi < 0
      · have HE : Hid (selF p u0 b = selF p c.super b) := by
          show _ = _
          rw [HST.out, HO1.out hq]; rfl
        clear HST HO1 HO2
        go_wp2
        go_roundw
        case rel => exact ⟨c.super, rfl, hsu1, by omega, HE.out, hW1⟩
        case measure => simp [intOf]; omega
      · have HE : Hid (selF p u0 b = (j : Int)) := by
          show _ = _
          rw [HST.out, HO2.out hq]; rfl
        clear HST HO1 HO2
        go_wp2
        go_ret
        exact ⟨retI HE.out.symm, hw1⟩
end Pg
end Go.Proofs.YtfdlljdljefkfaaGreatDoor

/- Contracts of the other side's kinds: fitting and joining. -/
namespace Go.Proofs.YtfdlljdljefkfaaGreatDoor
namespace Pg
open Go.ChangeShapes Go.WideShapes Go.ChangeAt Go.RowKit St

set_option maxRecDepth 100000 in
set_option maxHeartbeats 2000000 in
theorem l6Fits (B : Nat) (p : Prg) (a : Option Addr) (cap : Nat) (x y : Int) (hx0 : -3 ≤ x) (hx1 : x < (p.length : Int)) (hy0 : -3 ≤ y) (hy1 : y < (p.length : Int)) (h6 : p.length ≤ 6) (hsup : SupOk p p.length) (w : World) (hp : SK front B w (.slice a p.length cap) p) :
    Calls Tryz.prog 41 #[.agg #[.slice a p.length cap], .int .i64 x, .int .i64 y] w fun e w' => e = .returned (.bool (fitB p x y)) ∧ Below w.heap.size w w' := by
  have HP : Hid (SK front B w (.slice a p.length cap) p) := hp
  have HSU : Hid (SupOk p p.length) := hsup
  clear hp hsup
  have hb0 : Below w.heap.size w (w.alloc (.cells #[.slice a p.length cap] 37)) := (Below.refl _ _).alloc (Nat.le_refl _) _
  by_cases h1 : x = y
  · subst h1
    have HR : Hid (fitB p x x = true) := by show _ = _; simp [fitB]
    rw [HR.out]
    go_enter Tryz.func41, Tryz.ntmps41
    go_wp2
    go_ret
    exact ⟨rfl, by go_grown⟩
  · have e1 : (x == y) = false := by simpa using h1
    by_cases h2 : y = -3
    · subst h2
      have HR : Hid (fitB p x (-3) = true) := by show _ = _; simp [fitB]
      rw [HR.out]
      go_enter Tryz.func41, Tryz.ntmps41
      go_wp2
      go_ret
      exact ⟨rfl, by go_grown⟩
    · have e2 : (y == -3) = false := by simpa using h2
      by_cases h3 : 0 ≤ y
      · by_cases h4 : x = -2
        · subst h4
          have HR : Hid (fitB p (-2) y = true) := by show _ = _; simp [fitB, h3]
          rw [HR.out]
          go_enter Tryz.func41, Tryz.ntmps41
          go_wp2
          go_ret
          exact ⟨rfl, by go_grown⟩
        · have e4 : (x == -2) = false := by simpa using h4
          by_cases h5 : 0 ≤ x
          · have HR : Hid (fitB p x y = undB p x y) := by show _ = _; simp [fitB, h1, h2, h3, h4, h5]
            rw [HR.out]
            go_enter Tryz.func41, Tryz.ntmps41
            go_wp2_with fail
            refine (l5Under B p a cap x y (by omega) hx1 h6 HSU.out _ (SK.on HP.out (Keep.of hb0))).mono ?_
            rintro e w1 ⟨rfl, hb1⟩
            go_wp2
            go_ret
            exact ⟨rfl, below_over hb0 hb1⟩
          · have HR : Hid (fitB p x y = false) := by show _ = _; simp [fitB, h1, h2, h3, h4, h5]
            rw [HR.out]
            go_enter Tryz.func41, Tryz.ntmps41
            go_wp2
            go_ret
            exact ⟨rfl, by go_grown⟩
      · have HR : Hid (fitB p x y = false) := by show _ = _; simp [fitB, h1, h2, h3]
        rw [HR.out]
        by_cases h4 : x = -2
        · subst h4
          go_enter Tryz.func41, Tryz.ntmps41
          go_wp2
          go_ret
          exact ⟨rfl, by go_grown⟩
        · have e4 : (x == -2) = false := by simpa using h4
          by_cases h5 : 0 ≤ x
          · go_enter Tryz.func41, Tryz.ntmps41
            go_wp2
            go_ret
            exact ⟨rfl, by go_grown⟩
          · go_enter Tryz.func41, Tryz.ntmps41
            go_wp2
            go_ret
            exact ⟨rfl, by go_grown⟩
end Pg
end Go.Proofs.YtfdlljdljefkfaaGreatDoor

/- Contracts of the other side's kinds and states: which are right. -/
namespace Go.Proofs.YtfdlljdljefkfaaGreatDoor
namespace Pg
open Go.ChangeShapes Go.WideShapes Go.ChangeAt Go.RowKit St

set_option maxHeartbeats 1000000 in
theorem l6Kind (a : Option Addr) (n cap : Nat) (hn : n ≤ 1048576) (t : Int) (w : World) :
    Calls Tryz.prog 38 #[.agg #[.slice a n cap], .int .i64 t] w fun e w' => e = .returned (.bool (kindB n t)) ∧ Below w.heap.size w w' := by
  have hb0 : Below w.heap.size w (w.alloc (.cells #[.slice a n cap] 37)) := (Below.refl _ _).alloc (Nat.le_refl _) _
  have HK : Hid ((decide (-3 ≤ t) && decide (t ≤ (n : Int) - 1)) = kindB n t) := by
    show _ = _
    unfold kindB
    have : (t ≤ (n : Int) - 1) ↔ t < (n : Int) := by omega
    simp [this]
  go_enter Tryz.func38, Tryz.ntmps38
  go_wp2_with fail
  refine (St.l1In t (-3) ((n : Int) - 1) _).mono ?_
  rw [HK.out]
  rintro e w1 ⟨rfl, rfl⟩
  go_wp2
  go_ret
  exact ⟨rfl, hb0⟩
end Pg
end Go.Proofs.YtfdlljdljefkfaaGreatDoor
