/- Contracts: a word that is learnt, a word that is known. -/
import Derived.Test.YthabenjodhjgiaaKm0
import Derived.Maps.OwnOps
namespace Go.Proofs.Ythabenjodhjgiaa
namespace Pg
open Go.ChangeShapes Go.WideShapes Go.ChangeAt Go.RowKit St Wd

theorem plainE {v : Int} (h1 : -9223372036854775808 ≤ v) (h2 : v ≤ 9223372036854775807) : plainElem (H := Unit) Try.prog 2 (.int .i64 v) = some (.lit (.int .i64 v), []) := plainElem_int Try.underlying2 (wf64 h1 h2)
theorem KM.put {w' : World} {b : Nat} {D : DataW Unit} {m : Kw} {i s : Nat} {v : Int} (hr : Rep D m) (ht : Maps.Tidy D) (hi : i < 40) (hs : s < 8) (h1 : -9223372036854775808 ≤ v) (h2 : v ≤ 9223372036854775807)
    (h : w'.ownsMap Try.prog 51 (plainElem Try.prog 2) b (400 + 1) (D.put (spK i s) (.lit (.int .i64 v)))) : KM w' b (setK m i s v) := by
  have := hr.put ht hi hs h1 h2
  exact ⟨_, own400 h (by rw [this.size]; have := cntK_le (setK m i s v); omega), this⟩
set_option maxHeartbeats 1000000 in
theorem learn_at (b : Nat) (m : Kw) (i s : Nat) (hi : i < 40) (hs : s < 8) (v : Int) (h1 : -9223372036854775808 ≤ v) (h2 : v ≤ 9223372036854775807) (w : World) (h : KM w b m) :
    Calls Try.prog 72 #[.map (some b), spV i s, .int .i64 v] w fun e w' => ∃ y, joO (m i s) v = some y ∧ e = .returned (.bool (decide (m i s ≠ some y))) ∧ KM w' b (setK m i s y) ∧ w.grownBy w' (some b) := by
  obtain ⟨D, hown, hr⟩ := h
  have ht : Maps.Tidy D := hown.tidy keyedK
  have hkey := keyOf_sp (wf64n (n := i) (by omega)) (wf64n (n := s) (by omega))
  have ho1 : Hid ((w.alloc (.cells #[.int .i64 (i : Int), .int .i64 (s : Int)] 51)).ownsMap Try.prog 51 (plainElem Try.prog 2) b 400 D) := hown.alloc _
  have hg1 : w.grownBy (w.alloc (.cells #[.int .i64 (i : Int), .int .i64 (s : Int)] 51)) (some b) := World.grownBy_alloc w _ _
  have HK : Hid (keyOf Try.prog 51 (spV i s) = some (spK i s)) := hkey
  have HP : Hid (plainElem (H := Unit) Try.prog 2 (.int .i64 v) = some (.lit (.int .i64 v), [])) := plainE h1 h2
  have HU : Hid (plainElem (H := Unit) Try.prog 2 (.int .i64 1099511627776) = some (.lit (.int .i64 1099511627776), [])) := plainE (by omega) (by omega)
  have hh := hr.has i s hi hs
  cases hm : m i s with
  | none =>
    rw [hm] at hh
    have HH : Hid (Maps.has D (spK i s) = false) := hh
    clear hkey hh hown
    go_enter Try.func72, Try.ntmps72
    go_wp2_with (first
      | (at_lookup; refine wpList_lookup_own_ok_int _ rfl _ _ 47 rfl 51 2 .i64 keyedK mapT Try.underlying2 (zeroI _) b 400 D rfl ho1.out _ _ rfl HK.out ?_; intro c hat hwc; rw [HH.out]; clear hat hwc)
      | (at_mapUpdate; refine wpList_mapUpdate_own _ rfl _ _ _ 47 rfl 51 2 keyedK mapT _ b 400 D rfl ho1.out (by unfold maxLen; omega) _ _ _ rfl rfl HK.out _ [] HP.out ?_; intro w2 ho2 hg2))
    go_ret
    refine ⟨v, rfl, rfl, KM.put hr ht hi hs h1 h2 ho2, hg1.andThen hg2 (fun j hj => .inr hj)⟩
  | some o =>
    rw [hm] at hh
    have HH : Hid (Maps.has D (spK i s) = true) := hh
    have HV : Hid (∀ z, D.atKey (spK i s) z = .lit (.int .i64 o)) := hr.val i s o hm
    clear hkey hh hown
    by_cases hov : o = v
    · subst hov
      go_enter Try.func72, Try.ntmps72
      go_wp2_with (first
        | (at_lookup; refine wpList_lookup_own_ok_int _ rfl _ _ 47 rfl 51 2 .i64 keyedK mapT Try.underlying2 (zeroI _) b 400 D rfl ho1.out _ _ rfl HK.out ?_; intro c hat hwc; rw [HH.out]; rw [HV.out] at hat; injection hat with hat; injection hat with _ hat; subst hat; clear hwc)
        | (at_mapUpdate; refine wpList_mapUpdate_own _ rfl _ _ _ 47 rfl 51 2 keyedK mapT _ b 400 D rfl ho1.out (by unfold maxLen; omega) _ _ _ rfl rfl HK.out _ [] HP.out ?_; intro w2 ho2 hg2))
      go_ret
      refine ⟨o, by simp [joO], by simp, KM.put hr ht hi hs h1 h2 ho2, hg1.andThen hg2 (fun j hj => .inr hj)⟩
    · have hne : (o != v) = true := by simp [hov]
      have HD : Hid ((o != 1099511627776) = decide (some o ≠ some UnK)) := by
        show _ = _
        by_cases e : o = 1099511627776 <;> simp [e]
      generalize hd : (o != 1099511627776) = dd at *
      have HDD : Hid ((o != 1099511627776) = dd) := hd
      go_enter Try.func72, Try.ntmps72
      go_wp2_with (first
        | (at_lookup; refine wpList_lookup_own_ok_int _ rfl _ _ 47 rfl 51 2 .i64 keyedK mapT Try.underlying2 (zeroI _) b 400 D rfl ho1.out _ _ rfl HK.out ?_; intro c hat hwc; rw [HH.out]; rw [HV.out] at hat; injection hat with hat; injection hat with _ hat; subst hat; clear hwc)
        | (at_mapUpdate; refine wpList_mapUpdate_own _ rfl _ _ _ 47 rfl 51 2 keyedK mapT _ b 400 D rfl ho1.out (by unfold maxLen; omega) _ _ _ rfl rfl HK.out _ [] HU.out ?_; intro w2 ho2 hg2))
      go_ret
      refine ⟨UnK, by simp [joO, hov], ?_, KM.put hr ht hi hs (by decide) (by decide) ho2, hg1.andThen hg2 (fun j hj => .inr hj)⟩
      have := HD.out
      simp at this
      exact congrArg (fun b => Ending.returned (.bool b)) this
set_option maxHeartbeats 1000000 in
theorem wordAt_at (b : Nat) (m : Kw) (i s : Nat) (hi : i < 40) (hs : s < 8) (w : World) (h : KM w b m) :
    Calls Try.prog 37 #[.map (some b), spV i s] w fun e w' => e = .returned (.int .i64 ((m i s).getD UnK)) ∧ Below w.heap.size w w' := by
  obtain ⟨D, hown, hr⟩ := h
  have ho1 : Hid ((w.alloc (.cells #[.int .i64 (i : Int), .int .i64 (s : Int)] 51)).ownsMap Try.prog 51 (plainElem Try.prog 2) b 400 D) := hown.alloc _
  have hb1 : Below w.heap.size w (w.alloc (.cells #[.int .i64 (i : Int), .int .i64 (s : Int)] 51)) := (Below.refl _ _).alloc (Nat.le_refl _) _
  have HK : Hid (keyOf Try.prog 51 (spV i s) = some (spK i s)) := keyOf_sp (wf64n (n := i) (by omega)) (wf64n (n := s) (by omega))
  have hh := hr.has i s hi hs
  cases hm : m i s with
  | none =>
    rw [hm] at hh
    have HH : Hid (Maps.has D (spK i s) = false) := hh
    clear hh hown
    go_enter Try.func37, Try.ntmps37
    go_wp2_with (at_lookup; refine wpList_lookup_own_ok_int _ rfl _ _ 47 rfl 51 2 .i64 keyedK mapT Try.underlying2 (zeroI _) b 400 D rfl ho1.out _ _ rfl HK.out ?_; intro c hat hwc; rw [HH.out]; clear hat hwc)
    go_ret
    exact ⟨rfl, hb1⟩
  | some o =>
    rw [hm] at hh
    have HH : Hid (Maps.has D (spK i s) = true) := hh
    have HV : Hid (∀ z, D.atKey (spK i s) z = .lit (.int .i64 o)) := hr.val i s o hm
    clear hh hown
    go_enter Try.func37, Try.ntmps37
    go_wp2_with (at_lookup; refine wpList_lookup_own_ok_int _ rfl _ _ 47 rfl 51 2 .i64 keyedK mapT Try.underlying2 (zeroI _) b 400 D rfl ho1.out _ _ rfl HK.out ?_; intro c hat hwc; rw [HH.out]; rw [HV.out] at hat; injection hat with hat; injection hat with _ hat; subst hat; clear hwc)
    go_ret
    exact ⟨rfl, hb1⟩
end Pg
end Go.Proofs.Ythabenjodhjgiaa
