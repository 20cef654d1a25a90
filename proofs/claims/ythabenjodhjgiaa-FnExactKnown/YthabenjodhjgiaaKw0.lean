/- The laws' own functions on rows of rows of eight. -/
import Derived.Test.YthabenjodhjgiaaKr0
import Derived.Lib.QuietBelow
import Derived.BigQuiet
import Derived.Deep.Cut
namespace Go.Proofs.Ythabenjodhjgiaa
namespace Pg
open Go.ChangeShapes Go.WideShapes Go.ChangeAt Go.RowKit St Wd

/-- All rows are there. -/
def AllK (n : Nat) (K : Kw) : Prop := ∀ i j, i < n → j < 8 → K i j ≠ none
theorem rowL_congr {K K' : Kw} {i : Nat} (h : ∀ j, j < 8 → K i j = K' i j) : rowL K i = rowL K' i := by
  unfold rowL
  exact List.map_congr_left fun j hj => by rw [h j (List.mem_range.1 hj)]
theorem RowsK.congr {B : Nat} {w : World} {G n : Nat} {K K' : Kw} {f cp : Nat → Nat} (h : RowsK B w G n K f cp) (he : ∀ i j, i < n → j < 8 → K i j = K' i j) : RowsK B w G n K' f cp := by
  obtain ⟨h1, h3, h4, h5⟩ := h
  have e0 : ∀ i, i < n → K i 0 = K' i 0 := fun i hi => he i 0 hi (by omega)
  refine ⟨?_, h3, fun i hi hk => ?_, fun i i' hi hi' hk hk' => h5 i i' hi hi' (by rw [e0 i hi]; exact hk) (by rw [e0 i' hi']; exact hk')⟩
  · have : cellsG K f cp n = cellsG K' f cp n := by
      unfold cellsG slcK
      exact List.map_congr_left fun i hi => by rw [e0 i (List.mem_range.1 hi)]
    rw [← this]; exact h1
  · obtain ⟨a, b, c, d⟩ := h4 i hi (by rw [e0 i hi]; exact hk)
    exact ⟨a, b, c, by rw [← rowL_congr (fun j hj => he i j hi hj)]; exact d⟩
theorem cells_irow {w : World} {g : Nat} {l : List Int} (h : Cells w g (nums l)) : IRow w g 0 l := fun j x hj => by
  rw [Nat.zero_add]
  exact (h j (.int .i64 x) (by simp [nums, hj])).1
theorem cells_room {w : World} {g : Nat} {l : List Int} (h : Cells w g (nums l)) : Room w g l.length := fun j hj => by
  obtain ⟨a, b⟩ := h j (.int .i64 l[j]) (by simp [nums, hj])
  exact ⟨⟨_, a⟩, b⟩
/-- A row written anew as a whole, in its own block. -/
theorem RowsK.whole {B : Nat} {u v : World} {G n : Nat} {K K' : Kw} {f cp : Nat → Nat} (h : RowsK B u G n K f cp) {t : Nat} (ht : t < n) (hr : K t 0 ≠ none) (ho : Only (f t) u v) (hK1 : ∀ a b, a ≠ t → K' a b = K a b) (hK2 : K' t 0 ≠ none) (hc : Cells v (f t) (nums (rowL K' t))) : RowsK B v G n K' f cp := by
  obtain ⟨h1, h3, h4, h5⟩ := h
  obtain ⟨g1, g2, g3, g4⟩ := h4 t ht hr
  have mv : ∀ {b : Nat} {vs : List Value}, b ≠ f t → Cells u b vs → Cells v b vs := fun hne hc i x hx => by
    obtain ⟨a1, a2⟩ := hc i x hx
    have e := ho.block _ hne
    exact ⟨(World.cell?_of_block (w := u) e).trans a1, (World.frozen?_of_block (w := u) e).trans a2⟩
  have e0 : ∀ i, (K' i 0 = none) ↔ (K i 0 = none) := fun i => by
    by_cases e : i = t
    · rw [e]; simp [hr, hK2]
    · rw [hK1 i 0 e]
  have hcg : cellsG K' f cp n = cellsG K f cp n := by
    unfold cellsG slcK
    exact List.map_congr_left fun i _ => by simp only [e0]
  refine ⟨by rw [hcg]; exact mv (fun e => g3 e.symm) h1, by rw [ho.size]; exact h3, fun i hi hk => ?_, fun i i' hi hi' hk hk' => h5 i i' hi hi' (fun e => hk ((e0 i).2 e)) (fun e => hk' ((e0 i').2 e))⟩
  have hk0 : K i 0 ≠ none := fun e => hk ((e0 i).2 e)
  obtain ⟨q1, q2, q3, q4⟩ := h4 i hi hk0
  refine ⟨q1, by rw [ho.size]; exact q2, q3, ?_⟩
  by_cases e : i = t
  · rw [e]; exact hc
  · rw [rowL_congr (K := K') (K' := K) (fun j _ => hK1 i j e)]
    exact mv (fun h => e (h5 i t hi ht hk0 hr h)) q4
/-- What the marks make of the first n rows. -/
def mkK (K : Kw) (m n : Nat) : Kw := fun a b => if a < n ∧ b < 8 then some ((m : Int) + 8 * (a : Int) + (b : Int)) else K a b
theorem mk_zero (K : Kw) (m : Nat) : mkK K m 0 = K := by funext a b; simp [mkK]
theorem mk_row (K : Kw) (m : Nat) {n i : Nat} (h : i < n) : rowL (mkK K m n) i = imarks (m + 8 * i) 8 := by
  apply List.ext_getElem?
  intro j
  by_cases hj : j < 8
  · rw [rowL_at _ _ hj, imarks_at hj]
    unfold mkK
    rw [if_pos ⟨h, hj⟩]
    simp
  · rw [List.getElem?_eq_none (by rw [rowL_len]; omega), List.getElem?_eq_none (by rw [imarks_len]; omega)]
theorem mk_there {K : Kw} {m k n : Nat} (h : AllK n K) {i : Nat} (hi : i < n) : mkK K m k i 0 ≠ none := by
  unfold mkK
  split
  · simp
  · exact h i 0 hi (by omega)
theorem head_at {B : Nat} {w : World} {G n : Nat} {K : Kw} {f cp : Nat → Nat} (h : RowsK B w G n K f cp) {i : Nat} (hi : i < n) (hr : K i 0 ≠ none) : w.cell? ⟨G, i, none⟩ = some (.slice (some ⟨f i, 0, none⟩) 8 (cp i)) := by
  have := (h.1 i _ (cellsG_at _ _ _ hi)).1
  rwa [show slcK K f cp i = .slice (some ⟨f i, 0, none⟩) 8 (cp i) from by simp [slcK, hr]] at this
set_option maxRecDepth 100000 in
set_option maxHeartbeats 1000000 in
theorem eqSS (n G G' c c' : Nat) (hn : n ≤ 41) (K : Kw) (hall : AllK n K) (f cp f' cp' : Nat → Nat) (B B' : Nat) (w : World) (h1 : RowsK B w G n K f cp) (h2 : RowsK B' w G' n K f' cp') :
    Calls Try.prog 13 #[.slice (some ⟨G, 0, none⟩) n c, .slice (some ⟨G', 0, none⟩) n c'] w fun e w' => e = .returned (.bool true) ∧ Below w.heap.size w w' := by
  have H1 : Hid (RowsK B w G n K f cp) := h1
  have H2 : Hid (RowsK B' w G' n K f' cp') := h2
  have HA : Hid (AllK n K) := hall
  clear h1 h2 hall
  go_enter Try.func13, Try.ntmps13
  go_wp2
  go_loopw [5] (fun i wr => ∃ k : Nat, k ≤ n ∧ i = .int .i64 (k : Int) ∧ Below w.heap.size w wr) (fun i _ => n - (intOf i).toNat)
  case atStart => exact ⟨0, Nat.zero_le _, rfl, Below.refl _ _⟩
  case round =>
    obtain ⟨k, hk, rfl, hb⟩ := hrel
    by_cases hlt : k < n
    · have hki : (k : Int) < (n : Int) := by omega
      have r1 := H1.out.on hb
      have r2 := H2.out.on hb
      have hr := HA.out k 0 hlt (by omega)
      have c1 := head_at r1 hlt hr
      have c2 := head_at r2 hlt hr
      have I1 : Hid (IRow wr (f k) 0 (rowL K k)) := cells_irow (r1.2.2.1 k hlt hr).2.2.2
      have I2 : Hid (IRow wr (f' k) 0 (rowL K k)) := cells_irow (r2.2.2.1 k hlt hr).2.2.2
      have hl8 : (rowL K k).length = 8 := rowL_len K k
      have hcall := fun u (h1 : IRow u (f k) 0 (rowL K k)) (h2 : IRow u (f' k) 0 (rowL K k)) => eqInts (f k) (f' k) (cp k) (cp' k) (rowL K k) (by rw [hl8]; omega) u h1 h2
      rw [hl8] at hcall
      clear r1 r2 hr hl8
      have q1 := cell_regrown c1
      have q2 := cell_regrown c2
      have cQ : ∀ d os, Calls Try.prog 27 #[.slice (some ⟨f k, 0, none⟩) 8 (cp k), .slice (some ⟨f' k, 0, none⟩) 8 (cp' k)] (Sort.grow (redrawn wr d) os) fun e w'' => e = .returned (.bool true) ∧ ∃ p : Regrown, w'' = Sort.grow (redrawn wr p.d) p.os := fun d os => (hcall _ (I1.out.on (below_regrown wr d os)) (I2.out.on (below_regrown wr d os))).regrown_of
      clear hcall
      go_upto_region 6 with fail
      refine wp_region_quiet_below (by kernel_rfl) (by kernel_rfl) ?_
      repeat (go_big_quiet_step ((go_at_call 27; exact cQ _ _)))
      refine wpQuiet_nil ?_
      intro _ hw'
      obtain ⟨⟨dq, osq⟩, hw''⟩ := hw'
      subst hw''
      have hbQ : Below w.heap.size w (Sort.grow (redrawn wr dq) osq) := below_over hb (below_regrown wr dq osq)
      clear q1 q2 cQ c1 c2 I1 I2 hb
      generalize Sort.grow (redrawn wr dq) osq = W5 at *
      go_wp2
      go_roundw
      case rel => exact ⟨k + 1, by omega, by go_num, hbQ⟩
      case measure => simp [intOf]; omega
    · obtain rfl : k = n := by omega
      go_wp2
      go_ret
      exact ⟨rfl, hb⟩
set_option maxRecDepth 100000 in
set_option maxHeartbeats 1000000 in
theorem markSS (n G c m : Nat) (hn : n ≤ 41) (hm : m ≤ 1000) (K : Kw) (hall : AllK n K) (f cp : Nat → Nat) (B : Nat) (w : World) (h1 : RowsK B w G n K f cp) :
    Calls Try.prog 16 #[.slice (some ⟨G, 0, none⟩) n c, .int .i64 (m : Int)] w fun e w' => e = .returned (.int .i64 ((m : Int) + 8 * (n : Int))) ∧ RowsK B w' G n (mkK K m n) f cp ∧ Below B w w' := by
  have H1 : Hid (RowsK B w G n (mkK K m 0) f cp) := by show RowsK _ _ _ _ _ _ _; rw [mk_zero]; exact h1
  have HA : Hid (AllK n K) := hall
  clear h1 hall
  go_enter Try.func16, Try.ntmps16
  go_wp2
  go_loopw [1, 5] (fun kv i wr => ∃ k : Nat, k ≤ n ∧ i = .int .i64 (k : Int) ∧ kv = .int .i64 ((m : Int) + 8 * (k : Int)) ∧ Hid (RowsK B wr G n (mkK K m k) f cp) ∧ Below B w wr) (fun _ i _ => n - (intOf i).toNat)
  case atStart => exact ⟨0, Nat.zero_le _, rfl, by simp, H1.out, Below.refl _ _⟩
  case round =>
    clear H1
    obtain ⟨k, hk, rfl, rfl, hR, hb⟩ := hrel
    by_cases hlt : k < n
    · have hki : (k : Int) < (n : Int) := by omega
      have hr : mkK K m k k 0 ≠ none := mk_there HA.out hlt
      have c1 := head_at hR.out hlt hr
      have RM : Hid (Room wr (f k) 8) := by have := cells_room (hR.out.2.2.1 k hlt hr).2.2.2; rw [rowL_len] at this; exact this
      have hBf := (hR.out.2.2.1 k hlt hr).1
      have HN : Hid (∀ v : World, Only (f k) wr v → IRow v (f k) 0 (imarks (m + 8 * k) 8) → Room v (f k) 8 → RowsK B v G n (mkK K m (k + 1)) f cp) := fun v ho hi hrm => hR.out.whole hlt hr ho (fun a b e => by
          unfold mkK
          have : (a < k + 1) = (a < k) := by apply propext; omega
          simp only [this]) (mk_there HA.out hlt) (by rw [mk_row K m (by omega)]; exact cells_of_gint hi (by rw [imarks_len]; exact hrm))
      have ecast : (((m + 8 * k : Nat)) : Int) = (m : Int) + 8 * (k : Int) := by omega
      have hcall := imark_at (f k) (cp k) (m + 8 * k) 8 (by omega) (by omega) wr RM.out
      rw [ecast] at hcall
      clear hR hr
      go_wp2_with fail
      refine hcall.mono ?_
      clear hcall
      rintro e w2 ⟨rfl, hi2, hm2, ho2⟩
      have HR2 : Hid (RowsK B w2 G n (mkK K m (k + 1)) f cp) := HN.out w2 ho2 hi2 hm2
      have hb2 : Below B w w2 := hb.trans (ho2.below hBf)
      clear hi2 hm2 ho2 HN RM ecast c1
      go_wp2
      go_roundw
      case rel => exact ⟨k + 1, by omega, by go_num, by first | rfl | congr 1, HR2.out, hb2⟩
      case measure => simp [intOf]; omega
    · obtain rfl : k = n := by omega
      go_wp2
      go_ret
      exact ⟨rfl, hR.out, hb⟩
set_option maxRecDepth 100000 in
set_option maxHeartbeats 1000000 in
theorem heldSS (n G c m : Nat) (hn : n ≤ 41) (hm : m ≤ 1000) (K : Kw) (hall : AllK n K) (f cp : Nat → Nat) (B : Nat) (w : World) (h1 : RowsK B w G n (mkK K m n) f cp) :
    Calls Try.prog 17 #[.slice (some ⟨G, 0, none⟩) n c, .int .i64 (m : Int)] w fun e w' => e = .returned (.int .i64 ((m : Int) + 8 * (n : Int))) ∧ w = w' := by
  have H1 : Hid (RowsK B w G n (mkK K m n) f cp) := h1
  have HA : Hid (AllK n K) := hall
  clear h1 hall
  go_enter Try.func17, Try.ntmps17
  go_wp2
  go_loopw [1, 5] (fun kv i wr => ∃ k : Nat, k ≤ n ∧ i = .int .i64 (k : Int) ∧ kv = .int .i64 ((m : Int) + 8 * (k : Int)) ∧ wr = w) (fun _ i _ => n - (intOf i).toNat)
  case atStart => exact ⟨0, Nat.zero_le _, rfl, by simp, rfl⟩
  case round =>
    obtain ⟨k, hk, rfl, rfl, rfl⟩ := hrel
    by_cases hlt : k < n
    · have hki : (k : Int) < (n : Int) := by omega
      have hr : mkK K m n k 0 ≠ none := mk_there HA.out hlt
      have c1 := head_at H1.out hlt hr
      have I1 : Hid (IRow wr (f k) 0 (imarks (m + 8 * k) 8)) := by have := cells_irow (H1.out.2.2.1 k hlt hr).2.2.2; rw [mk_row K m hlt] at this; exact this
      have ecast : (((m + 8 * k : Nat)) : Int) = (m : Int) + 8 * (k : Int) := by omega
      have hcall := iheld_at (f k) (cp k) (m + 8 * k) 8 (by omega) (by omega) wr I1.out
      rw [ecast] at hcall
      have hnn : ¬ ((m : Int) + 8 * (k : Int) + 8 < 0) := by omega
      clear hr
      go_wp2_with fail
      refine hcall.mono ?_
      clear hcall
      rintro e _ ⟨rfl, rfl⟩
      clear I1 ecast c1
      go_wp2
      go_roundw
      case rel => exact ⟨k + 1, by omega, by go_num, by first | rfl | congr 1, by simp⟩
      case measure => simp [intOf]; omega
    · obtain rfl : k = n := by omega
      go_wp2
      go_ret
      exact ⟨rfl, rfl⟩
end Pg
end Go.Proofs.Ythabenjodhjgiaa
