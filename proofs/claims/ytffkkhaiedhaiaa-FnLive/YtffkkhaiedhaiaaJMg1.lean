/- The specification's machine: what only reads. -/
import Derived.Test.YtffkkhaiedhaiaaJPg3
import Derived.Test.YtffkkhaiedhaiaaJHs0
import Derived.Test.YtffkkhaiedhaiaaJMv1
import Derived.Test.YtffkkhaiedhaiaaJPf0
import Derived.Deep.QuietTactic
import Derived.BigQuiet
import Derived.Test.YtffkkhaiedhaiaaJMo3
import Derived.Test.YtffkkhaiedhaiaaJMp0
import Derived.Deep.RegionLaw
import Derived.Deep.Cut
import Derived.Deep.CutRange
namespace Go.Proofs.Ytffkkhaiedhaiaa
namespace Pg
open Go.ChangeShapes Go.WideShapes Go.ChangeAt Go.RowKit St Wd

theorem op_twenty {op : Int} (h1 : 1 ≤ op) (h2 : op ≤ 20) : op = 1 ∨ op = 2 ∨ op = 3 ∨ op = 4 ∨ op = 5 ∨ op = 6 ∨ op = 7 ∨ op = 8 ∨ op = 9 ∨ op = 10 ∨ op = 11 ∨ op = 12 ∨ op = 13 ∨ op = 14 ∨ op = 15 ∨ op = 16 ∨ op = 17 ∨ op = 18 ∨ op = 19 ∨ op = 20 := by omega
set_option maxHeartbeats 1000000 in
theorem l8Takes_at (op : Int) (h1 : 1 ≤ op) (h2 : op ≤ 20) (w : World) : Calls Try.prog 86 #[.int .i64 op] w fun e w' => e = .returned (.int .i64 (takesS op : Nat)) ∧ w = w' := by
  rcases op_twenty h1 h2 with rfl | rfl | rfl | rfl | rfl | rfl | rfl | rfl | rfl | rfl | rfl | rfl | rfl | rfl | rfl | rfl | rfl | rfl | rfl | rfl
  all_goals
    clear h1 h2
    go_enter Try.func86, Try.ntmps86
    go_wp2
    go_ret
    exact ⟨rfl, rfl⟩
set_option maxHeartbeats 1000000 in
theorem l8Puts_at (op : Int) (h1 : 1 ≤ op) (h2 : op ≤ 20) (w : World) : Calls Try.prog 87 #[.int .i64 op] w fun e w' => e = .returned (.int .i64 (putsS op : Nat)) ∧ w = w' := by
  rcases op_twenty h1 h2 with rfl | rfl | rfl | rfl | rfl | rfl | rfl | rfl | rfl | rfl | rfl | rfl | rfl | rfl | rfl | rfl | rfl | rfl | rfl | rfl
  all_goals
    clear h1 h2
    go_enter Try.func87, Try.ntmps87
    go_wp2
    go_ret
    exact ⟨rfl, rfl⟩
theorem drew_on {B : Nat} {u w : World} (h : Below B u w) (n : Nat) : Below B u (w.drewN n) := h.trans ⟨rfl, rfl, rfl, Nat.le_refl _, fun _ _ => rfl⟩
set_option maxRecDepth 100000 in
set_option maxHeartbeats 1000000 in
theorem l8Object_at {f : Bool} (B B' : Nat) (p : Prg) (a : Option Addr) (cap : Nat) (hok : okP p = true) (h : List Ob) (M : Nat) (ah : Option Addr) (ch : Nat) (v : Vl) (hv : v.1 = 2 → 0 ≤ v.2) (cl : Int) (w : World)
    (hp : SK front B w (.slice a p.length cap) p) (hM : w.cell? ⟨M, 0, none⟩ = some (.slice ah h.length ch)) (hh : SO f B' w (.slice ah h.length ch) h) :
    Calls Try.prog 89 #[.agg #[.slice a p.length cap], .pointer (some ⟨M, 0, none⟩), .agg #[.int .i64 v.1, .int .i64 v.2], .int .i64 cl] w fun e w' => e = .returned (.bool (objS p h v cl)) ∧ Below w.heap.size w w' := by
  have hMl : M < w.heap.size := cell_lt hM
  have HP : Hid (SK front B w (.slice a p.length cap) p) := hp
  have hpl := okP_len hok
  have HSUP : Hid (SupOk p p.length) := okP_sup hok
  clear hp hok
  obtain ⟨v1, v2⟩ := v
  dsimp only at hv ⊢
  obtain ⟨W, hW⟩ : ∃ W, W = (w.alloc (.cells #[.slice a p.length cap] 39)).alloc (.cells #[.int .i64 v1, .int .i64 v2] 57) := ⟨_, rfl⟩
  have hwW : Below w.heap.size w W := by rw [hW]; exact ((Below.refl _ _).alloc (Nat.le_refl _) _).alloc (by simp) _
  have P0 : W.cell? ⟨w.heap.size, 0, none⟩ = some (.slice a p.length cap) := by rw [hW]; exact (((Cells.new w _ rfl _ _).alloc _).g0).1
  have V : Cells W (w.heap.size + 1) [.int .i64 v1, .int .i64 v2] := by rw [hW]; exact Cells.new (w.alloc _) _ (by simp) _ _
  have V0 := V.g0.1
  have V1 := V.g1.1
  have M0 : W.cell? ⟨M, 0, none⟩ = some (.slice ah h.length ch) := (hwW.cell hMl).trans hM
  clear V hM
  by_cases h2 : v1 = 2
  · have h0 := hv h2
    clear hv
    subst h2
    by_cases hin : v2 < (h.length : Int)
    · obtain ⟨n, rfl⟩ := Int.eq_ofNat_of_zero_le h0
      have hn : n < h.length := by omega
      obtain ⟨hb, ho, rfl, _, vx, c0, _⟩ := hh.get hn
      have hbl : hb < w.heap.size := cell_lt c0
      replace c0 := (hwW.cell (p := ⟨hb, ho + n * 2, none⟩) hbl).trans c0
      obtain ⟨c, hc⟩ : ∃ c, c = h[n].cls := ⟨_, rfl⟩
      rw [← hc] at c0
      have HO : Hid (objS p h (2, (n : Int)) cl = (decide (0 ≤ c) && decide (c < (p.length : Int)) && undB p c cl)) := by
        show _ = _
        unfold objS
        simp only [Int.toNat_natCast, List.getElem?_eq_getElem hn, decide_true, Bool.true_and, hc]
      rw [HO.out]
      clear hc HO hh
      by_cases q0 : 0 ≤ c
      · by_cases q1 : c < (p.length : Int)
        · rw [show decide (0 ≤ c) = true from decide_eq_true q0, show decide (c < (p.length : Int)) = true from decide_eq_true q1, Bool.true_and, Bool.true_and]
          go_enter Try.func89, Try.ntmps89
          go_wp2_with fail
          rw [← hW]
          clear hW
          go_quiet (fail)
          go_wp2_with fail
          go_quiet (fail)
          go_wp2_with fail
          refine (l5Under B p a cap c cl (by omega) q1 hpl.2 HSUP.out _ (SK.on HP.out (Keep.of (drew_on hwW _)))).mono ?_
          rintro e w1 ⟨rfl, hb1⟩
          have hw1 : Below w.heap.size w w1 := below_over (drew_on hwW _) hb1
          clear hb1
          go_wp2
          go_ret
          exact ⟨rfl, hw1⟩
        · rw [show decide (c < (p.length : Int)) = false from decide_eq_false q1, Bool.and_false, Bool.false_and]
          go_enter Try.func89, Try.ntmps89
          go_wp2_with fail
          rw [← hW]
          clear hW
          go_quiet (fail)
          go_wp2_with fail
          go_quiet (fail)
          go_wp2
          go_ret
          exact ⟨rfl, drew_on hwW _⟩
      · rw [show decide (0 ≤ c) = false from decide_eq_false q0, Bool.false_and, Bool.false_and]
        go_enter Try.func89, Try.ntmps89
        go_wp2_with fail
        rw [← hW]
        clear hW
        go_quiet (fail)
        go_wp2_with fail
        go_quiet (fail)
        go_wp2
        go_ret
        exact ⟨rfl, drew_on hwW _⟩
    · have HO : Hid (objS p h (2, v2) cl = false) := by
        show _ = _
        unfold objS
        rw [List.getElem?_eq_none (show h.length ≤ v2.toNat by omega)]
        simp
      rw [HO.out]
      clear HO hh
      go_enter Try.func89, Try.ntmps89
      go_wp2_with fail
      rw [← hW]
      clear hW
      go_quiet (fail)
      go_wp2
      go_ret
      exact ⟨rfl, drew_on hwW _⟩
  · have HO : Hid (objS p h (v1, v2) cl = false) := by
      show _ = _
      unfold objS
      simp [h2]
    rw [HO.out]
    clear HO hh hv
    go_enter Try.func89, Try.ntmps89
    go_wp2_with fail
    rw [← hW]
    clear hW
    go_quiet (fail)
    go_wp2
    go_ret
    exact ⟨rfl, drew_on hwW _⟩
set_option maxRecDepth 100000 in
set_option maxHeartbeats 1000000 in
theorem l8Is_at {f : Bool} (B B' : Nat) (p : Prg) (a : Option Addr) (cap : Nat) (hok : okP p = true) (h : List Ob) (M : Nat) (ah : Option Addr) (ch : Nat) (v : Vl) (hv : v.1 = 2 → 0 ≤ v.2) (ty : Int) (w : World)
    (hp : SK front B w (.slice a p.length cap) p) (hM : w.cell? ⟨M, 0, none⟩ = some (.slice ah h.length ch)) (hh : SO f B' w (.slice ah h.length ch) h) :
    Calls Try.prog 91 #[.agg #[.slice a p.length cap], .pointer (some ⟨M, 0, none⟩), .agg #[.int .i64 v.1, .int .i64 v.2], .int .i64 ty] w fun e w' => e = .returned (.bool (isS p h v ty)) ∧ Below w.heap.size w w' := by
  have hMl : M < w.heap.size := cell_lt hM
  have HC : Hid (∀ x, Below w.heap.size w x → Calls Try.prog 89 #[.agg #[.slice a p.length cap], .pointer (some ⟨M, 0, none⟩), .agg #[.int .i64 v.1, .int .i64 v.2], .int .i64 ty] x fun e w' => e = .returned (.bool (objS p h v ty)) ∧ Below x.heap.size x w') := fun x hx =>
    l8Object_at B B' p a cap hok h M ah ch v hv ty x (SK.on hp (Keep.of hx)) ((hx.cell hMl).trans hM) (SO.on hh (Keep.of hx))
  have HI : Hid (isS p h v ty = if ty = -1 then decide (v.1 = 1) else decide (v.1 = 3) || objS p h v ty) := rfl
  rw [HI.out]
  obtain ⟨v1, v2⟩ := v
  dsimp only at HC ⊢
  generalize objS p h (v1, v2) ty = r at *
  clear hp hh HI hok hv
  by_cases e : ty = -1
  · subst e
    rw [if_pos rfl]
    clear HC
    go_enter Try.func91, Try.ntmps91
    go_wp2
    go_ret
    exact ⟨rfl, by go_grown⟩
  · rw [if_neg e]
    by_cases e3 : v1 = 3
    · subst e3
      clear HC
      rw [decide_eq_true rfl, Bool.true_or]
      go_enter Try.func91, Try.ntmps91
      go_wp2
      go_ret
      exact ⟨rfl, by go_grown⟩
    · go_enter Try.func91, Try.ntmps91
      go_wp2_with fail
      refine (HC.out _ (((Below.refl _ _).alloc (Nat.le_refl _) _).alloc (by simp) _)).mono ?_
      rintro e w1 ⟨rfl, hb1⟩
      have hw1 : Below w.heap.size w w1 := below_over (((Below.refl _ _).alloc (Nat.le_refl _) _).alloc (by simp) _) hb1
      clear hb1 HC
      go_wp2
      go_ret
      exact ⟨rfl, hw1⟩
end Pg
end Go.Proofs.Ytffkkhaiedhaiaa

/- The specification's machine gives: the last frame, and no room. -/
namespace Go.Proofs.Ytffkkhaiedhaiaa
namespace Pg
open Go.ChangeShapes Go.WideShapes Go.ChangeAt Go.RowKit St Wd

theorem frames_form {B : Nat} {w : World} {v : Value} {l : List Fr} {c : List (List Value)} {T : Nat → Nat → Nat → Prop} (h : OwnRc recF B w v l c T) (hl : l ≠ []) : ∃ g cap, v = .slice (some ⟨g, 0, none⟩) l.length cap := by
  obtain ⟨_, ⟨_, h0⟩ | ⟨g, cap, cur, hv, _⟩⟩ := h.own
  · exact absurd (List.eq_nil_of_length_eq_zero h0) hl
  · exact ⟨g, cap, hv⟩
set_option maxRecDepth 100000 in
set_option maxHeartbeats 1000000 in
theorem l8Give_last (B M : Nat) (m : Mc) (x : Vl) (w : World) (hB : B ≤ w.heap.size) (hm : MSt B M w m) (hf : m.frames.length = 1) :
    Calls Try.prog 93 #[.pointer (some ⟨M, 0, none⟩), .agg #[.int .i64 x.1, .int .i64 x.2]] w fun e w' => e = .returned (.int .i64 (giveS m x).2) ∧ MSt B M w' (giveS m x).1 ∧ Below B w w' := by
  have HG : Hid (giveS m x = ({ m with frames := [], code := x.2 }, 1)) := by
    show _ = _
    unfold giveS
    obtain ⟨f, hf⟩ := List.length_eq_one_iff.1 hf
    rw [hf]
    rfl
  rw [HG.out]
  dsimp only
  obtain ⟨x1, x2⟩ := x
  dsimp only
  obtain ⟨vh, vf, vs, ch, cf, Th, Tf, hC, hBM, hO, hNe⟩ := hm
  obtain ⟨g, fcap, rfl⟩ := frames_form hO.f (fun e => by rw [e] at hf; simp at hf)
  have HO : Hid (MOwn B w vh (.slice (some ⟨g, 0, none⟩) m.frames.length fcap) vs m ch cf Th Tf) := hO
  have HN : Hid (∀ k, Blk vh Th k ∨ Blk (.slice (some ⟨g, 0, none⟩) m.frames.length fcap) Tf k ∨ vs.ownBlock = some k → k ≠ M) := hNe
  have hMl : M < w.heap.size := cell_lt hC.g0.1
  have HC : Hid (Cells w M [vh, .slice (some ⟨g, 0, none⟩) m.frames.length fcap, vs, .int .i64 m.fin, .int .i64 m.code]) := hC
  have r1 := hC.g1.1
  have q1 := hC.g1.2
  have r4 := hC.g4.1
  have q4 := hC.g4.2
  rw [hf] at r1
  clear hC hO hNe HG
  go_enter Try.func93, Try.ntmps93
  go_wp2
  go_ret
  clear r1 q1 r4 q4
  obtain ⟨Y, hY⟩ : ∃ Y, Y = (w.setCell ⟨M, 1, none⟩ (.slice (some ⟨w.heap.size + 1, 0, none⟩) 0 0)).setCell ⟨M, 4, none⟩ (.int .i64 x2) := ⟨_, rfl⟩
  have hYs : Y.heap.size = w.heap.size := by rw [hY]; simp
  have hTY : Tch (fun k => k = M) w Y := by rw [hY]; exact (Tch.set (S := fun k => k = M) w (p := ⟨M, 1, none⟩) rfl _).trans (Tch.set (S := fun k => k = M) _ (p := ⟨M, 4, none⟩) rfl _)
  have hCY : Cells Y M [vh, .slice (some ⟨w.heap.size + 1, 0, none⟩) 0 0, vs, .int .i64 m.fin, .int .i64 x2] := by rw [hY]; exact (HC.out.s1 _).s4 _
  rw [← hY]
  clear hY
  obtain ⟨X, hX⟩ : ∃ X, X = (Y.alloc (.cells #[.int .i64 x1, .int .i64 x2] 57)).alloc (.cells #[] 49) := ⟨_, rfl⟩
  have hYX : Below Y.heap.size Y X := by rw [hX]; exact ((Below.refl _ _).alloc (Nat.le_refl _) _).alloc (by simp) _
  have hown : X.ownsRow B 49 5 (.slice (some ⟨w.heap.size + 1, 0, none⟩) 0 0) 0 [] := by
    have h : ((Y.alloc (.cells #[.int .i64 x1, .int .i64 x2] 57)).alloc (.cells #[] 49)).ownsRow (Y.alloc (.cells #[.int .i64 x1, .int .i64 x2] 57)).heap.size 49 5 (.slice (some ⟨(Y.alloc (.cells #[.int .i64 x1, .int .i64 x2] 57)).heap.size, 0, none⟩) 0 0) 0 [] := World.ownsRow_made (Y.alloc _) #[] 0 (Nat.le_refl _) (by decide) (by simp)
    rw [← hX, World.size_alloc, hYs] at h
    exact ownBase h (by omega)
  rw [← hX]
  clear hX
  have HT : Tch (fun k => k = M) w X := hTY.trans (Tch.of hYX)
  refine ⟨rfl, ?_, HT.below hB fun k hk => by rw [hk]; exact hBM⟩
  have hfr : OwnRc recF B X (.slice (some ⟨w.heap.size + 1, 0, none⟩) 0 0) [] [] (fun _ _ _ => False) := ⟨rfl, hown, fun _ _ _ h => h.elim, fun _ _ _ h => h.elim, fun _ _ _ _ _ h => h.elim, fun i ys h => by simp at h, fun i x ys h => by simp at h⟩
  have key := (HO.out.withF hB HT.size hfr (fun k hk => HT.far k (HO.out.lt k (hk.elim .inl fun h => .inr (.inr h))) (HN.out k (hk.elim .inl fun h => .inr (.inr h)))) (fun k hk => by
    rcases hk with hk | ⟨_, _, hk⟩
    · injection hk with hk
      exact .inr (by dsimp only at hk; omega)
    · exact hk.elim)).ends m.fin x2
  refine ⟨_, _, _, _, _, _, _, hCY.on hYX, hBM, key, fun k hk => ?_⟩
  rcases hk with hk | (hk | ⟨_, _, hk⟩) | hk
  · exact HN.out k (.inl hk)
  · injection hk with hk
    dsimp only at hk
    omega
  · exact hk.elim
  · exact HN.out k (.inr (.inr hk))
set_option maxRecDepth 100000 in
set_option maxHeartbeats 1000000 in
theorem l8Give_full (B M : Nat) (m : Mc) (x : Vl) (w : World) (hB : B ≤ w.heap.size) (hm : MSt B M w m) (h30 : m.frames.length ≤ 30) {b : Fr} (hb : m.frames.dropLast.getLast? = some b) (h8 : b.stk.length = 8) :
    Calls Try.prog 93 #[.pointer (some ⟨M, 0, none⟩), .agg #[.int .i64 x.1, .int .i64 x.2]] w fun e w' => e = .returned (.int .i64 (giveS m x).2) ∧ MSt B M w' (giveS m x).1 ∧ Below B w w' := by
  have HG : Hid (giveS m x = (m, 6)) := by
    show _ = _
    unfold giveS
    rw [hb]
    dsimp only
    rw [if_pos h8]
  rw [HG.out]
  dsimp only
  have HM : Hid (MSt B M w m) := hm
  obtain ⟨x1, x2⟩ := x
  dsimp only
  obtain ⟨vh, vf, vs, ch, cf, Th, Tf, hC, hBM, hO, hNe⟩ := hm
  obtain ⟨q, hq⟩ : ∃ q, m.frames.length = q + 2 := by
    have : m.frames.dropLast.length ≠ 0 := fun h => by rw [List.length_eq_zero_iff.1 h] at hb; simp at hb
    rw [List.length_dropLast] at this
    exact ⟨m.frames.length - 2, by omega⟩
  have hbq : m.frames[q]? = some b := by
    rw [List.getLast?_eq_getElem?, List.length_dropLast, List.getElem?_dropLast, hq] at hb
    simpa using hb
  obtain ⟨g, fcap, rfl⟩ := frames_form hO.f (fun e => by rw [e] at hq; simp at hq)
  have hMl : M < w.heap.size := cell_lt hC.g0.1
  have r1 := hC.g1.1
  have hc := List.getElem?_eq_getElem (show q < cf.length by rw [hO.f.len]; omega)
  obtain ⟨y, z, hyz⟩ := two_of (hO.f.wid q _ hc)
  rw [hyz] at hc
  have c3 := hO.f.cell hbq hc (d := 3) (by decide)
  have hv := hO.f.row q b _ hbq hc 0 b.stk y rfl rfl
  obtain ⟨ay, cy, rfl⟩ := hv.form
  rw [h8] at c3
  replace c3 : w.cell? ⟨g, q * 5 + 3, none⟩ = some (.slice ay 8 cy) := c3
  have hgl : g < w.heap.size := cell_lt c3
  rw [hq] at r1
  have hq28 : q ≤ 28 := by omega
  clear hC hO hNe HG hv hc hyz hb hbq
  go_enter Try.func93, Try.ntmps93
  go_wp2
  go_ret
  exact ⟨rfl, HM.out.on (by go_grown), by go_grown⟩
end Pg
end Go.Proofs.Ytffkkhaiedhaiaa

/- The specification's machine gives to a frame below. -/
namespace Go.Proofs.Ytffkkhaiedhaiaa
namespace Pg
open Go.ChangeShapes Go.WideShapes Go.ChangeAt Go.RowKit St Wd

theorem GrowV.on {B : Nat} {u v : World} {x : Value} {l : List Vl} (h : GrowV B u x l) (hb : Below u.heap.size u v) : GrowV B v x l := ⟨ownOn h.1 hb, h.2⟩
theorem Cells.drewC {w : World} {k : Nat} {vs : List Value} (h : Cells w k vs) : Cells w.drew k vs := h
theorem Tp.cap {B M G fcap : Nat} {w : World} {vh vs vS vL : Value} {m : Mc} {n q : Nat} {f : Fr} {ch cf : List (List Value)} {Th Tf : Nat → Nat → Nat → Prop} (h : Tp B M w m n q f G fcap vS vL vh vs ch cf Th Tf) : n ≤ fcap := by
  have hh := h.own.f.own
  rw [h.len] at hh
  obtain ⟨_, ⟨e, _⟩ | ⟨g', cap', cur, hv, h1, h2, h3, _⟩⟩ := hh
  · simp at e
  · injection hv with e1 e2 e3
    subst e3
    exact h3
theorem OwnRc.ones {α : Type} {R : RecT α} {B : Nat} {w : World} {v : Value} {l : List α} {c : List (List Value)} {T : Nat → Nat → Nat → Prop} (h : OwnRc R B w v l c T) (hhd : ∀ x, ∀ u ∈ R.hd x, u.oneCell' = true) : ∀ u ∈ (recs R l c).flatten, u.oneCell' = true := fun u hu => by
  obtain ⟨y, hy, huy⟩ := List.mem_flatten.1 hu
  obtain ⟨i, hi⟩ := List.getElem?_of_mem hy
  unfold recs at hi
  rw [List.getElem?_zipWith] at hi
  cases e1 : l[i]? with
  | none => rw [e1] at hi; simp at hi
  | some x =>
    cases e2 : c[i]? with
    | none => rw [e1, e2] at hi; simp at hi
    | some ys =>
      rw [e1, e2] at hi
      simp at hi
      subst hi
      rcases List.mem_append.1 huy with hm | hm
      · exact hhd x u hm
      · obtain ⟨j, hj⟩ := List.getElem?_of_mem hm
        have hjl := (List.getElem?_eq_some_iff.1 hj).1
        have hrl : j < (R.rows x).length := by rw [R.rwn, ← h.wid i ys e2]; exact hjl
        obtain ⟨ad, cc, e⟩ := (h.row i x ys e1 e2 j _ u (List.getElem?_eq_getElem hrl) hj).form
        rw [e]; rfl
theorem sv_one {w : World} {g c : Nat} {x1 x2 : Int} (h : Cells w g [.int .i64 x1, .int .i64 x2]) : SV true 0 w (.slice (some ⟨g, 0, none⟩) [((x1, x2) : Vl)].length c) [(x1, x2)] :=
  ⟨_, c, rfl, fun _ h => by simp at h, fun _ => ⟨g, 0, rfl, Nat.zero_le _, ⟨cell_lt h.g0.1, fun _ j hj => by
    rw [Nat.zero_add]
    match j, hj with
    | 0, _ => exact h.g0.2
    | 1, _ => exact h.g1.2⟩, fun j x hj => by
    cases j with
    | zero => simp at hj; subst hj; exact ⟨h.g0.1, h.g1.1⟩
    | succ j => simp at hj⟩⟩
theorem cells_kept {u w : World} {g k : Nat} {vs : List Value} (h : Cells u k vs) (hE : ∀ b, b ≠ g → b < u.heap.size → w.heap[b]? = u.heap[b]?) (hne : k ≠ g) (hl : k < u.heap.size) : Cells w k vs := fun i x hx => by
  obtain ⟨a, b⟩ := h i x hx
  have e := hE k hne hl
  exact ⟨(World.cell?_of_block (w := u) e).trans a, (World.frozen?_of_block (w := u) e).trans b⟩
set_option maxRecDepth 100000 in
set_option maxHeartbeats 2000000 in
theorem l8Give_below (B M : Nat) (m : Mc) (x : Vl) (w : World) (hB : B ≤ w.heap.size) (hm : MSt B M w m) (h30 : m.frames.length ≤ 30) {b : Fr} (hb : m.frames.dropLast.getLast? = some b) (h8 : b.stk.length < 8) (hpos : b.pos + 1 ≤ 9223372036854775807) (hpos' : -9223372036854775808 ≤ b.pos) :
    Calls Try.prog 93 #[.pointer (some ⟨M, 0, none⟩), .agg #[.int .i64 x.1, .int .i64 x.2]] w fun e w' => e = .returned (.int .i64 (giveS m x).2) ∧ MSt B M w' (giveS m x).1 ∧ Below B w w' := by
  obtain ⟨q, hq⟩ : ∃ q, m.frames.length = q + 2 := by
    have : m.frames.dropLast.length ≠ 0 := fun h => by rw [List.length_eq_zero_iff.1 h] at hb; simp at hb
    rw [List.length_dropLast] at this
    exact ⟨m.frames.length - 2, by omega⟩
  have hbq : m.frames[q]? = some b := by
    rw [List.getLast?_eq_getElem?, List.length_dropLast, List.getElem?_dropLast, hq] at hb
    simpa using hb
  have HG : Hid (giveS m x = ({ m with frames := (m.frames.set q { b with stk := b.stk ++ [x], pos := b.pos + 1 }).take (q + 1) }, 0)) := by
    show _ = _
    unfold giveS
    rw [hb]
    dsimp only
    rw [if_neg (by omega)]
    have e : m.frames.dropLast.dropLast ++ [{ b with stk := b.stk ++ [x], pos := b.pos + 1 }] = (m.frames.set q { b with stk := b.stk ++ [x], pos := b.pos + 1 }).take (q + 1) := by
      rw [List.dropLast_eq_take, List.dropLast_eq_take, List.take_take, List.length_take, hq]
      apply List.ext_getElem?
      intro j
      rw [List.getElem?_take, List.getElem?_set]
      by_cases hj : j < q
      · rw [List.getElem?_append_left (by simp; omega), List.getElem?_take, if_pos (by omega), if_pos (by omega), if_neg (by omega)]
      · by_cases hj2 : j = q
        · subst hj2
          rw [List.getElem?_append_right (by simp; omega), if_pos (by omega), if_pos rfl, if_pos (by omega)]
          simp [hq]
        · rw [if_neg (by omega), List.getElem?_eq_none (by simp; omega)]
    rw [e]
  rw [HG.out]
  dsimp only
  obtain ⟨x1, x2⟩ := x
  dsimp only
  obtain ⟨G, fcap, vS, vL, vh, vs, ch, cf, Th, Tf, hT⟩ := hm.tp hbq
  rw [hq] at hT
  have HT : Hid (Tp B M w m (q + 2) q b G fcap vS vL vh vs ch cf Th Tf) := hT
  have r1 := hT.cells.g1.1
  have hv := hT.stk
  obtain ⟨ay, cy, rfl⟩ := hv.form
  have c3 : w.cell? ⟨G, q * 5 + 3, none⟩ = some (.slice ay b.stk.length cy) := hT.cell (d := 3) (by omega)
  have HV : Hid (SV true 0 w (.slice ay b.stk.length cy) b.stk) := hv.sv
  have hgl := hT.glt
  have hMl := hT.mlt
  have hq28 : q ≤ 28 := by omega
  clear hT hm hv hb hbq HG
  go_enter Try.func93, Try.ntmps93
  go_upto_region 9 with fail
  obtain ⟨W, hW⟩ : ∃ W, W = w.alloc (.cells #[.int .i64 x1, .int .i64 x2] 57) := ⟨_, rfl⟩
  rw [← hW]
  have hwW : Below w.heap.size w W := by rw [hW]; exact (Below.refl _ _).alloc (Nat.le_refl _) _
  have hV : Cells W w.heap.size [.int .i64 x1, .int .i64 x2] := by rw [hW]; exact Cells.new w _ rfl _ _
  have V0 := hV.g0.1
  have V1 := hV.g1.1
  have c3W := (hwW.cell (p := ⟨G, q * 5 + 3, none⟩) hgl).trans c3
  have hWs : w.heap.size < W.heap.size := cell_lt V0
  have HVW : Hid (∀ X, Below W.heap.size W X → SV true 0 X (.slice ay b.stk.length cy) b.stk) := fun X hX => SV.on HV.out (Keep.of (below_over hwW hX))
  have HTW : Hid (Tp B M W m (q + 2) q b G fcap (.slice ay b.stk.length cy) vL vh vs ch cf Th Tf) := HT.out.on hwW
  have hGz : w.heap.size ≠ G := by omega
  have FZ : Hid (∀ X, Below W.heap.size W X → X.cell? ⟨G, q * 5 + 3, none⟩ = some (.slice ay b.stk.length cy) ∧ X.frozen? ⟨G, q * 5 + 3, none⟩ = false) := fun X hX => ⟨(hX.cell (p := ⟨G, q * 5 + 3, none⟩) (by show G < W.heap.size; omega)).trans c3W, (HTW.out.on hX).frz _⟩
  clear hW hV c3 HV
  have NILa : Hid (GrowV W.heap.size (W.alloc (.cells #[] 57)) (.slice (some ⟨W.heap.size, 0, none⟩) ([] : List Vl).length 0) []) := growV_nil W
  have NILc : Hid (GrowV W.heap.size ((W.alloc (.cells #[.int .i64 x1, .int .i64 x2] 57)).alloc (.cells #[] 57)) (.slice (some ⟨W.heap.size + 1, 0, none⟩) ([] : List Vl).length 0) []) := by
    have := growV_nil (W.alloc (.cells #[.int .i64 x1, .int .i64 x2] 57))
    rw [World.size_alloc] at this
    exact ⟨ownBase this.1 (by omega), this.2⟩
  have hGW : G < W.heap.size := by omega
  generalize hb0 : w.heap.size = b0 at *
  have BA : Hid (∀ o, Below W.heap.size W (W.alloc o).drew) := fun o => ((Below.refl _ _).alloc (Nat.le_refl _) _).drew
  have BB : Hid (∀ o o', Below W.heap.size W ((W.alloc o).alloc o').drew) := fun o o' => (((Below.refl _ _).alloc (Nat.le_refl _) _).alloc (by simp) _).drew
  have BC : Hid (∀ o o', Below (W.alloc o).heap.size (W.alloc o) ((W.alloc o).alloc o').drew) := fun o o' => ((Below.refl _ _).alloc (Nat.le_refl _) _).drew
  have BD : Hid (∀ X : World, Below X.heap.size X X.drew) := fun X => (Below.refl _ _).drew
  have HEND : Hid (∀ g2 c2 w2, GrowV W.heap.size w2 (.slice (some ⟨g2, 0, none⟩) (b.stk ++ [(x1, x2)]).length c2) (b.stk ++ [(x1, x2)]) → Below W.heap.size W w2 → (∃ cf' Tf' vS', Tp B M (w2.setCell ⟨G, q * 5 + 3, none⟩ (.slice (some ⟨g2, 0, none⟩) (b.stk ++ [(x1, x2)]).length c2)) { m with frames := m.frames.set q { b with stk := b.stk ++ [(x1, x2)] } } (q + 2) q { b with stk := b.stk ++ [(x1, x2)] } G fcap vS' vL vh vs ch cf' Th Tf') ∧ Below B w (w2.setCell ⟨G, q * 5 + 3, none⟩ (.slice (some ⟨g2, 0, none⟩) (b.stk ++ [(x1, x2)]).length c2)) ∧ B ≤ (w2.setCell ⟨G, q * 5 + 3, none⟩ (.slice (some ⟨g2, 0, none⟩) (b.stk ++ [(x1, x2)]).length c2)).heap.size) := fun g2 c2 w2 hG hBl => by
    obtain ⟨cf', Tf', h⟩ := HTW.out.setStk (by omega) hBl hG.vz
    have hBG : B ≤ G := HTW.out.own.low G (.inr (.inl (.inl rfl)))
    have hs := hBl.size
    exact ⟨⟨cf', Tf', _, h⟩, (((hwW.mono hB).trans (hBl.mono (by omega))).setCell hBG _), by simp only [World.size_setCell]; omega⟩
  clear HT
  go_cut [5, 6] from 7 to 48 (fun v5 v6 u => v5 = .int .i64 ((q : Int) + 2 - 1) ∧ v6 = .pointer (some ⟨G, q * 5, none⟩) ∧ Hid (∃ cf' Tf' vS', Tp B M u { m with frames := m.frames.set q { b with stk := b.stk ++ [(x1, x2)] } } (q + 2) q { b with stk := b.stk ++ [(x1, x2)] } G fcap vS' vL vh vs ch cf' Th Tf') ∧ Hid (Below B w u) ∧ B ≤ u.heap.size)
  case first =>
    go_region_law (first
      | (refine stepGrowV _ rfl (.tmp 38) (.tmp 42) rfl W.heap.size W.heap.size 0 [] (by simp [Act.eval]) (by first | exact NILa.out | exact GrowV.on NILa.out (BC.out _ _)) (by first | (simp; done) | (simp; omega)) ay cy 0 b.stk (by simp [Act.eval]) (HVW.out _ (by first | exact BA.out _ | exact BB.out _ _)) (by simp; omega) ?_; intro g1 c1 w1 G1 B1 E1 O1; have U1 : Below W.heap.size W w1 := Below.trans (by first | exact BA.out _ | exact BB.out _ _) B1; have v0 := (U1.cell (p := ⟨b0, 0, none⟩) hWs).trans V0; have v1 := (U1.cell (p := ⟨b0, 1, none⟩) hWs).trans V1; have G1' : GrowV W.heap.size w1 (.slice (some ⟨g1, 0, none⟩) b.stk.length c1) b.stk := (by simpa using G1); have hU1 := U1.size; dsimp only)
      | (refine stepGrowV _ rfl (.tmp 38) (.tmp 42) rfl W.heap.size (W.heap.size + 1) 0 [] (by simp [Act.eval]) (by first | exact NILc.out | exact GrowV.on NILc.out (BD.out _)) (by first | (simp; done) | (simp; omega)) ay cy 0 b.stk (by simp [Act.eval]) (HVW.out _ (by first | exact BA.out _ | exact BB.out _ _)) (by simp; omega) ?_; intro g1 c1 w1 G1 B1 E1 O1; have U1 : Below W.heap.size W w1 := Below.trans (by first | exact BA.out _ | exact BB.out _ _) B1; have v0 := (U1.cell (p := ⟨b0, 0, none⟩) hWs).trans V0; have v1 := (U1.cell (p := ⟨b0, 1, none⟩) hWs).trans V1; have G1' : GrowV W.heap.size w1 (.slice (some ⟨g1, 0, none⟩) b.stk.length c1) b.stk := (by simpa using G1); have hU1 := U1.size; dsimp only)
      | (refine stepGrowV _ rfl (.tmp 43) (.tmp 45) rfl W.heap.size g1 c1 b.stk (by simp [Act.eval]) (GrowV.on G1' ((Below.refl _ _).alloc (Nat.le_refl _) _)) (by simp; omega) (some ⟨w1.heap.size, 0, none⟩) 1 0 [(x1, x2)] (by simp [Act.eval]) (sv_one (Cells.new w1 _ rfl _ _)) (by simp; omega) ?_; intro g2 c2 w2 G2 B2 E2 O2; have U2 : Below W.heap.size W w2 := (U1.alloc hU1 _).trans B2; obtain ⟨y3, z3⟩ := FZ.out w2 U2; clear E2 O2 B2 E1 O1 B1 U1 v0 v1 G1 G1' hU1; dsimp only)
      | (refine stepGrowV _ rfl (.tmp 43) (.tmp 45) rfl W.heap.size g1 c1 b.stk (by simp [Act.eval]) G1' hU1 (some ⟨W.heap.size + 1, 0, none⟩) 1 0 [(x1, x2)] (by simp [Act.eval]) (sv_one (cells_kept (Cells.drewC (Cells.new (W.alloc (.cells #[] 57)) _ (by simp) _ _)) E1 (by omega) (by simp))) (by simp; omega) ?_; intro g2 c2 w2 G2 B2 E2 O2; have U2 : Below W.heap.size W w2 := U1.trans B2; obtain ⟨y3, z3⟩ := FZ.out w2 U2; clear E2 O2 B2 E1 O1 B1 U1 v0 v1 G1 G1' hU1; dsimp only)
      | (refine stepGrowV _ rfl (.tmp 43) (.tmp 45) rfl W.heap.size g1 c1 b.stk (by simp [Act.eval]) G1' hU1 (some ⟨W.heap.size, 0, none⟩) 1 0 [(x1, x2)] (by simp [Act.eval]) (sv_one (cells_kept (Cells.drewC ((Cells.new W _ rfl _ _).alloc _)) E1 (by omega) (by simp; omega))) (by simp; omega) ?_; intro g2 c2 w2 G2 B2 E2 O2; have U2 : Below W.heap.size W w2 := U1.trans B2; obtain ⟨y3, z3⟩ := FZ.out w2 U2; clear E2 O2 B2 E1 O1 B1 U1 v0 v1 G1 G1' hU1; dsimp only))
    all_goals
      have HF := HEND.out g2 c2 w2 G2 U2
      clear U2 G2 y3 z3
      rw [List.length_append] at HF
      go_wp2_with fail
      go_meet
      exact ⟨rfl, rfl, HF.1, HF.2.1, HF.2.2⟩
  case rest =>
    obtain ⟨rfl, rfl, hT2, hB2, hsz⟩ := hcut
    obtain ⟨cf', Tf', vS', hT⟩ := hT2.out
    obtain ⟨i0, hif, hz0, hz1, hz2⟩ := info_parts infoFrame
    have hP := hT.setPos hsz (b.pos + 1)
    have p2 : wc.cell? ⟨G, q * 5 + 2, none⟩ = some (.int .i64 b.pos) := hT.cell (d := 2) (by omega)
    have f2 := hT.frz (q * 5 + 2)
    have hBG : B ≤ G := hT.own.low G (.inr (.inl (.inl rfl)))
    have hbX : Below B w (wc.setCell ⟨G, q * 5 + 2, none⟩ (.int .i64 (b.pos + 1))) := hB2.out.setCell hBG _
    dsimp only at hP
    rw [List.set_set] at hP
    have HP : Hid (Tp B M (wc.setCell ⟨G, q * 5 + 2, none⟩ (.int .i64 (b.pos + 1))) { m with frames := m.frames.set q { b with stk := b.stk ++ [(x1, x2)], pos := b.pos + 1 } } (q + 2) q { b with stk := b.stk ++ [(x1, x2)], pos := b.pos + 1 } G fcap vS' vL vh vs ch cf' Th Tf') := hP
    have hszX : B ≤ (wc.setCell ⟨G, q * 5 + 2, none⟩ (.int .i64 (b.pos + 1))).heap.size := by simpa using hsz
    clear hT2 hT hP hB2 hsz HEND BA BB BC BD NILa NILc FZ HTW HVW V0 V1 c3W hwW r1
    go_upto_region 11 with fail
    generalize wc.setCell ⟨G, q * 5 + 2, none⟩ (.int .i64 (b.pos + 1)) = X at *
    have r1 := HP.out.cells.g1.1
    have s1 := HP.out.cells.g1.2
    have hcap : q + 2 ≤ fcap := HP.out.cap
    have hMX : M < X.heap.size := HP.out.mlt
    have hGX : G < X.heap.size := HP.out.glt
    have HNE : Hid ((X.alloc (.cells #[] 49)).ownsRow X.heap.size 49 5 (.slice (some ⟨X.heap.size, 0, none⟩) 0 0) 0 []) := World.ownsRow_made X #[] 0 (Nat.le_refl _) (by decide) (by simp)
    obtain ⟨news, hnews⟩ : ∃ news, news = ((recs recF (m.frames.set q { b with stk := b.stk ++ [(x1, x2)], pos := b.pos + 1 }) cf').flatten).take ((q + 1) * 5) := ⟨_, rfl⟩
    have hfl : ((recs recF (m.frames.set q { b with stk := b.stk ++ [(x1, x2)], pos := b.pos + 1 }) cf').flatten).length = (q + 2) * 5 := by
      have := HP.out.own.f.own.1
      rw [HP.out.len] at this
      exact this
    have NL : Hid (news.length = (q + 1) * 5) := by show _ = _; rw [hnews, List.length_take, hfl]; omega
    have N1 : Hid (∀ u ∈ news, u.oneCell' = true) := fun u hu => by
      rw [hnews] at hu
      exact HP.out.own.f.ones (fun x u hu => by simp [recF] at hu; rcases hu with rfl | rfl | rfl <;> rfl) u (List.mem_of_mem_take hu)
    have NC : Hid (∀ j u, news[j]? = some u → (X.alloc (.cells #[] 49)).cell? ((⟨G, 0, none⟩ : Addr).add j) = some u) := fun j u hu => by
      rw [hnews, List.getElem?_take] at hu
      split at hu
      · have hc := HP.out.own.f.own.cells (g := G) rfl j u hu
        exact (((Below.refl _ _).alloc (Nat.le_refl _) (.cells #[] 49)).cell (p := (⟨G, 0, none⟩ : Addr).add j) (by rw [Go.WideShapes.add_plain]; exact hGX)).trans hc
      · simp at hu
    have HNW : Hid (news = ((recs recF (m.frames.set q { b with stk := b.stk ++ [(x1, x2)], pos := b.pos + 1 }) cf').flatten).take ((q + 1) * 5)) := hnews
    clear p2 f2 hnews hfl
    have hqc : (q : Int) + 2 - 1 ≤ (fcap : Int) := by omega
    have hqn : ((q : Int) + 2 - 1).toNat = q + 1 := by omega
    go_wp2_with (at_builtin; refine wpList_append_own_at _ rfl _ _ 42 rfl X.heap.size 49 i0 (.agg #[.int .i64 0, .int .i64 0, .int .i64 0, .slice none 0 0, .slice none 0 0]) 5 72 Try.underlying42 hif hz0 hz1 hz2 rfl (by decide) _ _ _ rfl HNE.out ⟨G, 0, none⟩ (q + 1) fcap news (by simp [Act.eval]) NL.out NC.out N1.out (by unfold maxLen; omega) (by omega) (by simp) ?_)
    intro v' wF hown hgrow _ _
    have hbF : Below X.heap.size X wF := ((Below.refl _ _).alloc (Nat.le_refl _) _).grown hgrow (by simp) (fun k hk => by simp [Value.ownBlock] at hk; omega)
    have HM : Hid (MSt B M (wF.setCell ⟨M, 1, none⟩ v') { m with frames := (m.frames.set q { b with stk := b.stk ++ [(x1, x2)], pos := b.pos + 1 }).take (q + 1) }) := by
      refine HP.out.less hszX hbF (k0 := q + 1) (by have := HP.out.len; omega) ?_ (fun k hk => (hown.lt k hk).1)
      rw [← HNW.out]
      exact ownBase hown hszX
    have hBM : B ≤ M := HP.out.low
    have r1' := (hbF.cell (p := ⟨M, 1, none⟩) hMX).trans r1
    have s1' := (hbF.frozen (p := ⟨M, 1, none⟩) hMX).trans s1
    have hbE : Below B w (wF.setCell ⟨M, 1, none⟩ v') := (hbX.trans (hbF.mono hszX)).setCell hBM _
    obtain ⟨g', c', hv'⟩ := own_form hown (by omega)
    subst hv'
    clear hown hgrow HP HNE NL N1 NC HNW hbF r1 s1
    go_wp2
    go_ret
    exact ⟨rfl, HM.out, hbE⟩
/-- The specification's machine gives. -/
theorem l8Give_at (B M : Nat) (m : Mc) (x : Vl) (w : World) (hB : B ≤ w.heap.size) (hm : MSt B M w m) (h0 : 0 < m.frames.length) (h30 : m.frames.length ≤ 30) (h8 : ∀ f ∈ m.frames, f.stk.length ≤ 8) (hp : ∀ f ∈ m.frames, -9223372036854775808 ≤ f.pos ∧ f.pos + 1 ≤ 9223372036854775807) :
    Calls Try.prog 93 #[.pointer (some ⟨M, 0, none⟩), .agg #[.int .i64 x.1, .int .i64 x.2]] w fun e w' => e = .returned (.int .i64 (giveS m x).2) ∧ MSt B M w' (giveS m x).1 ∧ Below B w w' := by
  cases hb : m.frames.dropLast.getLast? with
  | none =>
    have : m.frames.dropLast = [] := List.getLast?_eq_none_iff.1 hb
    have hl : m.frames.length = 1 := by
      have := congrArg List.length this
      rw [List.length_dropLast] at this
      simp at this
      omega
    exact l8Give_last B M m x w hB hm hl
  | some b =>
    have hmem : b ∈ m.frames := List.dropLast_subset _ (List.mem_of_getLast? hb)
    by_cases h : b.stk.length = 8
    · exact l8Give_full B M m x w hB hm h30 hb h
    · exact l8Give_below B M m x w hB hm h30 hb (by have := h8 b hmem; omega) (hp b hmem).2 (hp b hmem).1
end Pg
end Go.Proofs.Ytffkkhaiedhaiaa
