/- The machine's call, its middle piece: who is called, and what its class selects. -/
import Derived.Test.YtffkkhaiedhaiaaJMc0
import Derived.Test.YtffkkhaiedhaiaaJMtG
import Derived.Test.YtffkkhaiedhaiaaJHs0
import Derived.Lib.QuietBelow
import Derived.BigQuiet
namespace Go.Proofs.Ytffkkhaiedhaiaa
namespace Pg
open Go.ChangeShapes Go.WideShapes Go.ChangeAt Go.RowKit St Wd

set_option maxRecDepth 100000 in
set_option maxHeartbeats 4000000 in
theorem callMid (Bp : Nat) (p : Prg) (bp po cap : Nat) (hok : okP p = true) (hsp : SmallP p) (B M : Nat) (m : Mc) (hcore : Core m) (q : Nat) (f : Fr) (G fcap : Nat) (vS vL vh vs : Value) (ch cf : List (List Value)) (Th Tf : Nat → Nat → Nat → Prop) (w : World) (hB : B ≤ w.heap.size) (hp : SK front Bp w (.slice (some ⟨bp, po, none⟩) p.length cap) p)
    (hT : Tp B M w m (q + 1) q f G fcap vS vL vh vs ch cf Th Tf) (hq : m.frames.length = q + 1)
    (A Bi : Int) (b3 b5 : Nat) (h3 : Cells w b3 [.slice (some ⟨bp, po, none⟩) p.length cap]) (hI : Cells w b5 [.int .i64 17, .int .i64 A, .int .i64 Bi]) (hb5 : b5 ≠ G) (keep : Nat) (hk : keep < f.stk.length) (hfo : FrOk f)
    (R : Ending → World → Prop) (r3 : (f.stk[keep]).1 = 3 → ∀ w', MSt B M w' m → Below B w w' → R (.returned (.int .i64 3)) w')
    (r6 : ¬ (f.stk[keep]).1 = 3 → objS p m.heap (f.stk[keep]) A = false → ∀ w', MSt B M w' m → Below B w w' → R (.returned (.int .i64 6)) w')
    (r5 : ¬ (f.stk[keep]).1 = 3 → objS p m.heap (f.stk[keep]) A = true → m.frames.length = 30 → ∀ w', MSt B M w' m → Below B w w' → R (.returned (.int .i64 5)) w')
    (r0 : ¬ (f.stk[keep]).1 = 3 → objS p m.heap (f.stk[keep]) A = true → ¬ m.frames.length = 30 → ∀ w', MSt B M w' { m with frames := (m.frames.dropLast ++ [{ f with stk := f.stk.take keep }]) ++ [⟨selF p ((m.heap[(f.stk[keep]).2.toNat]?).getD default).cls Bi, Bi, 0, [], frmV (f.stk.drop keep)⟩] } → Below B w w' → R (.returned (.int .i64 0)) w')
    {u0 u2 u4 u6 u8 u9 u11 u15 u16 u17 u18 u19 u20 u21 u22 u23 u24 u25 u26 u27 u28 u29 u30 u31 u32 u33 u34 u35 u36 u37 u38 u39 u40 u41 u42 u43 u44 u45 u46 u47 u48 u49 u50 u51 u52 u53 u54 u55 u56 u57 u58 u59 u60 u61 u62 u63 u64 u65 u66 u67 u68 u69 u70 u71 u72 u73 u74 u75 u76 u77 u78 u79 u80 u81 u82 u83 u84 u85 u86 u87 u88 u89 u90 u91 u92 u93 u94 u95 u96 u97 u98 u99 u100 u101 : Value} : Code.wp Try.prog (c9 [true, true, true, true, true, true, true, true]) (bodyPost Try.prog Try.f92 R) { tmps := #[u0, .pointer (some ⟨M, 0, none⟩), u2, .pointer (some ⟨b3, 0, none⟩), u4, .pointer (some ⟨b5, 0, none⟩), u6, .pointer (some ⟨G, q * 5, none⟩), u8, u9, .int .i64 (keep : Int), u11, undef, undef, undef, u15, u16, u17, u18, u19, u20, u21, u22, u23, u24, u25, u26, u27, u28, u29, u30, u31, u32, u33, u34, u35, u36, u37, u38, u39, u40, u41, u42, u43, u44, u45, u46, u47, u48, u49, u50, u51, u52, u53, u54, u55, u56, u57, u58, u59, u60, u61, u62, u63, u64, u65, u66, u67, u68, u69, u70, u71, u72, u73, u74, u75, u76, u77, u78, u79, u80, u81, u82, u83, u84, u85, u86, u87, u88, u89, u90, u91, u92, u93, u94, u95, u96, u97, u98, u99, u100, u101, undef, undef, undef, undef, undef, undef, undef, undef, undef, undef, undef, undef, undef, undef, undef, undef, undef, undef, undef, undef, undef, undef, undef, undef, undef, undef, undef, undef, undef, undef, undef, undef, undef, undef, undef, undef, undef, undef, undef, undef, undef, undef, undef, undef, undef, undef, undef, undef, undef, undef, undef, undef, undef, undef, undef, undef, undef, undef, undef, undef, undef, undef, undef, undef, undef, undef, undef, undef, undef], defers := [] } w := by
  obtain ⟨x, hx⟩ : ∃ x, x = f.stk[keep] := ⟨_, rfl⟩
  rw [← hx] at r3 r6 r5 r0
  have hxv : valB x = true := by rw [hx]; exact hfo.sv _ (List.getElem_mem hk)
  have hVR := valRefS hxv
  obtain ⟨gS, cS, hvS, hgS, hsc⟩ : ∃ gS cS, vS = .slice (some ⟨gS, 0, none⟩) f.stk.length cS ∧ gS < w.heap.size ∧ (w.cell? ⟨gS, keep * 2, none⟩ = some (.int .i64 x.1) ∧ w.cell? ⟨gS, keep * 2 + 1, none⟩ = some (.int .i64 x.2)) := by
    rcases hT.stk with ⟨g, c, hv, _, h2, h4, _⟩ | ⟨_, hl⟩
    · exact ⟨g, _, hv, h2, by rw [hx]; exact h4 keep _ (List.getElem?_eq_getElem hk)⟩
    · rw [hl] at hk; simp at hk
  subst hvS
  obtain ⟨x0, x1⟩ := hsc
  have c3 : w.cell? ⟨G, q * 5 + 3, none⟩ = some (.slice (some ⟨gS, 0, none⟩) f.stk.length cS) := hT.cell (d := 3) (by omega)
  have hki : (keep : Int) < (f.stk.length : Int) := by omega
  obtain ⟨E, hE⟩ : ∃ E, E = w.alloc (.cells #[.int .i64 x.1, .int .i64 x.2] 57) := ⟨_, rfl⟩
  have hbE : Below w.heap.size w E := by rw [hE]; exact (Below.refl _ _).alloc (Nat.le_refl _) _
  have CW : Hid (Cells E w.heap.size [.int .i64 x.1, .int .i64 x.2]) := by show Cells _ _ _; rw [hE]; exact Cells.new w _ rfl _ _
  have HE : Hid (E = w.alloc (.cells #[.int .i64 x.1, .int .i64 x.2] 57)) := hE
  have HT : Hid (Tp B M w m (q + 1) q f G fcap (.slice (some ⟨gS, 0, none⟩) f.stk.length cS) vL vh vs ch cf Th Tf) := hT
  have HI : Hid (Cells w b5 [.int .i64 17, .int .i64 A, .int .i64 Bi]) := hI
  have H3 : Hid (Cells w b3 [.slice (some ⟨bp, po, none⟩) p.length cap]) := h3
  have HP : Hid (SK front Bp w (.slice (some ⟨bp, po, none⟩) p.length cap) p) := hp
  have R3 : Hid (x.1 = 3 → ∀ w', MSt B M w' m → Below B w w' → R (.returned (.int .i64 3)) w') := r3
  have R6 : Hid (¬ x.1 = 3 → objS p m.heap x A = false → ∀ w', MSt B M w' m → Below B w w' → R (.returned (.int .i64 6)) w') := r6
  have R5 : Hid (¬ x.1 = 3 → objS p m.heap x A = true → m.frames.length = 30 → ∀ w', MSt B M w' m → Below B w w' → R (.returned (.int .i64 5)) w') := r5
  have R0 : Hid (¬ x.1 = 3 → objS p m.heap x A = true → ¬ m.frames.length = 30 → ∀ w', MSt B M w' { m with frames := (m.frames.dropLast ++ [{ f with stk := f.stk.take keep }]) ++ [⟨selF p ((m.heap[x.2.toNat]?).getD default).cls Bi, Bi, 0, [], frmV (f.stk.drop keep)⟩] } → Below B w w' → R (.returned (.int .i64 0)) w') := r0
  clear hT hI h3 hp r3 r6 r5 r0 hE hx
  unfold c9
  conv => arg 2; whnf
  go_upto_region 15 with fail
  rw [← HE.out]
  clear HE x0 x1 c3
  have w0c := CW.out.g0.1
  by_cases hx3 : x.1 = 3
  · rw [hx3] at w0c
    have HF := R3.out hx3 E (HT.out.on hbE).st (hbE.mono hB)
    clear R3 R6 R5 R0
    go_wp2_with fail
    exact HF
  · have hb3 : (x.1 == 3) = false := by simp [hx3]
    obtain ⟨ah, chh, hvh⟩ := own_any HT.out.own.h.own
    have HOB : Hid (Calls Try.prog 89 #[.agg #[.slice (some ⟨bp, po, none⟩) p.length cap], .pointer (some ⟨M, 0, none⟩), .agg #[.int .i64 x.1, .int .i64 x.2], .int .i64 A] E fun e w' => e = .returned (.bool (objS p m.heap x A)) ∧ Below E.heap.size E w') := by
      have hso := (HT.out.on hbE).own.h.so
      have hm0 := (HT.out.on hbE).cells.g0.1
      rw [hvh] at hso hm0
      exact l8Object_at Bp 0 p (some ⟨bp, po, none⟩) cap hok m.heap M ah chh x hVR A E (SK.on HP.out (Keep.of hbE)) hm0 hso
    have w1c := CW.out.g1.1
    have p0 := (H3.out.on hbE).g0.1
    have i1 := (HI.out.on hbE).g1.1
    go_wp2_with fail
    refine HOB.out.mono ?_
    rintro e Y ⟨rfl, hbY⟩
    have hY : Below w.heap.size w Y := below_over hbE hbY
    have CWY : Hid (Cells Y w.heap.size [.int .i64 x.1, .int .i64 x.2]) := CW.out.on hbY
    clear HOB w0c w1c p0 i1 hb3
    cases ho : objS p m.heap x A
    · have HF := R6.out hx3 ho Y (HT.out.on hY).st (hY.mono hB)
      clear R3 R6 R5 R0 ho
      go_wp2_with fail
      exact HF
    · have m1 := (HT.out.on hY).cells.g1.1
      by_cases h30 : m.frames.length = 30
      · have hq30 : q + 1 = 30 := by omega
        have HF := R5.out hx3 ho h30 Y (HT.out.on hY).st (hY.mono hB)
        rw [hq30] at m1
        clear R3 R6 R5 R0 ho
        go_wp2_with fail
        exact HF
      · have hqn : ((q : Int) + 1 == 30) = false := by have := hcore.f30; simp; omega
        obtain ⟨h2, o, hoo⟩ := objS_of ho
        obtain ⟨i, hi⟩ := Int.eq_ofNat_of_zero_le (hVR h2)
        have R0' := R0.out hx3 ho h30
        rw [hoo] at R0'
        simp only [Option.getD_some] at R0'
        rw [hi, Int.toNat_natCast] at hoo
        have hil := (List.getElem?_eq_some_iff.1 hoo).1
        have hii : (i : Int) < (m.heap.length : Int) := by omega
        obtain ⟨gH, cH, hvH⟩ := own_form HT.out.own.h.own (by omega)
        subst hvH
        have hl : i < ch.length := by rw [HT.out.own.h.len]; exact hil
        obtain ⟨y, hy⟩ : ∃ y, ch[i] = [y] := List.length_eq_one_iff.1 (HT.out.own.h.wid i _ (List.getElem?_eq_getElem hl))
        have hci : ch[i]? = some [y] := by rw [List.getElem?_eq_getElem hl, hy]
        have o0 : Y.cell? ⟨gH, i * 2, none⟩ = some (.int .i64 o.cls) := (HT.out.on hY).own.h.cell hoo hci (d := 0) (by show 0 < 2; omega)
        have m0 := (HT.out.on hY).cells.g0.1
        have p0 := (H3.out.on hY).g0.1
        have w1c := CWY.out.g1.1
        rw [hi] at w1c
        have i2 := (HI.out.on hY).g2.1
        have hoc : 0 ≤ o.cls ∧ o.cls < (p.length : Int) := by
          have h := ho
          unfold objS at h
          rw [hi, Int.toNat_natCast, hoo] at h
          simp only [Bool.and_eq_true, decide_eq_true_eq] at h
          exact h.2.1
        have cL : ∀ d os, Calls Try.prog 108 #[.agg #[.slice (some ⟨bp, po, none⟩) p.length cap], .int .i64 o.cls, .int .i64 Bi] (Sort.grow (redrawn Y d) os) fun e w'' => e = .returned (.int .i64 (selF p o.cls Bi)) ∧ ∃ q : Regrown, w'' = Sort.grow (redrawn Y q.d) q.os := fun d os =>
          (l5Selected Bp p (some ⟨bp, po, none⟩) cap o.cls Bi (by omega) hoc.2 hsp (okP_len hok).2 (okP_sup hok) _ (SK.on HP.out (Keep.of (below_over hY (below_regrown Y d os))))).regrown_of
        have e1 := cell_regrown o0
        have e2 := cell_regrown m0
        have e3 := cell_regrown p0
        have e4 := cell_regrown w1c
        have e5 := cell_regrown i2
        have hqn2 : ¬ ((q : Int) + 1 = 30) := by have := hcore.f30; omega
        clear R3 R6 R5 R0 ho hvh hVR hxv
        go_upto_region 21 with fail
        refine wp_region_quiet_below (by kernel_rfl) (by kernel_rfl) ?_
        repeat (go_big_quiet_step ((go_at_call 108; exact cL _ _)))
        refine wpQuiet_nil ?_
        intro _ hw'
        obtain ⟨⟨dq, osq⟩, hw''⟩ := hw'
        subst hw''
        have hZ : Below w.heap.size w (Sort.grow (redrawn Y dq) osq) := below_over hY (below_regrown Y dq osq)
        generalize Sort.grow (redrawn Y dq) osq = Z at *
        clear e1 e2 e3 e4 e5 cL o0 m0 p0 w1c i2 m1
        generalize selF p o.cls Bi = cto at *
        go_step
        go_step
        refine callTail B M m q f G fcap _ vL _ vs ch cf Th Tf Z (Nat.le_trans hB hZ.size) (HT.out.on hZ) hq (by have := hcore.f30; omega) A Bi b5 (HI.out.on hZ) hb5 keep hk hfo.s8 cto R ?_
        intro w' hM hb'
        exact R0' w' hM ((hZ.mono hB).trans hb')
end Pg
end Go.Proofs.Ytffkkhaiedhaiaa

/- The machine's call: what is kept of the stack, and whether the arguments are of their kinds. -/
namespace Go.Proofs.Ytffkkhaiedhaiaa
namespace Pg
open Go.ChangeShapes Go.WideShapes Go.ChangeAt Go.RowKit St Wd

theorem callS_six {p : Prg} {m : Mc} {f : Fr} {A Bi : Int} {own : Meth} (hm : methS p (selF p A Bi) Bi = some own) (hA : ¬ (p.length : Int) ≤ A) (h : f.stk.length < own.args.length + 1 ∨ 8 < f.stk.length - own.args.length) : callS p m f A Bi = (m, 6) := by
  unfold callS
  rw [hm]
  simp only []
  rw [if_neg hA, if_pos h]
theorem callS_on {p : Prg} {m : Mc} {f : Fr} {A Bi : Int} {own : Meth} {keep : Nat} (hm : methS p (selF p A Bi) Bi = some own) (hA : ¬ (p.length : Int) ≤ A) (h : keep + own.args.length + 1 = f.stk.length) (h8 : f.stk.length ≤ 8) :
    callS p m f A Bi = if !((List.range own.args.length).all fun k => isS p m.heap ((f.stk[keep + 1 + k]?).getD (0, 0)) ((own.args[k]?).getD 0)) then (m, 6) else if ((f.stk[keep]?).getD (0, 0)).1 = 3 then (m, 3) else if !(objS p m.heap ((f.stk[keep]?).getD (0, 0)) A) then (m, 6) else if m.frames.length = 30 then (m, 5) else
      ({ m with frames := (m.frames.dropLast ++ [{ f with stk := f.stk.take keep }]) ++ [⟨selF p ((m.heap[((f.stk[keep]?).getD (0, 0)).2.toNat]?).getD default).cls Bi, Bi, 0, [], frmV (f.stk.drop keep)⟩] }, 0) := by
  unfold callS
  rw [hm]
  have hn : ¬ (f.stk.length < own.args.length + 1 ∨ 8 < f.stk.length - own.args.length) := by omega
  have hk : f.stk.length - own.args.length - 1 = keep := by omega
  simp only []
  rw [if_neg hA, if_neg hn, hk]
theorem all_take {p : Prg} {h : List Ob} {s : List Vl} {al : List Int} {keep k : Nat} {y : Vl} {a : Int} (hall : (List.range k).all (fun k => isS p h ((s[keep + 1 + k]?).getD (0, 0)) ((al[k]?).getD 0)) = true) (hy : s[keep + 1 + k]? = some y) (ha : al[k]? = some a) (hi : isS p h y a = true) : (List.range (k + 1)).all (fun k => isS p h ((s[keep + 1 + k]?).getD (0, 0)) ((al[k]?).getD 0)) = true := by
  rw [List.range_succ, List.all_append, hall]
  simp [hy, ha, hi]
theorem all_gone {p : Prg} {h : List Ob} {s : List Vl} {al : List Int} {keep k : Nat} {y : Vl} {a : Int} (hk : k < al.length) (hy : s[keep + 1 + k]? = some y) (ha : al[k]? = some a) (hi : isS p h y a = false) : (List.range al.length).all (fun k => isS p h ((s[keep + 1 + k]?).getD (0, 0)) ((al[k]?).getD 0)) = false := by
  cases hh : (List.range al.length).all (fun k => isS p h ((s[keep + 1 + k]?).getD (0, 0)) ((al[k]?).getD 0))
  · rfl
  · have := List.all_eq_true.1 hh k (List.mem_range.2 hk)
    simp only [hy, ha, Option.getD_some] at this
    rw [hi] at this; simp at this
set_option maxRecDepth 100000 in
set_option maxHeartbeats 4000000 in
theorem callKeep (Bp : Nat) (p : Prg) (bp po cap : Nat) (hok : okP p = true) (hsp : SmallP p) (B M : Nat) (m : Mc) (hcore : Core m) (q : Nat) (f : Fr) (G fcap : Nat) (vS vL vh vs : Value) (ch cf : List (List Value)) (Th Tf : Nat → Nat → Nat → Prop) (w : World) (hB : B ≤ w.heap.size) (hp : SK front Bp w (.slice (some ⟨bp, po, none⟩) p.length cap) p)
    (hT : Tp B M w m (q + 1) q f G fcap vS vL vh vs ch cf Th Tf) (hq : m.frames.length = q + 1) (hfo : FrOk f)
    (A Bi : Int) (b3 b5 : Nat) (h3 : Cells w b3 [.slice (some ⟨bp, po, none⟩) p.length cap]) (hI : Cells w b5 [.int .i64 17, .int .i64 A, .int .i64 Bi]) (hb5 : b5 ≠ G)
    (own : Meth) (ha3 : own.args.length ≤ 1048576) (b9 Bo : Nat) (av : Option Addr) (ac vc : Value) (hac : ∃ cva, ac = .slice av own.args.length cva) (h9 : Cells w b9 [.int .i64 own.name, ac, .int .i64 own.gives, vc]) (hargs : SI true Bo w ac own.args) (hm : methS p (selF p A Bi) Bi = some own) (hA : ¬ (p.length : Int) ≤ A)
    (R : Ending → World → Prop) (hR : ∀ w', MSt B M w' (callS p m f A Bi).1 → Below B w w' → R (.returned (.int .i64 (callS p m f A Bi).2)) w')
    {u0 u2 u4 u6 u8 u15 u16 u17 u18 u19 u20 u21 u22 u23 u24 u25 u26 u27 u28 u29 u30 u31 u32 u33 u34 u35 u36 u37 u38 u39 u40 u41 u42 u43 u44 u45 u46 u47 u48 u49 u50 u51 u52 u53 u54 u55 u56 u57 u58 : Value} : Code.wp Try.prog (c9 [true, true, true, true, true]) (bodyPost Try.prog Try.f92 R) { tmps := #[u0, .pointer (some ⟨M, 0, none⟩), u2, .pointer (some ⟨b3, 0, none⟩), u4, .pointer (some ⟨b5, 0, none⟩), u6, .pointer (some ⟨G, q * 5, none⟩), u8, .pointer (some ⟨b9, 0, none⟩), undef, undef, undef, undef, undef, u15, u16, u17, u18, u19, u20, u21, u22, u23, u24, u25, u26, u27, u28, u29, u30, u31, u32, u33, u34, u35, u36, u37, u38, u39, u40, u41, u42, u43, u44, u45, u46, u47, u48, u49, u50, u51, u52, u53, u54, u55, u56, u57, u58, undef, undef, undef, undef, undef, undef, undef, undef, undef, undef, undef, undef, undef, undef, undef, undef, undef, undef, undef, undef, undef, undef, undef, undef, undef, undef, undef, undef, undef, undef, undef, undef, undef, undef, undef, undef, undef, undef, undef, undef, undef, undef, undef, undef, undef, undef, undef, undef, undef, undef, undef, undef, undef, undef, undef, undef, undef, undef, undef, undef, undef, undef, undef, undef, undef, undef, undef, undef, undef, undef, undef, undef, undef, undef, undef, undef, undef, undef, undef, undef, undef, undef, undef, undef, undef, undef, undef, undef, undef, undef, undef, undef, undef, undef, undef, undef, undef, undef, undef, undef, undef, undef, undef, undef, undef, undef, undef, undef, undef, undef, undef, undef], defers := [] } w := by
  obtain ⟨cva, rfl⟩ := hac
  have h8 := hfo.s8
  have HR : Hid (∀ w', MSt B M w' (callS p m f A Bi).1 → Below B w w' → R (.returned (.int .i64 (callS p m f A Bi).2)) w') := hR
  have HT : Hid (∀ X, Below w.heap.size w X → Tp B M X m (q + 1) q f G fcap vS vL vh vs ch cf Th Tf) := fun X hX => hT.on hX
  have HI : Hid (Cells w b5 [.int .i64 17, .int .i64 A, .int .i64 Bi]) := hI
  have H3 : Hid (Cells w b3 [.slice (some ⟨bp, po, none⟩) p.length cap]) := h3
  have H9 : Hid (Cells w b9 [.int .i64 own.name, .slice av own.args.length cva, .int .i64 own.gives, vc]) := h9
  have HP : Hid (SK front Bp w (.slice (some ⟨bp, po, none⟩) p.length cap) p) := hp
  have HA : Hid (SI true Bo w (.slice av own.args.length cva) own.args) := hargs
  have HM : Hid (methS p (selF p A Bi) Bi = some own) := hm
  have HNA : Hid (¬ (p.length : Int) ≤ A) := hA
  obtain ⟨gS, cS, rfl⟩ : ∃ gS cS, vS = .slice gS f.stk.length cS := by
    rcases hT.stk with ⟨g, c, hv, _⟩ | ⟨hv, hl⟩
    · exact ⟨_, _, hv⟩
    · rw [hl]; exact ⟨none, 0, hv⟩
  have c3 : w.cell? ⟨G, q * 5 + 3, none⟩ = some (.slice gS f.stk.length cS) := hT.cell (d := 3) (by omega)
  have d1 := h9.g1.1
  have HNI : Hid (((f.stk.length : Int) - (own.args.length : Int)) - 1 = ((f.stk.length : Int) - (own.args.length : Int) - 1)) := rfl
  clear hR hT hI h3 h9 hp hargs hm hA
  unfold c9
  conv => arg 2; whnf
  conv => arg 4; dsimp only
  have e1 := cell_regrown c3
  have e2 := cell_regrown d1
  go_upto_region 6 with fail
  refine wp_region_quiet_below (by kernel_rfl) (by kernel_rfl) ?_
  repeat (go_big_quiet_step (fail))
  refine wpQuiet_nil ?_
  intro _ hw'
  obtain ⟨⟨dq, osq⟩, hw''⟩ := hw'
  subst hw''
  have hX := below_regrown w dq osq
  generalize Sort.grow (redrawn w dq) osq = X at *
  clear e1 e2 c3 d1
  by_cases hlt : f.stk.length < own.args.length + 1
  · have HE : Hid (callS p m f A Bi = (m, 6)) := callS_six HM.out HNA.out (.inl hlt)
    have HF : Hid (R (.returned (.int .i64 6)) X) := by
      have := HR.out X (by rw [HE.out]; exact (HT.out X hX).st) (hX.mono hB)
      rw [HE.out] at this
      exact this
    have hneg : (f.stk.length : Int) - (own.args.length : Int) - 1 < 0 := by omega
    clear HR HE
    go_wp2_with fail
    exact HF.out
  · obtain ⟨keep, hkeep⟩ : ∃ keep, keep + own.args.length + 1 = f.stk.length := ⟨f.stk.length - own.args.length - 1, by omega⟩
    have hke : (f.stk.length : Int) - (own.args.length : Int) - 1 = (keep : Int) := by omega
    have HCS := callS_on (m := m) HM.out HNA.out hkeep h8
    have HCSH : Hid (callS p m f A Bi = _) := HCS
    have hk8 : (keep : Int) + 1 ≤ 8 := by omega
    have hk0 : (0 : Int) ≤ (keep : Int) := by omega
    have HKE : Hid (keep + own.args.length + 1 = f.stk.length) := hkeep
    clear HCS
    rw [hke]
    clear hke hkeep hlt HNI
    have hkn : ¬ (keep : Int) < 0 := by omega
    go_wp2
    go_loopw [11] (fun i wr => ∃ k : Nat, k ≤ own.args.length ∧ i = .int .i64 (k : Int) ∧ Hid ((List.range k).all (fun k => isS p m.heap ((f.stk[keep + 1 + k]?).getD (0, 0)) ((own.args[k]?).getD 0)) = true) ∧ Below X.heap.size X wr) (fun i _ => own.args.length - (intOf i).toNat)
    case atStart => exact ⟨0, Nat.zero_le _, rfl, rfl, Below.refl _ _⟩
    case round =>
      obtain ⟨k, hk, rfl, hall, hb⟩ := hrel
      have hwr : Below w.heap.size w wr := below_over hX hb
      have d1 := (H9.out.on hwr).g1.1
      by_cases hlt : k < own.args.length
      · have hki : (k : Int) < (own.args.length : Int) := by omega
        have hks : keep + 1 + k < f.stk.length := by have := HKE.out; omega
        have hksi : (keep : Int) + 1 + (k : Int) < (f.stk.length : Int) := by omega
        obtain ⟨ba, oa, rfl, _, a0⟩ := (SI.on HA.out (Keep.of hwr)).get hlt
        unfold IntAt at a0
        rw [Nat.mul_one] at a0
        obtain ⟨g, cS', hgS, y0, y1⟩ : ∃ g c, (Value.slice gS f.stk.length cS) = .slice (some ⟨g, 0, none⟩) f.stk.length c ∧ wr.cell? ⟨g, (keep + 1 + k) * 2, none⟩ = some (.int .i64 (f.stk[keep + 1 + k]).1) ∧ wr.cell? ⟨g, (keep + 1 + k) * 2 + 1, none⟩ = some (.int .i64 (f.stk[keep + 1 + k]).2) := by
          rcases (HT.out wr hwr).stk with ⟨g, c, hv, _, h2, h4, _⟩ | ⟨_, hl⟩
          · exact ⟨g, _, hv, h4 (keep + 1 + k) _ (List.getElem?_eq_getElem hks)⟩
          · rw [hl] at hks; simp at hks
        injection hgS with hg1 _ hg2
        subst hg1
        have hyv : valB f.stk[keep + 1 + k] = true := hfo.sv _ (List.getElem_mem hks)
        have HY : Hid (f.stk[keep + 1 + k]? = some f.stk[keep + 1 + k]) := List.getElem?_eq_getElem hks
        have HAK : Hid (own.args[k]? = some own.args[k]) := List.getElem?_eq_getElem hlt
        have HKL : Hid (k < own.args.length) := hlt
        generalize f.stk[keep + 1 + k] = y at *
        generalize own.args[k] = ty at *
        have hVR := valRefS hyv
        have c3 : wr.cell? ⟨G, q * 5 + 3, none⟩ = some (.slice (some ⟨g, 0, none⟩) f.stk.length cS) := (HT.out wr hwr).cell (d := 3) (by omega)
        have p0 := (H3.out.on hwr).g0.1
        obtain ⟨ah, chh, hvh⟩ := own_any (HT.out wr hwr).own.h.own
        have cI : ∀ d os, Calls Try.prog 91 #[.agg #[.slice (some ⟨bp, po, none⟩) p.length cap], .pointer (some ⟨M, 0, none⟩), .agg #[.int .i64 y.1, .int .i64 y.2], .int .i64 ty] (Sort.grow (redrawn wr d) os) fun e w'' => e = .returned (.bool (isS p m.heap y ty)) ∧ ∃ q : Regrown, w'' = Sort.grow (redrawn wr q.d) q.os := fun d os => by
          have hZ := below_over hwr (below_regrown wr d os)
          have hso := (HT.out _ hZ).own.h.so
          have hm0 := (HT.out _ hZ).cells.g0.1
          rw [hvh] at hso hm0
          exact (l8Is_at Bp 0 p (some ⟨bp, po, none⟩) cap hok m.heap M ah chh y hVR ty _ (SK.on HP.out (Keep.of hZ)) hm0 hso).regrown_of
        have e1 := cell_regrown c3
        have e2 := cell_regrown d1
        have e3 := cell_regrown p0
        have e4 := cell_regrown y0
        have e5 := cell_regrown y1
        have e6 := cell_regrown a0
        clear hyv hVR
        go_upto_region 12 with fail
        refine wp_region_quiet_below (by kernel_rfl) (by kernel_rfl) ?_
        repeat (go_big_quiet_step ((go_at_call 91; exact cI _ _)))
        refine wpQuiet_nil ?_
        intro _ hw'
        obtain ⟨⟨dq, osq⟩, hw''⟩ := hw'
        subst hw''
        have hbZ := below_over hb (below_regrown wr dq osq)
        generalize Sort.grow (redrawn wr dq) osq = Z at *
        have hwZ : Below w.heap.size w Z := below_over hX hbZ
        clear e1 e2 e3 e4 e5 e6 cI c3 d1 p0 y0 y1 a0 hb hwr
        cases hi : isS p m.heap y ty
        · have HE : Hid (callS p m f A Bi = (m, 6)) := by
            show _ = _
            rw [HCSH.out, all_gone HKL.out HY.out HAK.out hi]
            rfl
          have HF : Hid (R (.returned (.int .i64 6)) Z) := by
            have := HR.out Z (by rw [HE.out]; exact (HT.out Z hwZ).st) (hwZ.mono hB)
            rw [HE.out] at this
            exact this
          clear HR HE HCSH hall hi
          go_wp2_with fail
          exact HF.out
        · have HS : Hid ((List.range (k + 1)).all (fun k => isS p m.heap ((f.stk[keep + 1 + k]?).getD (0, 0)) ((own.args[k]?).getD 0)) = true) := all_take hall.out HY.out HAK.out hi
          clear HCSH hall hi
          go_wp2
          go_roundw
          case rel => exact ⟨k + 1, by omega, by go_num, HS.out, hbZ⟩
          case measure => simp [intOf]; omega
      · obtain rfl : k = own.args.length := by omega
        have HCT := HCSH.out
        rw [hall.out] at HCT
        simp only [Bool.not_true, Bool.false_eq_true, if_false] at HCT
        have hkl : keep < f.stk.length := by have := HKE.out; omega
        have hgd : (f.stk[keep]?).getD (0, 0) = f.stk[keep] := by rw [List.getElem?_eq_getElem hkl]; rfl
        rw [hgd] at HCT
        have HCTH : Hid (callS p m f A Bi = _) := HCT
        clear HCT HCSH hall hgd
        repeat (fail_if_success (with_reducible refine (id : Code.wp Try.prog (Code.seq (Code.region 14 _ _) _) _ _ _ → _) ?_)
                go_step)
        refine callMid Bp p bp po cap hok hsp B M m hcore q f G fcap _ vL vh vs ch cf Th Tf wr (Nat.le_trans hB hwr.size) (SK.on HP.out (Keep.of hwr)) (HT.out wr hwr) hq A Bi b3 b5 (H3.out.on hwr) (HI.out.on hwr) hb5 keep hkl hfo R ?_ ?_ ?_ ?_
        · intro h3 w' hM' hb'
          have HE : callS p m f A Bi = (m, 3) := by rw [HCTH.out, if_pos h3]
          have := HR.out w' (by rw [HE]; exact hM') ((hwr.mono hB).trans hb')
          rw [HE] at this
          exact this
        · intro h3 ho w' hM' hb'
          have HE : callS p m f A Bi = (m, 6) := by rw [HCTH.out, if_neg h3, ho]; rfl
          have := HR.out w' (by rw [HE]; exact hM') ((hwr.mono hB).trans hb')
          rw [HE] at this
          exact this
        · intro h3 ho h30 w' hM' hb'
          have HE : callS p m f A Bi = (m, 5) := by rw [HCTH.out, if_neg h3, ho, if_pos h30]; rfl
          have := HR.out w' (by rw [HE]; exact hM') ((hwr.mono hB).trans hb')
          rw [HE] at this
          exact this
        · intro h3 ho h30 w' hM' hb'
          have HE := HCTH.out
          rw [if_neg h3, ho, if_neg h30] at HE
          simp only [Bool.not_true, Bool.false_eq_true, if_false] at HE
          have := HR.out w' (by rw [HE]; exact hM') ((hwr.mono hB).trans hb')
          rw [HE] at this
          exact this
end Pg
end Go.Proofs.Ytffkkhaiedhaiaa

/- The machine's call: the class that is asked for, and its method. -/
namespace Go.Proofs.Ytffkkhaiedhaiaa
namespace Pg
open Go.ChangeShapes Go.WideShapes Go.ChangeAt Go.RowKit St Wd

set_option maxRecDepth 100000 in
set_option maxHeartbeats 4000000 in
theorem callOwn (Bp : Nat) (p : Prg) (bp po cap : Nat) (hok : okP p = true) (hsp : SmallP p) (B M : Nat) (m : Mc) (hcore : Core m) (q : Nat) (f : Fr) (G fcap : Nat) (vS vL vh vs : Value) (ch cf : List (List Value)) (Th Tf : Nat → Nat → Nat → Prop) (w : World) (hB : B ≤ w.heap.size) (hp : SK front Bp w (.slice (some ⟨bp, po, none⟩) p.length cap) p)
    (hT : Tp B M w m (q + 1) q f G fcap vS vL vh vs ch cf Th Tf) (hq : m.frames.length = q + 1) (hfo : FrOk f)
    (A Bi : Int) (b3 b5 : Nat) (h3 : Cells w b3 [.slice (some ⟨bp, po, none⟩) p.length cap]) (hI : Cells w b5 [.int .i64 17, .int .i64 A, .int .i64 Bi]) (hb5 : b5 ≠ G)
    (hA0 : 0 ≤ A) (hA : A < (p.length : Int)) (s k : Nat) (c : Cls) (own : Meth) (hse : selF p A Bi = (s : Int)) (hc : p[s]? = some c) (hk : c.meths[k]? = some own) (hoi : ownI c Bi = (k : Int)) (hm : methS p (selF p A Bi) Bi = some own)
    (R : Ending → World → Prop) (hR : ∀ w', MSt B M w' (callS p m f A Bi).1 → Below B w w' → R (.returned (.int .i64 (callS p m f A Bi).2)) w')
    {u0 u2 u4 u6 u15 u16 u17 u18 u19 u20 u21 u22 u23 u24 u25 u26 u27 u28 u29 u30 u31 u32 u33 u34 u35 u36 u37 u38 u39 u40 : Value} : Code.wp Try.prog (c9 [true, true, true]) (bodyPost Try.prog Try.f92 R) { tmps := #[u0, .pointer (some ⟨M, 0, none⟩), u2, .pointer (some ⟨b3, 0, none⟩), u4, .pointer (some ⟨b5, 0, none⟩), u6, .pointer (some ⟨G, q * 5, none⟩), undef, undef, undef, undef, undef, undef, undef, u15, u16, u17, u18, u19, u20, u21, u22, u23, u24, u25, u26, u27, u28, u29, u30, u31, u32, u33, u34, u35, u36, u37, u38, u39, u40, undef, undef, undef, undef, undef, undef, undef, undef, undef, undef, undef, undef, undef, undef, undef, undef, undef, undef, undef, undef, undef, undef, undef, undef, undef, undef, undef, undef, undef, undef, undef, undef, undef, undef, undef, undef, undef, undef, undef, undef, undef, undef, undef, undef, undef, undef, undef, undef, undef, undef, undef, undef, undef, undef, undef, undef, undef, undef, undef, undef, undef, undef, undef, undef, undef, undef, undef, undef, undef, undef, undef, undef, undef, undef, undef, undef, undef, undef, undef, undef, undef, undef, undef, undef, undef, undef, undef, undef, undef, undef, undef, undef, undef, undef, undef, undef, undef, undef, undef, undef, undef, undef, undef, undef, undef, undef, undef, undef, undef, undef, undef, undef, undef, undef, undef, undef, undef, undef, undef, undef, undef, undef, undef, undef, undef, undef, undef, undef, undef, undef], defers := [] } w := by
  obtain ⟨hsp', hcs⟩ := List.getElem?_eq_some_iff.1 hc
  obtain ⟨z1, t1, z2, t2, hcl⟩ := hp.cls hsp'
  rw [hcs] at hcl
  have hsc := hsp.2 c (List.mem_of_getElem? hc)
  have hml := hsc.2.1
  have ha3 : own.args.length ≤ 1048576 := (hsc.2.2 own (List.mem_of_getElem? hk)).1
  obtain ⟨hkl, hkk⟩ := List.getElem?_eq_some_iff.1 hk
  have HSM : Hid (SM front Bp w (.slice z2 c.meths.length t2) c.meths) := (hcl w (Below.refl _ _)).2.2.2.2
  obtain ⟨bm, om, av, cva, gc, cc, rfl, hme⟩ := HSM.out.meth hkl
  rw [hkk] at hme
  have hsi : (s : Int) < (p.length : Int) := by omega
  have hki : (k : Int) < (c.meths.length : Int) := by omega
  have HME : Hid (∀ X, Below w.heap.size w X → X.cell? ⟨bm, om + k * 4, none⟩ = some (.int .i64 own.name) ∧ X.cell? ⟨bm, om + k * 4 + 1, none⟩ = some (.slice av own.args.length cva) ∧ X.cell? ⟨bm, om + k * 4 + 2, none⟩ = some (.int .i64 own.gives) ∧ X.cell? ⟨bm, om + k * 4 + 3, none⟩ = some (.slice (some ⟨gc, 0, none⟩) own.code.length cc) ∧ SI true Bp X (.slice av own.args.length cva) own.args) := fun X hX => ⟨(hme X hX).1, (hme X hX).2.1, (hme X hX).2.2.1, (hme X hX).2.2.2.1, (hme X hX).2.2.2.2.2⟩
  have HALL : Hid (∀ x, Below w.heap.size w x → Below w.heap.size w x ∧ x.cell? ⟨b3, 0, none⟩ = some (.slice (some ⟨bp, po, none⟩) p.length cap) ∧ x.cell? ⟨b5, 1, none⟩ = some (.int .i64 A) ∧ x.cell? ⟨b5, 2, none⟩ = some (.int .i64 Bi) ∧ x.cell? ⟨bp, po + s * 3, none⟩ = some (.int .i64 c.super) ∧ x.cell? ⟨bp, po + s * 3 + 1, none⟩ = some (.slice z1 c.fields.length t1) ∧ x.cell? ⟨bp, po + s * 3 + 2, none⟩ = some (.slice (some ⟨bm, om, none⟩) c.meths.length t2)) := fun x hx =>
    ⟨hx, (h3.on hx).g0.1, (hI.on hx).g1.1, (hI.on hx).g2.1, (hcl x hx).1, (hcl x hx).2.1, (hcl x hx).2.2.1⟩
  have HSU := okP_sup hok
  have h6 := (okP_len hok).2
  have HC : Hid (∀ x, Below w.heap.size w x → Calls Try.prog 108 #[.agg #[.slice (some ⟨bp, po, none⟩) p.length cap], .int .i64 A, .int .i64 Bi] x fun e w' => e = .returned (.int .i64 (s : Int)) ∧ Below w.heap.size w w' ∧ Below x.heap.size x w') := fun x hx => by
    refine (l5Selected Bp p (some ⟨bp, po, none⟩) cap A Bi (by omega) hA hsp h6 HSU x (SK.on hp (Keep.of hx))).mono ?_
    rw [hse]
    rintro e w' ⟨rfl, hb'⟩
    exact ⟨rfl, below_over hx hb', hb'⟩
  have HR : Hid (∀ w', MSt B M w' (callS p m f A Bi).1 → Below B w w' → R (.returned (.int .i64 (callS p m f A Bi).2)) w') := hR
  have HT : Hid (∀ X, Below w.heap.size w X → Tp B M X m (q + 1) q f G fcap vS vL vh vs ch cf Th Tf) := fun X hX => hT.on hX
  have HI : Hid (Cells w b5 [.int .i64 17, .int .i64 A, .int .i64 Bi]) := hI
  have H3 : Hid (Cells w b3 [.slice (some ⟨bp, po, none⟩) p.length cap]) := h3
  have HP : Hid (SK front Bp w (.slice (some ⟨bp, po, none⟩) p.length cap) p) := hp
  have HM : Hid (methS p (selF p A Bi) Bi = some own) := hm
  have HOI : Hid (ownI c Bi = (k : Int)) := hoi
  have hlb : b5 < w.heap.size := cell_lt (hI.g0).1
  have hlg := hT.glt
  clear hcl hme hsc hc hk hkk hcs hoi hm hse HSU hR hT hI h3 hp
  unfold c9
  conv => arg 2; whnf
  conv => arg 4; dsimp only
  go_upto_region 4 with fail
  go_cut [8] from 41 to 50 (fun v u => ∃ b8 : Nat, v = .pointer (some ⟨b8, 0, none⟩) ∧ w.heap.size ≤ b8 ∧ Hid (Cells u b8 [.int .i64 c.super, .slice z1 c.fields.length t1, .slice (some ⟨bm, om, none⟩) c.meths.length t2]) ∧ Below w.heap.size w u)
  case first =>
    have hD0 : Below w.heap.size w w.drew := (Below.refl _ _).drew
    refine wp_region_held_drew (S := (fun x => Below w.heap.size w x ∧ x.cell? ⟨b3, 0, none⟩ = some (.slice (some ⟨bp, po, none⟩) p.length cap) ∧ x.cell? ⟨b5, 1, none⟩ = some (.int .i64 A) ∧ x.cell? ⟨b5, 2, none⟩ = some (.int .i64 Bi) ∧ x.cell? ⟨bp, po + s * 3, none⟩ = some (.int .i64 c.super) ∧ x.cell? ⟨bp, po + s * 3 + 1, none⟩ = some (.slice z1 c.fields.length t1) ∧ x.cell? ⟨bp, po + s * 3 + 2, none⟩ = some (.slice (some ⟨bm, om, none⟩) c.meths.length t2))) (by kernel_rfl) (HALL.out _ hD0) (fun hHeld => ?_)
    generalize w.drew = Q0 at hD0 hHeld ⊢
    refine wpAnyH_take (i := 0) (v := ?_) rfl (by kernel_rfl) (by kernel_rfl) (by kernel_rfl) (fun _ _ _ h => h) (Or.inl ⟨by rfl, ?_⟩) hHeld ?_
    rotate_left 1
    · intro w' hSw
      obtain ⟨_, y1, y2, y3, y4, y5, y6⟩ := hSw
      go_simp
      try with_reducible rfl
    simp only [Act.put, List.getElem_toArray, List.getElem_cons_zero]
    refine wpAnyH_take (i := 1) (v := ?_) rfl (by kernel_rfl) (by kernel_rfl) (by kernel_rfl) (fun _ _ _ h => h) (Or.inl ⟨by rfl, ?_⟩) hHeld ?_
    rotate_left 1
    · intro w' hSw
      obtain ⟨_, y1, y2, y3, y4, y5, y6⟩ := hSw
      go_simp
      try with_reducible rfl
    simp only [Act.put, List.getElem_toArray, List.getElem_cons_zero, List.getElem_cons_succ]
    refine wpAnyH_take (i := 2) (v := ?_) rfl (by kernel_rfl) (by kernel_rfl) (by kernel_rfl) (fun _ _ _ h => h) (Or.inl ⟨by rfl, ?_⟩) hHeld ?_
    rotate_left 1
    · intro w' hSw
      obtain ⟨_, y1, y2, y3, y4, y5, y6⟩ := hSw
      go_simp
      try with_reducible rfl
    simp only [Act.put, List.getElem_toArray, List.getElem_cons_zero, List.getElem_cons_succ]
    refine wpAnyH_take (i := 3) (v := ?_) rfl (by kernel_rfl) (by kernel_rfl) (by kernel_rfl) (fun _ _ _ h => h) (Or.inl ⟨by rfl, ?_⟩) hHeld ?_
    rotate_left 1
    · intro w' hSw
      obtain ⟨_, y1, y2, y3, y4, y5, y6⟩ := hSw
      go_simp
      try with_reducible rfl
    simp only [Act.put, List.getElem_toArray, List.getElem_cons_zero, List.getElem_cons_succ]
    refine wpAnyH_take (i := 4) (v := ?_) rfl (by kernel_rfl) (by kernel_rfl) (by kernel_rfl) (fun _ _ _ h => h) (Or.inl ⟨by rfl, ?_⟩) hHeld ?_
    rotate_left 1
    · intro w' hSw
      obtain ⟨_, y1, y2, y3, y4, y5, y6⟩ := hSw
      go_simp
      try with_reducible rfl
    simp only [Act.put, List.getElem_toArray, List.getElem_cons_zero, List.getElem_cons_succ]
    refine wpAnyH_take (i := 5) (v := ?_) rfl (by kernel_rfl) (by kernel_rfl) (by kernel_rfl) (fun _ _ _ h => h) (Or.inl ⟨by rfl, ?_⟩) hHeld ?_
    rotate_left 1
    · intro w' hSw
      obtain ⟨_, y1, y2, y3, y4, y5, y6⟩ := hSw
      go_simp
      try with_reducible rfl
    simp only [Act.put, List.getElem_toArray, List.getElem_cons_zero, List.getElem_cons_succ]
    refine wpAnyH_take (i := 6) (v := ?_) rfl (by kernel_rfl) (by kernel_rfl) (by kernel_rfl) (fun _ _ _ h => h) (Or.inl ⟨by rfl, ?_⟩) hHeld ?_
    rotate_left 1
    · intro w' hSw
      obtain ⟨_, y1, y2, y3, y4, y5, y6⟩ := hSw
      go_simp
      try with_reducible rfl
    simp only [Act.put, List.getElem_toArray, List.getElem_cons_zero, List.getElem_cons_succ]
    have hQ0 := hD0.size
    refine wpAnyH_ready (rs := [7, 10]) (by kernel_rfl) (by simp) ?_
    refine AllReadyH.cons rfl (fun K hK => ?_) (AllReadyH.cons rfl (fun K hK => ?_) AllReadyH.nil)
    · go_simp
      refine (HC.out Q0 hD0).mono ?_
      rintro e Q1 ⟨rfl, hq1, _⟩
      dsimp only
      refine hK.out _ _ (HALL.out Q1 hq1) (fun hHeld => ?_)
      clear hK K
      refine wpAnyH_take (i := 8) (v := ?_) rfl (by kernel_rfl) (by kernel_rfl) (by kernel_rfl) (fun _ _ _ h => h) (Or.inl ⟨by rfl, ?_⟩) hHeld ?_
      rotate_left 1
      · intro w' hSw
        obtain ⟨_, y1, y2, y3, y4, y5, y6⟩ := hSw
        go_simp
        try with_reducible rfl
      simp only [Act.put, List.getElem_toArray, List.getElem_cons_zero, List.getElem_cons_succ]
      refine wpAnyH_take (i := 9) (v := ?_) rfl (by kernel_rfl) (by kernel_rfl) (by kernel_rfl) (fun _ _ _ h => h) (Or.inl ⟨by rfl, ?_⟩) hHeld ?_
      rotate_left 1
      · intro w' hSw
        obtain ⟨_, y1, y2, y3, y4, y5, y6⟩ := hSw
        go_simp
        try with_reducible rfl
      simp only [Act.put, List.getElem_toArray, List.getElem_cons_zero, List.getElem_cons_succ]
      refine wpAnyH_ready (rs := [10]) (by kernel_rfl) (by simp) ?_
      refine AllReadyH.cons rfl (fun K hK => ?_) AllReadyH.nil
      go_simp
      refine hK.out _ _ (HALL.out _ (hq1.alloc hq1.size _)) (fun hHeld => ?_)
      clear hK K
      refine wpAnyH_ready (rs := [11]) (by kernel_rfl) (by simp) ?_
      refine AllReadyH.cons rfl (fun K hK => ?_) AllReadyH.nil
      go_simp
      refine hK.out _ _ (HALL.out _ (hq1.alloc hq1.size _)) (fun hHeld => ?_)
      clear hK K
      refine wpAnyH_done (by kernel_rfl) ?_ _
      have hbE : Below w.heap.size w (Q1.alloc (.cells #[.int .i64 c.super, .slice z1 c.fields.length t1, .slice (some ⟨bm, om, none⟩) c.meths.length t2] 81)) := hq1.alloc hq1.size _
      have C6 : Cells (Q1.alloc (.cells #[.int .i64 c.super, .slice z1 c.fields.length t1, .slice (some ⟨bm, om, none⟩) c.meths.length t2] 81)) Q1.heap.size [.int .i64 c.super, .slice z1 c.fields.length t1, .slice (some ⟨bm, om, none⟩) c.meths.length t2] := Cells.new Q1 _ rfl _ _
      have hs6 : w.heap.size ≤ Q1.heap.size := hq1.size
      clear hHeld hD0 hQ0
      generalize Q1.alloc (.cells #[.int .i64 c.super, .slice z1 c.fields.length t1, .slice (some ⟨bm, om, none⟩) c.meths.length t2] 81) = QE at *
      go_wp2_with fail
      go_meet
      exact ⟨Q1.heap.size, rfl, hs6, C6, hbE⟩
    · go_simp
      have hq2 : Below w.heap.size w (Q0.alloc (.cells #[.int .i64 0, .slice none 0 0, .slice none 0 0] 81)) := hD0.alloc hQ0 _
      have NC : Cells (Q0.alloc (.cells #[.int .i64 0, .slice none 0 0, .slice none 0 0] 81)) Q0.heap.size [.int .i64 0, .slice none 0 0, .slice none 0 0] := Cells.new Q0 _ rfl _ _
      refine hK.out _ _ (HALL.out _ hq2) (fun hHeld => ?_)
      clear hK K
      generalize Q0.alloc (.cells #[.int .i64 0, .slice none 0 0, .slice none 0 0] 81) = Q2 at *
      refine wpAnyH_ready (rs := [7]) (by kernel_rfl) (by simp) ?_
      refine AllReadyH.cons rfl (fun K hK => ?_) AllReadyH.nil
      go_simp
      refine (HC.out Q2 hq2).mono ?_
      rintro e Q1 ⟨rfl, hq1, hq12⟩
      dsimp only
      have NC1 := NC.on hq12
      refine hK.out _ _ (HALL.out Q1 hq1) (fun hHeld => ?_)
      clear hK K
      refine wpAnyH_take (i := 8) (v := ?_) rfl (by kernel_rfl) (by kernel_rfl) (by kernel_rfl) (fun _ _ _ h => h) (Or.inl ⟨by rfl, ?_⟩) hHeld ?_
      rotate_left 1
      · intro w' hSw
        obtain ⟨_, y1, y2, y3, y4, y5, y6⟩ := hSw
        go_simp
        try with_reducible rfl
      simp only [Act.put, List.getElem_toArray, List.getElem_cons_zero, List.getElem_cons_succ]
      refine wpAnyH_take (i := 9) (v := ?_) rfl (by kernel_rfl) (by kernel_rfl) (by kernel_rfl) (fun _ _ _ h => h) (Or.inl ⟨by rfl, ?_⟩) hHeld ?_
      rotate_left 1
      · intro w' hSw
        obtain ⟨_, y1, y2, y3, y4, y5, y6⟩ := hSw
        go_simp
        try with_reducible rfl
      simp only [Act.put, List.getElem_toArray, List.getElem_cons_zero, List.getElem_cons_succ]
      have C6 := ((NC1.s0 (.int .i64 c.super)).s1 (.slice z1 c.fields.length t1)).s2 (.slice (some ⟨bm, om, none⟩) c.meths.length t2)
      have hbE : Below w.heap.size w (((Q1.setCell ⟨Q0.heap.size, 0, none⟩ (.int .i64 c.super)).setCell ⟨Q0.heap.size, 1, none⟩ (.slice z1 c.fields.length t1)).setCell ⟨Q0.heap.size, 2, none⟩ (.slice (some ⟨bm, om, none⟩) c.meths.length t2)) := ((hq1.setCell hQ0 _).setCell hQ0 _).setCell hQ0 _
      obtain ⟨n0, f0⟩ := NC1.g0
      obtain ⟨n1, f1⟩ := NC1.g1
      obtain ⟨n2, f2⟩ := NC1.g2
      refine wpAnyH_ready (rs := [11]) (by kernel_rfl) (by simp) ?_
      refine AllReadyH.cons rfl (fun K hK => ?_) AllReadyH.nil
      go_simp
      refine hK.out _ _ (HALL.out _ hbE) (fun hHeld => ?_)
      clear hK K
      refine wpAnyH_done (by kernel_rfl) ?_ _
      clear hHeld hD0 NC NC1 n0 f0 n1 f1 n2 f2
      generalize ((Q1.setCell ⟨Q0.heap.size, 0, none⟩ (.int .i64 c.super)).setCell ⟨Q0.heap.size, 1, none⟩ (.slice z1 c.fields.length t1)).setCell ⟨Q0.heap.size, 2, none⟩ (.slice (some ⟨bm, om, none⟩) c.meths.length t2) = QE at *
      go_wp2_with fail
      go_meet
      exact ⟨Q0.heap.size, rfl, hQ0, C6, hbE⟩
  case rest =>
    obtain ⟨b8, rfl, hb8, C8, hbU⟩ := hcut
    obtain ⟨w4, rfl⟩ : ∃ x, x = wc := ⟨wc, rfl⟩
    have HALL : Hid (∀ x, Below w4.heap.size w4 x → Below w4.heap.size w4 x ∧ x.cell? ⟨b8, 0, none⟩ = some (.int .i64 c.super) ∧ x.cell? ⟨b8, 1, none⟩ = some (.slice z1 c.fields.length t1) ∧ x.cell? ⟨b8, 2, none⟩ = some (.slice (some ⟨bm, om, none⟩) c.meths.length t2) ∧ x.cell? ⟨b5, 2, none⟩ = some (.int .i64 Bi) ∧ x.cell? ⟨bm, om + k * 4, none⟩ = some (.int .i64 own.name) ∧ x.cell? ⟨bm, om + k * 4 + 1, none⟩ = some (.slice av own.args.length cva) ∧ x.cell? ⟨bm, om + k * 4 + 2, none⟩ = some (.int .i64 own.gives) ∧ x.cell? ⟨bm, om + k * 4 + 3, none⟩ = some (.slice (some ⟨gc, 0, none⟩) own.code.length cc)) := fun x hx => by
      have hwx : Below w.heap.size w x := below_over hbU hx
      obtain ⟨m1, m2, m3, m4, _⟩ := HME.out x hwx
      have c8 := C8.out.on hx
      exact ⟨hx, c8.g0.1, c8.g1.1, c8.g2.1, (HI.out.on hwx).g2.1, m1, m2, m3, m4⟩
    have HC : Hid (∀ x, Below w4.heap.size w4 x → Calls Try.prog 80 #[.agg #[.int .i64 c.super, .slice z1 c.fields.length t1, .slice (some ⟨bm, om, none⟩) c.meths.length t2], .int .i64 Bi] x fun e w' => e = .returned (.int .i64 (k : Int)) ∧ Below w4.heap.size w4 w' ∧ Below x.heap.size x w') := fun x hx => by
      have hwx : Below w.heap.size w x := below_over hbU hx
      refine (l4Own Bp c z1 (some ⟨bm, om, none⟩) t2 c.fields.length t1 Bi hml x (SM.on HSM.out (Keep.of hwx))).mono ?_
      rw [HOI.out]
      rintro e w' ⟨rfl, hb'⟩
      exact ⟨rfl, below_over hx hb', hb'⟩
    clear C8
    go_upto_region 5 with fail
    go_cut [9] from 51 to 58 (fun v u => ∃ b9 : Nat, v = .pointer (some ⟨b9, 0, none⟩) ∧ w4.heap.size ≤ b9 ∧ Hid (Cells u b9 [.int .i64 own.name, .slice av own.args.length cva, .int .i64 own.gives, .slice (some ⟨gc, 0, none⟩) own.code.length cc]) ∧ Below w4.heap.size w4 u)
    case first =>
      have hD0 : Below w4.heap.size w4 w4.drew := (Below.refl _ _).drew
      refine wp_region_held_drew (S := (fun x => Below w4.heap.size w4 x ∧ x.cell? ⟨b8, 0, none⟩ = some (.int .i64 c.super) ∧ x.cell? ⟨b8, 1, none⟩ = some (.slice z1 c.fields.length t1) ∧ x.cell? ⟨b8, 2, none⟩ = some (.slice (some ⟨bm, om, none⟩) c.meths.length t2) ∧ x.cell? ⟨b5, 2, none⟩ = some (.int .i64 Bi) ∧ x.cell? ⟨bm, om + k * 4, none⟩ = some (.int .i64 own.name) ∧ x.cell? ⟨bm, om + k * 4 + 1, none⟩ = some (.slice av own.args.length cva) ∧ x.cell? ⟨bm, om + k * 4 + 2, none⟩ = some (.int .i64 own.gives) ∧ x.cell? ⟨bm, om + k * 4 + 3, none⟩ = some (.slice (some ⟨gc, 0, none⟩) own.code.length cc))) (by kernel_rfl) (HALL.out _ hD0) (fun hHeld => ?_)
      generalize w4.drew = Q0 at hD0 hHeld ⊢
      refine wpAnyH_take (i := 0) (v := ?_) rfl (by kernel_rfl) (by kernel_rfl) (by kernel_rfl) (fun _ _ _ h => h) (Or.inl ⟨by rfl, ?_⟩) hHeld ?_
      rotate_left 1
      · intro w' hSw
        obtain ⟨_, y1, y2, y3, y4, y5, y6, y7, y8⟩ := hSw
        go_simp
        try with_reducible rfl
      simp only [Act.put, List.getElem_toArray, List.getElem_cons_zero]
      refine wpAnyH_take (i := 1) (v := ?_) rfl (by kernel_rfl) (by kernel_rfl) (by kernel_rfl) (fun _ _ _ h => h) (Or.inl ⟨by rfl, ?_⟩) hHeld ?_
      rotate_left 1
      · intro w' hSw
        obtain ⟨_, y1, y2, y3, y4, y5, y6, y7, y8⟩ := hSw
        go_simp
        try with_reducible rfl
      simp only [Act.put, List.getElem_toArray, List.getElem_cons_zero, List.getElem_cons_succ]
      refine wpAnyH_take (i := 2) (v := ?_) rfl (by kernel_rfl) (by kernel_rfl) (by kernel_rfl) (fun _ _ _ h => h) (Or.inl ⟨by rfl, ?_⟩) hHeld ?_
      rotate_left 1
      · intro w' hSw
        obtain ⟨_, y1, y2, y3, y4, y5, y6, y7, y8⟩ := hSw
        go_simp
        try with_reducible rfl
      simp only [Act.put, List.getElem_toArray, List.getElem_cons_zero, List.getElem_cons_succ]
      refine wpAnyH_take (i := 3) (v := ?_) rfl (by kernel_rfl) (by kernel_rfl) (by kernel_rfl) (fun _ _ _ h => h) (Or.inl ⟨by rfl, ?_⟩) hHeld ?_
      rotate_left 1
      · intro w' hSw
        obtain ⟨_, y1, y2, y3, y4, y5, y6, y7, y8⟩ := hSw
        go_simp
        try with_reducible rfl
      simp only [Act.put, List.getElem_toArray, List.getElem_cons_zero, List.getElem_cons_succ]
      refine wpAnyH_take (i := 4) (v := ?_) rfl (by kernel_rfl) (by kernel_rfl) (by kernel_rfl) (fun _ _ _ h => h) (Or.inl ⟨by rfl, ?_⟩) hHeld ?_
      rotate_left 1
      · intro w' hSw
        obtain ⟨_, y1, y2, y3, y4, y5, y6, y7, y8⟩ := hSw
        go_simp
        try with_reducible rfl
      simp only [Act.put, List.getElem_toArray, List.getElem_cons_zero, List.getElem_cons_succ]
      have hQ0 := hD0.size
      refine wpAnyH_ready (rs := [5, 8]) (by kernel_rfl) (by simp) ?_
      refine AllReadyH.cons rfl (fun K hK => ?_) (AllReadyH.cons rfl (fun K hK => ?_) AllReadyH.nil)
      · go_simp
        refine (HC.out Q0 hD0).mono ?_
        rintro e Q1 ⟨rfl, hq1, _⟩
        dsimp only
        refine hK.out _ _ (HALL.out Q1 hq1) (fun hHeld => ?_)
        clear hK K
        refine wpAnyH_take (i := 6) (v := ?_) rfl (by kernel_rfl) (by kernel_rfl) (by kernel_rfl) (fun _ _ _ h => h) (Or.inl ⟨by rfl, ?_⟩) hHeld ?_
        rotate_left 1
        · intro w' hSw
          obtain ⟨_, y1, y2, y3, y4, y5, y6, y7, y8⟩ := hSw
          go_simp
          try with_reducible rfl
        simp only [Act.put, List.getElem_toArray, List.getElem_cons_zero, List.getElem_cons_succ]
        refine wpAnyH_take (i := 7) (v := ?_) rfl (by kernel_rfl) (by kernel_rfl) (by kernel_rfl) (fun _ _ _ h => h) (Or.inl ⟨by rfl, ?_⟩) hHeld ?_
        rotate_left 1
        · intro w' hSw
          obtain ⟨_, y1, y2, y3, y4, y5, y6, y7, y8⟩ := hSw
          go_simp
          try with_reducible rfl
        simp only [Act.put, List.getElem_toArray, List.getElem_cons_zero, List.getElem_cons_succ]
        refine wpAnyH_ready (rs := [8]) (by kernel_rfl) (by simp) ?_
        refine AllReadyH.cons rfl (fun K hK => ?_) AllReadyH.nil
        go_simp
        refine hK.out _ _ (HALL.out _ (hq1.alloc hq1.size _)) (fun hHeld => ?_)
        clear hK K
        refine wpAnyH_ready (rs := [9]) (by kernel_rfl) (by simp) ?_
        refine AllReadyH.cons rfl (fun K hK => ?_) AllReadyH.nil
        go_simp
        refine hK.out _ _ (HALL.out _ (hq1.alloc hq1.size _)) (fun hHeld => ?_)
        clear hK K
        refine wpAnyH_done (by kernel_rfl) ?_ _
        have hbE : Below w4.heap.size w4 (Q1.alloc (.cells #[.int .i64 own.name, .slice av own.args.length cva, .int .i64 own.gives, .slice (some ⟨gc, 0, none⟩) own.code.length cc] 78)) := hq1.alloc hq1.size _
        have C6 : Cells (Q1.alloc (.cells #[.int .i64 own.name, .slice av own.args.length cva, .int .i64 own.gives, .slice (some ⟨gc, 0, none⟩) own.code.length cc] 78)) Q1.heap.size [.int .i64 own.name, .slice av own.args.length cva, .int .i64 own.gives, .slice (some ⟨gc, 0, none⟩) own.code.length cc] := Cells.new Q1 _ rfl _ _
        have hs6 : w4.heap.size ≤ Q1.heap.size := hq1.size
        clear hHeld hD0 hQ0
        generalize Q1.alloc (.cells #[.int .i64 own.name, .slice av own.args.length cva, .int .i64 own.gives, .slice (some ⟨gc, 0, none⟩) own.code.length cc] 78) = QE at *
        go_wp2_with fail
        go_meet
        exact ⟨Q1.heap.size, rfl, hs6, C6, hbE⟩
      · go_simp
        have hq2 : Below w4.heap.size w4 (Q0.alloc (.cells #[.int .i64 0, .slice none 0 0, .int .i64 0, .slice none 0 0] 78)) := hD0.alloc hQ0 _
        have NC : Cells (Q0.alloc (.cells #[.int .i64 0, .slice none 0 0, .int .i64 0, .slice none 0 0] 78)) Q0.heap.size [.int .i64 0, .slice none 0 0, .int .i64 0, .slice none 0 0] := Cells.new Q0 _ rfl _ _
        refine hK.out _ _ (HALL.out _ hq2) (fun hHeld => ?_)
        clear hK K
        generalize Q0.alloc (.cells #[.int .i64 0, .slice none 0 0, .int .i64 0, .slice none 0 0] 78) = Q2 at *
        refine wpAnyH_ready (rs := [5]) (by kernel_rfl) (by simp) ?_
        refine AllReadyH.cons rfl (fun K hK => ?_) AllReadyH.nil
        go_simp
        refine (HC.out Q2 hq2).mono ?_
        rintro e Q1 ⟨rfl, hq1, hq12⟩
        dsimp only
        have NC1 := NC.on hq12
        refine hK.out _ _ (HALL.out Q1 hq1) (fun hHeld => ?_)
        clear hK K
        refine wpAnyH_take (i := 6) (v := ?_) rfl (by kernel_rfl) (by kernel_rfl) (by kernel_rfl) (fun _ _ _ h => h) (Or.inl ⟨by rfl, ?_⟩) hHeld ?_
        rotate_left 1
        · intro w' hSw
          obtain ⟨_, y1, y2, y3, y4, y5, y6, y7, y8⟩ := hSw
          go_simp
          try with_reducible rfl
        simp only [Act.put, List.getElem_toArray, List.getElem_cons_zero, List.getElem_cons_succ]
        refine wpAnyH_take (i := 7) (v := ?_) rfl (by kernel_rfl) (by kernel_rfl) (by kernel_rfl) (fun _ _ _ h => h) (Or.inl ⟨by rfl, ?_⟩) hHeld ?_
        rotate_left 1
        · intro w' hSw
          obtain ⟨_, y1, y2, y3, y4, y5, y6, y7, y8⟩ := hSw
          go_simp
          try with_reducible rfl
        simp only [Act.put, List.getElem_toArray, List.getElem_cons_zero, List.getElem_cons_succ]
        have C6 := (((NC1.s0 (.int .i64 own.name)).s1 (.slice av own.args.length cva)).s2 (.int .i64 own.gives)).s3 (.slice (some ⟨gc, 0, none⟩) own.code.length cc)
        have hbE : Below w4.heap.size w4 ((((Q1.setCell ⟨Q0.heap.size, 0, none⟩ (.int .i64 own.name)).setCell ⟨Q0.heap.size, 1, none⟩ (.slice av own.args.length cva)).setCell ⟨Q0.heap.size, 2, none⟩ (.int .i64 own.gives)).setCell ⟨Q0.heap.size, 3, none⟩ (.slice (some ⟨gc, 0, none⟩) own.code.length cc)) := (((hq1.setCell hQ0 _).setCell hQ0 _).setCell hQ0 _).setCell hQ0 _
        obtain ⟨n0, f0⟩ := NC1.g0
        obtain ⟨n1, f1⟩ := NC1.g1
        obtain ⟨n2, f2⟩ := NC1.g2
        obtain ⟨n3, f3⟩ := NC1.g3
        refine wpAnyH_ready (rs := [9]) (by kernel_rfl) (by simp) ?_
        refine AllReadyH.cons rfl (fun K hK => ?_) AllReadyH.nil
        go_simp
        refine hK.out _ _ (HALL.out _ hbE) (fun hHeld => ?_)
        clear hK K
        refine wpAnyH_done (by kernel_rfl) ?_ _
        clear hHeld hD0 NC NC1 n0 f0 n1 f1 n2 f2 n3 f3
        generalize (((Q1.setCell ⟨Q0.heap.size, 0, none⟩ (.int .i64 own.name)).setCell ⟨Q0.heap.size, 1, none⟩ (.slice av own.args.length cva)).setCell ⟨Q0.heap.size, 2, none⟩ (.int .i64 own.gives)).setCell ⟨Q0.heap.size, 3, none⟩ (.slice (some ⟨gc, 0, none⟩) own.code.length cc) = QE at *
        go_wp2_with fail
        go_meet
        exact ⟨Q0.heap.size, rfl, hQ0, C6, hbE⟩
    case rest =>
      obtain ⟨b9, rfl, hb9, C9, hbV⟩ := hcut
      have hwc : Below w.heap.size w wc := below_over hbU hbV
      clear HALL HC
      repeat (fail_if_success (with_reducible refine (id : Code.wp Try.prog (Code.seq (Code.region 6 _ _) _) _ _ _ → _) ?_)
              go_step)
      exact callKeep Bp p bp po cap hok hsp B M m hcore q f G fcap vS vL vh vs ch cf Th Tf wc (Nat.le_trans hB hwc.size) (SK.on HP.out (Keep.of hwc)) (HT.out wc hwc) hq hfo A Bi b3 b5 (H3.out.on hwc) (HI.out.on hwc) hb5 own ha3 b9 Bp av _ _ ⟨cva, rfl⟩ C9.out (HME.out wc hwc).2.2.2.2 HM.out (by omega) R (fun w' h1 h2 => HR.out w' h1 ((hwc.mono hB).trans h2))
end Pg
end Go.Proofs.Ytffkkhaiedhaiaa
