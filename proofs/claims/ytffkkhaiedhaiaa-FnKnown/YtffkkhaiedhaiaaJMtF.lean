/- The machine's call, its last piece: the arguments, the stack, the new frame. -/
import Derived.Test.YtffkkhaiedhaiaaJSd4
import Derived.Test.YtffkkhaiedhaiaaJHs0
namespace Go.Proofs.Ytffkkhaiedhaiaa
namespace Pg
open Go.ChangeShapes Go.WideShapes Go.ChangeAt Go.RowKit St Wd

theorem SV.drop {B : Nat} {w : World} {g : Nat} {n c : Nat} {l : List Vl} (h : SV true B w (.slice (some ⟨g, 0, none⟩) n c) l) {k c' : Nat} (hk : k < l.length) : SV true B w (.slice (some ⟨g, k * 2, none⟩) (l.drop k).length c') (l.drop k) := by
  obtain ⟨a', c0, hv, hz, h⟩ := h
  injection hv with e1 e2 e3
  subst e1 e3
  obtain ⟨b, o, ha, hB, ⟨hl, hf⟩, hx⟩ := h (by omega)
  injection ha with ha
  injection ha with e4 e5
  subst e4 e5
  refine ⟨_, c', rfl, fun _ e => by simp at e, fun _ => ⟨g, k * 2, rfl, hB, ⟨hl, fun e j hj => ?_⟩, fun j x hj => ?_⟩⟩
  · have := hf e (k * 2 + j) (by rw [List.length_drop] at hj; omega)
    rw [Nat.zero_add] at this
    exact this
  · have := hx (k + j) x (by rw [← hj, List.getElem?_drop])
    rw [Nat.zero_add, Nat.add_mul] at this
    exact this
noncomputable def c9 (l : List Bool) : Code := sub (Try.f92.body.getD .skip) l
set_option maxRecDepth 100000 in
set_option maxHeartbeats 4000000 in
theorem callTail (B M : Nat) (m : Mc) (q : Nat) (f : Fr) (G fcap : Nat) (vS vL vh vs : Value) (ch cf : List (List Value)) (Th Tf : Nat → Nat → Nat → Prop) (w : World) (hB : B ≤ w.heap.size)
    (hT : Tp B M w m (q + 1) q f G fcap vS vL vh vs ch cf Th Tf) (hq : m.frames.length = q + 1) (h30 : q + 1 < 30)
    (A Bi : Int) (b5 : Nat) (hI : Cells w b5 [.int .i64 17, .int .i64 A, .int .i64 Bi]) (hb5 : b5 ≠ G) (keep : Nat) (hk : keep < f.stk.length) (h8 : f.stk.length ≤ 8) (cto : Int)
    (R : Ending → World → Prop) (hR : ∀ w', MSt B M w' { m with frames := (m.frames.dropLast ++ [{ f with stk := f.stk.take keep }]) ++ [⟨cto, Bi, 0, [], frmV (f.stk.drop keep)⟩] } → Below B w w' → R (.returned (.int .i64 0)) w')
    {u0 u2 u3 u4 u6 u8 u9 u11 u12 u14 u15 u16 u17 u18 u19 u20 u21 u22 u23 u24 u25 u26 u27 u28 u29 u30 u31 u32 u33 u34 u35 u36 u37 u38 u39 u40 u41 u42 u43 u44 u45 u46 u47 u48 u49 u50 u51 u52 u53 u54 u55 u56 u57 u58 u59 u60 u61 u62 u63 u64 u65 u66 u67 u68 u69 u70 u71 u72 u73 u74 u75 u76 u77 u78 u79 u80 u81 u82 u83 u84 u85 u86 u87 u88 u89 u90 u91 u92 u93 u94 u95 u96 u97 u98 u99 u100 u101 u102 u103 u104 u105 u106 u107 u108 u109 u110 u111 u112 u113 u114 u115 u116 u117 u118 u119 u120 u121 u122 u123 u124 u125 u126 u127 u128 u129 u130 u131 u132 u133 u134 u135 u136 u137 : Value} : Code.wp Try.prog (c9 [true, true, true, true, true, true, true, true, true, true, true, true, true]) (bodyPost Try.prog Try.f92 R) { tmps := #[u0, .pointer (some ⟨M, 0, none⟩), u2, u3, u4, .pointer (some ⟨b5, 0, none⟩), u6, .pointer (some ⟨G, q * 5, none⟩), u8, u9, .int .i64 (keep : Int), u11, u12, .int .i64 cto, u14, u15, u16, u17, u18, u19, u20, u21, u22, u23, u24, u25, u26, u27, u28, u29, u30, u31, u32, u33, u34, u35, u36, u37, u38, u39, u40, u41, u42, u43, u44, u45, u46, u47, u48, u49, u50, u51, u52, u53, u54, u55, u56, u57, u58, u59, u60, u61, u62, u63, u64, u65, u66, u67, u68, u69, u70, u71, u72, u73, u74, u75, u76, u77, u78, u79, u80, u81, u82, u83, u84, u85, u86, u87, u88, u89, u90, u91, u92, u93, u94, u95, u96, u97, u98, u99, u100, u101, u102, u103, u104, u105, u106, u107, u108, u109, u110, u111, u112, u113, u114, u115, u116, u117, u118, u119, u120, u121, u122, u123, u124, u125, u126, u127, u128, u129, u130, u131, u132, u133, u134, u135, u136, u137, undef, undef, undef, undef, undef, undef, undef, undef, undef, undef, undef, undef, undef, undef, undef, undef, undef, undef, undef, undef, undef, undef, undef, undef, undef, undef, undef, undef, undef, undef, undef, undef, undef], defers := [] } w := by
  have hgl := hT.glt
  obtain ⟨gS, cS, hvS⟩ : ∃ gS cS, vS = .slice (some ⟨gS, 0, none⟩) f.stk.length cS := by
    rcases hT.stk with ⟨g, c, hv, _⟩ | ⟨_, hl⟩
    · exact ⟨g, _, hv⟩
    · rw [hl] at hk; simp at hk
  subst hvS
  have hcap := hT.stk.cap
  have hbE : Below w.heap.size w (w.alloc (.cells #[] 57)) := (Below.refl _ _).alloc (Nat.le_refl _) _
  have c3 : (w.alloc (.cells #[] 57)).cell? ⟨G, q * 5 + 3, none⟩ = some (.slice (some ⟨gS, 0, none⟩) f.stk.length cS) := (hT.on hbE).cell (d := 3) (by omega)
  have HT : Hid (Tp B M w m (q + 1) q f G fcap (.slice (some ⟨gS, 0, none⟩) f.stk.length cS) vL vh vs ch cf Th Tf) := hT
  have HI : Hid (Cells w b5 [.int .i64 17, .int .i64 A, .int .i64 Bi]) := hI
  have HN : Hid (GrowV w.heap.size (w.alloc (.cells #[] 57)) (.slice (some ⟨w.heap.size, 0, none⟩) ([] : List Vl).length 0) []) := growV_nil w
  have hdl : (f.stk.drop keep).length = f.stk.length - keep := List.length_drop ..
  have htl : (f.stk.take keep).length = keep := by rw [List.length_take]; omega
  have HS1 : Hid (∀ c', SV true 0 (w.alloc (.cells #[] 57)) (.slice (some ⟨gS, keep * 2, none⟩) (f.stk.drop keep).length c') (f.stk.drop keep)) := fun c' => SV.drop (SV.on hT.stk.sv (Keep.of hbE)) hk
  have HS2 : Hid (∀ X, Below w.heap.size w X → SV true 0 X (.slice (some ⟨gS, 0, none⟩) (f.stk.take keep).length cS) (f.stk.take keep)) := fun X hX => SV.take (SV.on hT.stk.sv (Keep.of hX)) (by omega)
  have hki : (keep : Int) < (f.stk.length : Int) := by omega
  have hkc : (keep : Int) ≤ (cS : Int) := by omega
  have hlc : (f.stk.length : Int) ≤ (cS : Int) := by omega
  have hkl : (keep : Int) ≤ (f.stk.length : Int) := by omega
  have HR : Hid (∀ w', MSt B M w' { m with frames := (m.frames.dropLast ++ [{ f with stk := f.stk.take keep }]) ++ [⟨cto, Bi, 0, [], frmV (f.stk.drop keep)⟩] } → Below B w w' → R (.returned (.int .i64 0)) w') := hR
  have HDL : Hid ((f.stk.drop keep).length = f.stk.length - keep) := hdl
  have HTL : Hid ((f.stk.take keep).length = keep) := htl
  clear hT hI hR hdl htl
  unfold c9
  conv => arg 2; whnf
  go_wp2_with (at_builtin; refine wpList_growV _ rfl (.tmp 138) (.tmp 144) rfl w.heap.size w.heap.size 0 [] rfl HN.out (by simp) (some ⟨gS, keep * 2, none⟩) (cS - keep) 0 (f.stk.drop keep) (by rw [HDL.out]; simp [Act.eval]) (HS1.out _) (by have := HDL.out; simp; omega) ?_)
  intro g1 c1 w1 G1 B1 E1 O1
  have U1 : Below w.heap.size w w1 := hbE.trans B1
  have HG1 : Hid (GrowV w.heap.size w1 (.slice (some ⟨g1, 0, none⟩) (f.stk.drop keep).length c1) (f.stk.drop keep)) := by show GrowV _ _ _ _; rw [HDL.out]; simpa using G1
  have hbE1 : Below w.heap.size w (w1.alloc (.cells #[] 57)) := U1.alloc U1.size _
  have d3 : (w1.alloc (.cells #[] 57)).cell? ⟨G, q * 5 + 3, none⟩ = some (.slice (some ⟨gS, 0, none⟩) f.stk.length cS) := (HT.out.on hbE1).cell (d := 3) (by omega)
  have HN1 : Hid (GrowV w1.heap.size (w1.alloc (.cells #[] 57)) (.slice (some ⟨w1.heap.size, 0, none⟩) ([] : List Vl).length 0) []) := growV_nil w1
  have HS3 : Hid (SV true 0 (w1.alloc (.cells #[] 57)) (.slice (some ⟨gS, 0, none⟩) (f.stk.take keep).length cS) (f.stk.take keep)) := HS2.out _ hbE1
  clear G1 B1 E1 O1 HN HS1 HS2 c3
  go_wp2_with (at_builtin; refine wpList_growV _ rfl (.tmp 147) (.tmp 153) rfl w1.heap.size w1.heap.size 0 [] rfl HN1.out (by simp) (some ⟨gS, 0, none⟩) cS 0 (f.stk.take keep) (by rw [HTL.out]; simp [Act.eval]) HS3.out (by have := HTL.out; simp; omega) ?_)
  intro g2 c2 w2 G2 B2 E2 O2
  have hmin : min keep f.stk.length = keep := by omega
  rw [hmin] at G2 ⊢
  have U12 : Below w1.heap.size w1 w2 := ((Below.refl _ _).alloc (Nat.le_refl _) _).trans B2
  have U2 : Below w.heap.size w w2 := below_over U1 U12
  have G2' : GrowV w1.heap.size w2 (.slice (some ⟨g2, 0, none⟩) (f.stk.take keep).length c2) (f.stk.take keep) := by rw [HTL.out]; exact G2
  obtain ⟨cf', Tf', hT2⟩ := HT.out.setStk hB U2 (G2'.vz.weak fun k hk => ⟨Nat.le_trans U1.size hk.1, hk.2⟩)
  have y3 : w2.cell? ⟨G, q * 5 + 3, none⟩ = some (.slice (some ⟨gS, 0, none⟩) f.stk.length cS) := (HT.out.on U2).cell (d := 3) (by omega)
  have z3 := (HT.out.on U2).frz (q * 5 + 3)
  have hBG : B ≤ G := HT.out.own.low G (.inr (.inl (.inl rfl)))
  have hO : Only G w2 (w2.setCell ⟨G, q * 5 + 3, none⟩ (.slice (some ⟨g2, 0, none⟩) keep c2)) := (Only.refl _ _).set _ _
  have I3 : Hid (Cells (w2.setCell ⟨G, q * 5 + 3, none⟩ (.slice (some ⟨g2, 0, none⟩) keep c2)) b5 [.int .i64 17, .int .i64 A, .int .i64 Bi]) := (HI.out.on U2).onlyM hO hb5
  rw [HTL.out] at hT2
  have HT2 : Hid (Tp B M (w2.setCell ⟨G, q * 5 + 3, none⟩ (.slice (some ⟨g2, 0, none⟩) keep c2)) { m with frames := m.frames.set q { f with stk := f.stk.take keep } } (q + 1) q { f with stk := f.stk.take keep } G fcap (.slice (some ⟨g2, 0, none⟩) keep c2) vL vh vs ch cf' Th Tf') := hT2
  have hb3 : Below B w (w2.setCell ⟨G, q * 5 + 3, none⟩ (.slice (some ⟨g2, 0, none⟩) keep c2)) := (U2.mono hB).setCell hBG _
  have hs3 : B ≤ (w2.setCell ⟨G, q * 5 + 3, none⟩ (.slice (some ⟨g2, 0, none⟩) keep c2)).heap.size := Nat.le_trans hB hb3.size
  have HA3 : Hid (SV true 0 (w2.setCell ⟨G, q * 5 + 3, none⟩ (.slice (some ⟨g2, 0, none⟩) keep c2)) (.slice (some ⟨g1, 0, none⟩) (f.stk.drop keep).length c1) (f.stk.drop keep)) :=
    (((HG1.out.vz).on U12).moved (by simp) (fun k hk _ => hO.block k (by have := hk.1; omega))).sv
  have hdn : (f.stk.drop keep).length ≤ 8 := by have := HDL.out; omega
  clear G2 B2 E2 O2 hT2 G2' HT HI HG1 HN1 HS3 U1 U2 U12 hO d3 hbE hbE1 hki hkc hlc hkl hcap
  go_upto_region 24 with fail
  rw [HDL.out] at HA3 hdn
  generalize w2.setCell ⟨G, q * 5 + 3, none⟩ (.slice (some ⟨g2, 0, none⟩) keep c2) = w3 at *
  clear y3 z3
  obtain ⟨i0, hif, hz0, hz1, hz2⟩ := info_parts infoFrame
  have hD : Below w3.heap.size w3 w3.drew := (Below.refl _ _).drew
  have hlen3 : (m.frames.set q { f with stk := f.stk.take keep }).length = q + 1 := HT2.out.len
  have m1d : w3.drew.cell? ⟨M, 1, none⟩ = some (.slice (some ⟨G, 0, none⟩) (q + 1) fcap) := (HT2.out.on hD).cells.g1.1
  have i2d := (I3.out.on hD).g2.1
  have HCA : Hid (Calls Try.prog 83 #[.int .i64 cto, .int .i64 Bi, .slice (some ⟨g1, 0, none⟩) (f.stk.length - keep) c1] w3.drew fun e w' => ∃ x y, e = .returned (.agg #[.int .i64 cto, .int .i64 Bi, .int .i64 0, .slice none 0 0, .slice x 8 y]) ∧ VZ (fun k => w3.drew.heap.size < k ∧ k < w'.heap.size) w' (.slice x 8 y) (frmV (f.stk.drop keep)) ∧ Below w3.drew.heap.size w3.drew w') := by
    have := l8Frame_at 0 cto Bi ⟨g1, 0, none⟩ c1 (f.stk.drop keep) (by rw [HDL.out]; exact hdn) w3.drew (SV.on (by rw [HDL.out]; exact HA3.out) (Keep.of hD))
    rw [HDL.out] at this
    exact this
  have HM1 : Hid (∀ w4, Below w3.drew.heap.size w3.drew w4 → w4.cell? ⟨M, 1, none⟩ = some (.slice (some ⟨G, 0, none⟩) (q + 1) fcap)) := fun w4 hb4 => (HT2.out.on (below_over hD hb4)).cells.g1.1
  have HM2 : Hid (∀ w4 x y, Below w3.drew.heap.size w3.drew w4 → (w4.alloc (.cells #[.int .i64 cto, .int .i64 Bi, .int .i64 0, .slice none 0 0, .slice x 8 y] 49)).cell? ⟨M, 1, none⟩ = some (.slice (some ⟨G, 0, none⟩) (q + 1) fcap)) := fun w4 x y hb4 => ((HT2.out.on (below_over hD hb4)).on ((Below.refl _ _).alloc (Nat.le_refl _) _)).cells.g1.1
  have HOW : Hid (∀ w4 ob, Below w3.drew.heap.size w3.drew w4 → (w4.alloc ob).ownsRow B 49 5 (.slice (some ⟨G, 0, none⟩) (q + 1) fcap) (q + 1) (recs recF (m.frames.set q { f with stk := f.stk.take keep }) cf').flatten) := fun w4 ob hb4 => by
    have := ownOn (ownOn HT2.out.own.f.own (below_over hD hb4)) ((Below.refl _ _).alloc (Nat.le_refl _) ob)
    rw [hlen3] at this
    exact this
  have HCE : Hid (∀ (w4 : World) (x : Option Addr) (y : Nat) (j : Nat) (u : Value), ([.int .i64 cto, .int .i64 Bi, .int .i64 0, .slice none 0 0, .slice x 8 y] : List Value)[j]? = some u → (w4.alloc (.cells #[.int .i64 cto, .int .i64 Bi, .int .i64 0, .slice none 0 0, .slice x 8 y] 49)).cell? ((⟨w4.heap.size, 0, none⟩ : Addr).add j) = some u) := fun w4 x y j u hu => by
    rw [Go.WideShapes.add_plain, Nat.zero_add]
    exact (Cells.new w4 _ rfl [.int .i64 cto, .int .i64 Bi, .int .i64 0, .slice none 0 0, .slice x 8 y] 49 j u hu).1
  have hone : ∀ (x : Option Addr) (y : Nat) (u : Value), u ∈ ([.int .i64 cto, .int .i64 Bi, .int .i64 0, .slice none 0 0, .slice x 8 y] : List Value) → u.oneCell' = true := by simp [Value.oneCell']
  have h63 : q + 1 + 1 ≤ maxLen := by unfold maxLen; omega
  have hby : (q + 1 + 1) * 72 ≤ 140737488355328 := by omega
  have hn0 : q + 1 + 1 ≠ 0 := by omega
  have HBW : Hid (∀ w4 ob, Below w3.drew.heap.size w3.drew w4 → B ≤ (w4.alloc ob).heap.size) := fun w4 ob hb4 => by
    have h4 := hb4.size; have h5 : w3.drew.heap.size = w3.heap.size := rfl
    rw [World.size_alloc]; omega
  have HST : Hid (∀ w4 ob W', Below w3.drew.heap.size w3.drew w4 → (w4.alloc ob).grownBy W' (Value.slice (some ⟨G, 0, none⟩) (q + 1) fcap).ownBlock → W'.cell? ⟨M, 1, none⟩ = some (.slice (some ⟨G, 0, none⟩) (q + 1) fcap) ∧ W'.frozen? ⟨M, 1, none⟩ = false) := fun w4 ob W' hb4 hW' => by
    have hTT := (HT2.out.on (below_over hD hb4)).on ((Below.refl w4.heap.size w4).alloc (Nat.le_refl _) ob)
    have e := hW'.block M hTT.mlt fun e => HT2.out.gm (by simpa [Value.ownBlock] using e.symm)
    exact ⟨(World.cell?_of_block (w := w4.alloc ob) e).trans hTT.cells.g1.1, (World.frozen?_of_block (w := w4.alloc ob) e).trans hTT.cells.g1.2⟩
  apply meetM
  case h =>
    intro hp
    go_region_law (first
      | (go_simp; go_at_call 83; refine HCA.out.mono ?_; rintro e w4 ⟨x, y, rfl, hV, hb4⟩; have m14 := HM1.out w4 hb4; have m15 := HM2.out w4 x y hb4; dsimp only)
      | (refine stepAppAtM _ rfl (.tmp 161) (.tmp 167) 42 rfl B 49 i0 (.agg #[.int .i64 0, .int .i64 0, .int .i64 0, .slice none 0 0, .slice none 0 0]) 5 72 Try.underlying42 hif hz0 hz1 hz2 rfl (by decide) (.slice (some ⟨G, 0, none⟩) (q + 1) fcap) (q + 1) (recs recF (m.frames.set q { f with stk := f.stk.take keep }) cf').flatten (by simp [Act.eval]) (HOW.out _ _ hb4) ⟨w4.heap.size, 0, none⟩ 1 1 [.int .i64 cto, .int .i64 Bi, .int .i64 0, .slice none 0 0, .slice x 8 y] (by simp [Act.eval]) rfl (HCE.out _ _ _) (hone _ _) h63 hby (HBW.out _ _ hb4) ?_; intro v1 w5 hown1 hgr1 hiff1 hat1; obtain ⟨g3, c3, hv1⟩ := own_form hown1 hn0; subst hv1; clear hiff1; obtain ⟨y2, z2⟩ := HST.out _ _ w5 hb4 hgr1; dsimp only))
    all_goals (clear y2 z2 m14 m15; revert w5 g3 c3 x y w4; exact hp)
  intro w4 x y hV hb4 w5 hgr1 g3 c3 hown1 hat1
  have hX4 : Below w3.heap.size w3 w4 := below_over hD hb4
  have hXD : Below w3.heap.size w3 (w4.alloc (.cells #[.int .i64 cto, .int .i64 Bi, .int .i64 0, .slice none 0 0, .slice x 8 y] 49)) := hX4.alloc hX4.size _
  have hM := HT2.out.more hs3 hXD (w' := w5) (v' := .slice (some ⟨g3, 0, none⟩) (q + 1 + 1) c3) (y := .slice x 8 y) (x := ⟨cto, Bi, 0, [], frmV (f.stk.drop keep)⟩) rfl ((hV.on ((Below.refl _ _).alloc (Nat.le_refl _) _)).weak fun k hk => ⟨by have := hk.1; have h5 : w3.drew.heap.size = w3.heap.size := rfl; omega, by have := hk.2; simp; omega⟩) hown1 hgr1 hat1
  have hBM : B ≤ M := HT2.out.low
  have hBZ : Below B w (w5.setCell ⟨M, 1, none⟩ (.slice (some ⟨g3, 0, none⟩) (q + 1 + 1) c3)) := ((hb3.trans (hXD.mono hs3)).grown hgr1 (HBW.out _ _ hb4) (fun k hk => by simp [Value.ownBlock] at hk; subst hk; exact hBG)).setCell hBM _
  dsimp only at hM
  rw [← withTop_set hq] at hM
  have HF := HR.out _ hM hBZ
  clear hown1 hgr1 hat1 HOW HCE HST HM1 HM2 HCA HBW hM hV
  go_wp2_with fail
  exact HF
end Pg
end Go.Proofs.Ytffkkhaiedhaiaa

/- The step, op by op: 20. -/
namespace Go.Proofs.Ytffkkhaiedhaiaa
namespace Pg
open Go.ChangeShapes Go.WideShapes Go.ChangeAt Go.RowKit St Wd

variable {Bp : Nat} {p : Prg} {bp po cap B M : Nat} {m : Mc} {q : Nat} {f : Fr} {own : Meth} {op A Bi : Int} {b2 b6 bi bt G fcap : Nat} {vS vL vh vs vA : Value} {gc cc : Nat} {ch cf : List (List Value)} {Th Tf : Nat → Nat → Nat → Prop} {w0 w : World}
theorem valRefS {v : Vl} (h : valB v = true) : v.1 = 2 → 0 ≤ v.2 := fun e => by
  unfold valB at h
  rw [if_neg (by omega), if_pos e] at h
  simpa using h
set_option maxRecDepth 100000 in
set_option maxHeartbeats 4000000 in
theorem stepOp20 (C : StepC Bp p bp po cap B M m q f own 20 A Bi b2 b6 bi bt G fcap vS vL vh vs vA gc cc ch cf Th Tf w0 w) (R : Ending → World → Prop)
    (hR : ∀ w', MSt B M w' (stepI p m f own (20, A, Bi)).1 → Below B w w' → R (.returned (.int .i64 (stepI p m f own (20, A, Bi)).2)) w') (K : Act → World → Prop) (_hK : ∀ a w', Code.wp Try.prog (c8 [true, true, true, true, true, true, true, true, true, true, true, true, true, true, true]) (bodyPost Try.prog Try.f56 R) a w' → K a w')
    {u0 u3 u4 u14 u15 u16 u17 u18 u19 u20 u21 u22 u23 u24 u25 u26 u27 u28 u29 u30 u31 u32 u33 u34 u35 u36 u37 u38 u39 u40 u41 u42 u43 u44 u45 u46 u47 u48 u49 u50 u51 u52 u53 u54 u55 u56 u57 u58 u59 u60 u61 u62 u63 u64 u65 u66 u67 u68 u69 u70 u71 u72 u73 u74 u75 u76 u77 u78 u79 u80 u81 u82 u83 u84 u85 u86 u87 u88 u89 u90 u91 u92 u93 u94 u95 u96 u97 u98 u99 u100 u101 u102 u103 u104 u105 u106 u107 u108 u109 u110 u111 u112 u113 u114 u115 u116 u117 u118 u119 u120 u121 u122 u123 u124 u125 u126 u127 u128 u129 u130 u131 u132 u133 u134 u135 u136 u137 u138 u139 u140 u141 u142 u143 u144 u145 u146 : Value} : Code.wp Try.prog (c8 [true, true, true, true, true, true, true, true, true, true, true, true, true, true, false]) (Exit.then K (bodyPost Try.prog Try.f56 R)) { tmps := #[u0, .pointer (some ⟨M, 0, none⟩), .pointer (some ⟨b2, 0, none⟩), u3, u4, .pointer (some ⟨G, q * 5, none⟩), .pointer (some ⟨b6, 0, none⟩), .pointer (some ⟨bi, 0, none⟩), .int .i64 (f.stk.length : Int), .int .i64 (takesS 20 : Int), .pointer (some ⟨bt, 0, none⟩), .pointer (some ⟨bt + 1, 0, none⟩), .slice (some ⟨w.heap.size, 0, none⟩) 0 0, undef, u14, u15, u16, u17, u18, u19, u20, u21, u22, u23, u24, u25, u26, u27, u28, u29, u30, u31, u32, u33, u34, u35, u36, u37, u38, u39, u40, u41, u42, u43, u44, u45, u46, u47, u48, u49, u50, u51, u52, u53, u54, u55, u56, u57, u58, u59, u60, u61, u62, u63, u64, u65, u66, u67, u68, u69, u70, u71, u72, u73, u74, u75, u76, u77, u78, u79, u80, u81, u82, u83, u84, u85, u86, u87, u88, u89, u90, u91, u92, u93, u94, u95, u96, u97, u98, u99, u100, u101, u102, u103, u104, u105, u106, u107, u108, u109, u110, u111, u112, u113, u114, u115, u116, u117, u118, u119, u120, u121, u122, u123, u124, u125, u126, u127, u128, u129, u130, u131, u132, u133, u134, u135, u136, u137, u138, u139, u140, u141, u142, u143, u144, u145, u146, undef, undef, undef, undef, undef, undef, undef, undef, undef, undef, undef, undef, undef, undef, undef, undef, undef, undef, undef, undef, undef, undef, undef, undef, undef, undef, undef, undef, undef, undef, undef, undef, undef, undef, undef, undef, undef, undef, undef, undef, undef, undef, undef, undef, undef, undef, undef, undef, undef, undef, undef, undef, undef, undef, undef, undef, undef, undef, undef, undef, undef, undef, undef, undef, undef, undef, undef, undef, undef, undef, undef, undef, undef, undef, undef, undef, undef, undef, undef, undef, undef, undef, undef, undef, undef, undef, undef, undef, undef, undef, undef, undef, undef, undef, undef, undef, undef, undef, undef, undef, undef, undef, undef, undef, undef, undef, undef, undef, undef, undef, undef, undef, undef, undef, undef, undef, undef, undef, undef, undef, undef, undef, undef, undef, undef, undef, undef, undef, undef, undef, undef, undef, undef, undef, undef, undef, undef, undef, undef, undef, undef, undef, undef, undef, undef, undef, undef, undef, undef, undef, undef, undef, undef, undef, undef, undef, undef, undef, undef, undef, undef, undef, undef, undef, undef, undef, undef, undef, undef, undef, undef, undef, undef, undef, undef, undef, undef, undef, undef, undef, undef, undef, undef, undef, undef, undef, undef, undef, undef, undef, undef, undef, undef, undef, undef, undef, undef, undef, undef, undef, undef, undef, undef, undef, undef, undef, undef, undef, undef, undef, undef, undef, undef, undef, undef, undef, undef, undef, undef, undef, undef, undef, undef, undef, undef, undef, undef, undef, undef, undef, undef, undef, undef, undef, undef, undef, undef, undef, undef, undef, undef, undef, undef, undef, undef, undef, undef, undef, undef, undef, undef, undef, undef, undef, undef, undef, undef, undef, undef, undef, undef, undef, undef, undef, undef, undef, undef, undef, undef, undef, undef, undef, undef, undef, undef, undef, undef, undef, undef, undef, undef, undef, undef, undef, undef, undef, undef, undef, undef, undef, undef, undef, undef, undef, undef, undef, undef, undef, undef, undef, undef, undef, undef, undef, undef, undef, undef, undef, undef, undef, undef, undef, undef, undef, undef, undef, undef, undef, undef, undef, undef, undef, undef, undef, undef, undef, undef, undef, undef, undef, undef, undef, undef, undef, undef, undef, undef, undef, undef, undef, undef, undef, undef, undef, undef, undef, undef, undef, undef, undef, undef, undef, undef, undef, undef, undef, undef, undef, undef, undef, undef, undef, undef, undef, undef, undef, undef, undef, undef, undef, undef, undef, undef, undef, undef, undef], defers := [] } (w.alloc (.cells #[] 57)) := by
  have hX : Below w.heap.size w (w.alloc (.cells #[] 57)) := (Below.refl _ _).alloc (Nat.le_refl _) _
  have ci := (C.CI.on hX).g0.1
  have ct0 := (C.CT.on hX).g0.1
  have ct1 := (C.CT.on hX).g1.1
  have p0 := (C.P2.on hX).g0.1
  have c62 := (C.C6.on hX).g2.1
  have HR : Hid (∀ w', MSt B M w' (stepI p m f own (20, A, Bi)).1 → Below B w w' → R (.returned (.int .i64 (stepI p m f own (20, A, Bi)).2)) w') := hR
  clear hR
  have hs1 : 1 ≤ f.stk.length := by have := C.nt; simpa [takesS] using this
  obtain ⟨ah, ch', rfl⟩ := own_any C.T.own.h.own
  have HIS : Hid (Calls Try.prog 91 #[.agg #[.slice (some ⟨bp, po, none⟩) p.length cap], .pointer (some ⟨M, 0, none⟩), .agg #[.int .i64 (topV f.stk).1, .int .i64 (topV f.stk).2], .int .i64 own.gives] (w.alloc (.cells #[] 57)) fun e w' => e = .returned (.bool (isS p m.heap (topV f.stk) own.gives)) ∧ Below (w.alloc (.cells #[] 57)).heap.size (w.alloc (.cells #[] 57)) w') :=
    l8Is_at Bp 0 p (some ⟨bp, po, none⟩) cap C.ok m.heap M ah ch' (topV f.stk) (valRefS (top_ok C.fok.sv hs1)) own.gives (w.alloc (.cells #[] 57)) (SK.on C.skw (Keep.of hX)) (C.TW.on hX).cells.g0.1 (C.TW.on hX).own.h.so
  unfold c8
  conv => arg 2; whnf
  go_wp2_with fail
  refine HIS.out.mono ?_
  rintro e w1 ⟨rfl, hb1⟩
  have hX1 : Below w.heap.size w w1 := below_over hX hb1
  clear HIS hb1 ct0 ct1 p0 c62 ci
  cases hi : isS p m.heap (topV f.stk) own.gives
  · have hsi : stepI p m f own (20, A, Bi) = (m, 6) := by
      simp only [stepI]
      rw [if_neg C.step]
      simp [hi]
    rw [hsi] at HR
    clear hi
    go_wp2_with fail
    exact HR.out _ (C.TW.on hX1).st (hX1.mono (Nat.le_trans C.hB C.b0.size))
  · have hsi : stepI p m f own (20, A, Bi) = giveS m (topV f.stk) := by
      simp only [stepI]
      rw [if_neg C.step]
      simp [hi]
    rw [hsi] at HR
    have ct0 := (C.CT.on hX1).g0.1
    have ct1 := (C.CT.on hX1).g1.1
    have HGI : Hid (Calls Try.prog 93 #[.pointer (some ⟨M, 0, none⟩), .agg #[.int .i64 (topV f.stk).1, .int .i64 (topV f.stk).2]] w1 fun e w' => e = .returned (.int .i64 (giveS m (topV f.stk)).2) ∧ MSt B M w' (giveS m (topV f.stk)).1 ∧ Below B w1 w') :=
      l8Give_at B M m (topV f.stk) w1 (Nat.le_trans (Nat.le_trans C.hB C.b0.size) hX1.size) (C.TW.on hX1).st (by have := C.hq; omega) C.core.f30 (fun g hg => (C.core.fr g hg).s8) (fun g hg => by have := C.poss g hg; omega)
    clear hi
    go_wp2_with fail
    refine HGI.out.mono ?_
    rintro e w2 ⟨rfl, hM2, hb2⟩
    have HM2 : Hid (MSt B M w2 (giveS m (topV f.stk)).1) := hM2
    clear hM2 HGI ct0 ct1
    go_wp2_with fail
    exact HR.out _ HM2.out ((hX1.mono (Nat.le_trans C.hB C.b0.size)).trans hb2)
end Pg
end Go.Proofs.Ytffkkhaiedhaiaa
