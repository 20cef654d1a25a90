/- Contract of the program's Targets. -/
import Derived.Test.YtcbbpmknomhedaaJHi3
import Derived.Test.YtcbbpmknomhedaaJHi4
import Derived.Test.YtcbbpmknomhedaaJSq2
import Derived.Test.YtcbbpmknomhedaaJHi6
namespace Go.Proofs.Ytcbbpmknomhedaa
namespace Pg
open Go.ChangeShapes Go.WideShapes Go.ChangeAt Go.RowKit Go.Shelf St
attribute [local go_sem] Oper.semAt_some

def targA (p : Prg) (c n : Int) : List Int := if okP p && inB p c then targL p c n else []
theorem targL_len (p : Prg) (c n : Int) (h : p.length ≤ 6) : (targL p c n).length ≤ 6 := by
  rw [targL_eq]
  have h1 := foldl_put_len (selsL p n (downL p c)) []
  have h2 := selsL_len p n (downL p c)
  have h3 := downL_len p c h
  simp at h1
  omega
theorem targA_len (p : Prg) (c n : Int) : (targA p c n).length ≤ 24 := by
  unfold targA; split
  · rename_i h
    have := targL_len p c n (okP_len (okIn h).1).2; omega
  · simp
theorem selF_bd (p : Prg) (c n : Int) : selF p c n = -1 ∨ (0 ≤ selF p c n ∧ selF p c n < (p.length : Int)) := by
  unfold selF
  cases h : (upL p c).find? (hasM p n) with
  | none => exact .inl rfl
  | some x => exact .inr (upL_mem (List.mem_of_find?_eq_some h))
theorem room_at {u w : World} {g n : Nat} (hg : w.heap[g]? = u.heap[g]?) (h : Room u g n) : Room w g n := fun i hi => by
  obtain ⟨⟨x, hx⟩, hf⟩ := h i hi
  exact ⟨⟨x, (World.cell?_of_block (w := u) hg).trans hx⟩, (World.frozen?_of_block (w := u) hg).trans hf⟩
theorem Kp.sub {n₀ : Nat} {bs bs' : List Nat} {W W' : World} (h : Kp n₀ bs W W') (hs : ∀ b ∈ bs', b ∈ bs) : Kp n₀ bs' W W' := ⟨h.1, fun b hb hl => h.2 b (hs b hb) hl⟩
theorem grown_below {n₀ g : Nat} {u v : World} (h : u.grownBy v (some g)) (hg : n₀ ≤ g) (hn : n₀ ≤ u.heap.size) : Below n₀ u v := ⟨h.os, h.tape, h.output, h.size, fun k hk => h.block k (by omega) (fun e => by injection e with e; omega)⟩
set_option maxRecDepth 100000 in
set_option maxHeartbeats 4000000 in
theorem implTargets (B : Nat) (p : Prg) (a : Option Addr) (cap : Nat) (t nm : Int) (hsp : SmallP p) (w : World) (hp : SK front B w (.slice a p.length cap) p) :
    Calls Try.prog 7 #[.agg #[.slice a p.length cap], .int .i64 t, .int .i64 nm] w fun e w' => ∃ v, e = .returned v ∧ GInt w.heap.size w' v (targA p t nm) ∧ Below w.heap.size w w' := by
  obtain ⟨i0, hif, hz0, hz1, hz2⟩ := info_parts infoN
  have HP : Hid (SK front B w (.slice a p.length cap) p) := hp
  have HSP : Hid (SmallP p) := hsp
  clear hp hsp
  obtain ⟨V, hV⟩ : ∃ V, V = ((w.alloc (.cells #[.slice a p.length cap] 26)).alloc (.cells #[.int .i64 nm] 2)).alloc (.cells #[] 2) := ⟨_, rfl⟩
  have GV : Hid (Grow w.heap.size V (.slice (some ⟨w.heap.size + 1 + 1, 0, none⟩) 0 0) []) := by
    have h := (grow_start ((w.alloc (.cells #[.slice a p.length cap] 26)).alloc (.cells #[.int .i64 nm] 2))).base' (B' := w.heap.size) (by simp; omega)
    simp only [World.size_alloc] at h
    rw [hV]; exact h
  have HZV : Hid (V.heap.size = w.heap.size + 1 + 1 + 1) := by show _ = _; rw [hV]; simp
  obtain ⟨Y, hY⟩ : ∃ Y, Y = V.alloc (.cells #[.slice (some ⟨w.heap.size + 1 + 1, 0, none⟩) 0 0] 30) := ⟨_, rfl⟩
  have hwY : Below w.heap.size w Y := by rw [hY, hV]; exact ((((Below.refl _ w).alloc (Nat.le_refl _) _).alloc (by simp) _).alloc (by simp; omega) _).alloc (by simp; omega) _
  have PY : Hid (Boxed Y w.heap.size 26 (.slice a p.length cap)) := by rw [hY, hV]; exact (((Boxed.new w _ _).alloc _).alloc _).alloc _
  have NY : Hid (Boxed Y (w.heap.size + 1) 2 (.int .i64 nm)) := by
    have h := ((Boxed.new (w.alloc (.cells #[.slice a p.length cap] 26)) 2 (.int .i64 nm)).alloc (.cells #[] 2)).alloc (.cells #[.slice (some ⟨w.heap.size + 1 + 1, 0, none⟩) 0 0] 30)
    simp only [World.size_alloc] at h
    rw [hY, hV]; exact h
  have AY : Hid (Boxed Y (w.heap.size + 1 + 1 + 1) 30 (.slice (some ⟨w.heap.size + 1 + 1, 0, none⟩) 0 0) ∧ Grow w.heap.size Y (.slice (some ⟨w.heap.size + 1 + 1, 0, none⟩) 0 0) []) := by
    rw [hY]
    refine ⟨?_, GV.out.on ((Below.refl _ _).alloc (Nat.le_refl _) _)⟩
    have h := Boxed.new V 30 (.slice (some ⟨w.heap.size + 1 + 1, 0, none⟩) 0 0)
    rw [HZV.out] at h
    exact h
  refine (callsIn_wide (n := 4)).1 ?_
  refine callsIn_of_wp_marks Try.func7 rfl trivial ?_ rfl
  simp only [Try.ntmps7, List.size_toArray, List.length_cons, List.length_nil, Nat.reduceAdd, Nat.reduceSub, Array.replicate_succ, Array.replicate_zero, List.push_toArray, List.append_toArray, List.nil_append, List.cons_append]
  gi_wp2_with fail
  rw [← hV, ← hY]
  clear hV hY GV HZV
  refine ⟨trivial, ?_⟩
  refine (callsIn_wide.2 (isRightClass B p a cap t HSP.out Y (SK.on HP.out (Keep.of hwY)))).mono ?_
  rintro e w1 ⟨rfl, hb1⟩
  have hw1 : Below w.heap.size w w1 := below_over hwY hb1
  have P1 : Hid (Boxed w1 w.heap.size 26 (.slice a p.length cap)) := (hb1.block _ PY.out.lt).trans PY.out
  have N1 : Hid (Boxed w1 (w.heap.size + 1) 2 (.int .i64 nm)) := (hb1.block _ NY.out.lt).trans NY.out
  have A1 : Hid (Boxed w1 (w.heap.size + 1 + 1 + 1) 30 (.slice (some ⟨w.heap.size + 1 + 1, 0, none⟩) 0 0) ∧ Grow w.heap.size w1 (.slice (some ⟨w.heap.size + 1 + 1, 0, none⟩) 0 0) []) := ⟨(hb1.block _ AY.out.1.lt).trans AY.out.1, AY.out.2.on hb1⟩
  have p1 := P1.out.cell
  clear PY AY NY hb1 hwY
  cases hok : (okP p && inB p t)
  · have HN : Hid (targA p t nm = []) := by show _ = _; unfold targA; rw [hok]; rfl
    have c1 := A1.out.1.cell
    have HG : Hid (Grow w.heap.size w1 (.slice (some ⟨w.heap.size + 1 + 1, 0, none⟩) 0 0) []) := A1.out.2
    gi_wp2
    refine ⟨_, results_tmp rfl _ _ _, _, rfl, by rw [HN.out]; exact HG.out.gint, hw1⟩
  · have HN : Hid (targA p t nm = targL p t nm) := by show _ = _; unfold targA; rw [hok]; rfl
    obtain ⟨hk, h0, h1⟩ := okIn hok
    have h6 := (okP_len hk).2
    have HSU : Hid (SupOk p p.length) := okP_sup hk
    clear hk hok
    have hlw : w.heap.size + 1 + 1 + 1 < w1.heap.size := A1.out.1.lt
    obtain ⟨c, rfl⟩ := Int.eq_ofNat_of_zero_le h0
    have hcp : c < p.length := by omega
    gi_wp2_with (refine ⟨trivial, ?_⟩; gi_at_call 19; refine (downFrom_in _ a p.length cap (c : Int) _).mono ?_; rintro e w' ⟨rfl, rfl⟩)
    have b3 := Boxed.new w1 26 (.slice a p.length cap)
    have b4 := Boxed.new (w1.alloc (.cells #[.slice a p.length cap] 26)) 2 (.int .i64 (c : Int))
    simp only [World.size_alloc] at b4
    have hbZ : Below w1.heap.size w1 ((w1.alloc (.cells #[.slice a p.length cap] 26)).alloc (.cells #[.int .i64 (c : Int)] 2)) := ((Below.refl _ w1).alloc (Nat.le_refl _) _).alloc (by simp) _
    have hB0 : Below w.heap.size w ((w1.alloc (.cells #[.slice a p.length cap] 26)).alloc (.cells #[.int .i64 (c : Int)] 2)) := below_over hw1 hbZ
    have A2 : Hid (BoxN w.heap.size (w.heap.size + 1 + 1 + 1) [w1.heap.size + 1, w1.heap.size, w.heap.size, w.heap.size + 1] ((w1.alloc (.cells #[.slice a p.length cap] 26)).alloc (.cells #[.int .i64 (c : Int)] 2)) []) := ⟨_, (hbZ.block _ A1.out.1.lt).trans A1.out.1, A1.out.2.on hbZ, by simp [Value.ownBlock]; omega⟩
    have hzw := hw1.size
    have P2 : Hid (Boxed ((w1.alloc (.cells #[.slice a p.length cap] 26)).alloc (.cells #[.int .i64 (c : Int)] 2)) w.heap.size 26 (.slice a p.length cap)) := (P1.out.alloc _).alloc _
    have N2 : Hid (Boxed ((w1.alloc (.cells #[.slice a p.length cap] 26)).alloc (.cells #[.int .i64 (c : Int)] 2)) (w.heap.size + 1) 2 (.int .i64 nm)) := (N1.out.alloc _).alloc _
    refine wpIn_rangeFunc_ownF rfl (show 1 ≤ 4 by omega) (gf := 34) (lb := #[.pointer (some ⟨w1.heap.size + 1, 0, none⟩), .pointer (some ⟨w1.heap.size, 0, none⟩)]) rfl trivial (enters_of Try.func34 (by kernel_rfl) rfl)
      (down_stops _ (by omega) (w1.heap.size + 1) w1.heap.size B p a cap c hcp h6 HSU.out w _ HP.out hB0 b4 (b3.alloc _)) kp_t (kp_b (by simp; omega) (by simp; omega)) (Below.refl _ _) (fun _ => rfl)
      (fun pre W => (BoxN w.heap.size (w.heap.size + 1 + 1 + 1) [w1.heap.size + 1, w1.heap.size, w.heap.size, w.heap.size + 1] W (selsL p nm (vals pre)) ∧ w1.heap.size + 1 < W.heap.size ∧ Boxed W w.heap.size 26 (.slice a p.length cap) ∧ Boxed W (w.heap.size + 1) 2 (.int .i64 nm)) ∧ Below w.heap.size w W)
      (fun _ _ _ => False)
      (OwnFrom.and (Own.from (fun s X Y row hs hg hr => ⟨boxN_own w.heap.size (w.heap.size + 1 + 1 + 1) [w1.heap.size + 1, w1.heap.size, w.heap.size, w.heap.size + 1] (fun x : List (Cl p.length) => selsL p nm (vals x)) s X Y row hs.1 hg hr, Nat.lt_of_lt_of_le hs.2.1 hg.size, boxed_own w.heap.size 26 (fun _ : List (Cl p.length) => .slice a p.length cap) s X Y row hs.2.2.1 hg hr, boxed_own (w.heap.size + 1) 2 (fun _ : List (Cl p.length) => .int .i64 nm) s X Y row hs.2.2.2 hg hr⟩) _) (ownFrom_below (Nat.le_refl _) (by simp; omega)))
      (fun _ _ _ _ _ hs _ _ => hs)
      ⟨⟨A2.out, by simp, P2.out, N2.out⟩, hB0⟩
      (fun x => { tmps := #[.agg #[.slice a p.length cap], .int .i64 (c : Int), .int .i64 nm, .pointer (some ⟨w.heap.size, 0, none⟩), undef, .pointer (some ⟨w.heap.size + 1, 0, none⟩), .slice none 0 0, .pointer (some ⟨w.heap.size + 1 + 1 + 1, 0, none⟩), .int .i64 x.1, undef, .slice (some ⟨w.heap.size + 1 + 1, 0, none⟩) 0 0, .agg #[.slice a p.length cap], .int .i64 (c : Int), .bool true, .bool false, undef, .agg #[.slice a p.length cap], .int .i64 (c : Int), .func (.func 34) #[] #[.pointer (some ⟨w1.heap.size + 1, 0, none⟩), .pointer (some ⟨w1.heap.size, 0, none⟩)], .int .i64 x.1, undef, undef, undef, undef, undef, undef, undef, undef, undef, undef, undef, undef, undef, undef], defers := [] }) ?assign ?body ?done ?stop
    case assign =>
      intro l x W K hK
      gi_wp2
      exact hK
    case body =>
      rintro l pre x W ⟨⟨⟨v, hv, hg, hoff⟩, hzW, hbP, hbN⟩, hB⟩ hlt
      clear A2 P2 N2 A1 P1 N1 p1 b3 b4 hbZ hB0
      obtain ⟨g, cp, rfl⟩ := hg.form
      have hcP := hbP.cell
      have hcN := hbN.cell
      have HVS : Hid (selsL p nm (vals (pre ++ [x])) = selsL p nm (vals pre) ++ (if 0 ≤ selF p x.1 nm then [selF p x.1 nm] else [])) := by show _ = _; rw [vals_snoc, selsL_snoc]
      have hlv : (selsL p nm (vals pre)).length < 6 := by
        have h1 := selsL_len p nm (vals pre)
        have h2 : (vals pre).length = pre.length := by simp [vals]
        omega
      generalize selsL p nm (vals pre) = L at *
      gi_wp2_with fail
      refine ⟨trivial, ?_⟩
      refine (CallsIn.inRound l (callsIn_wide.2 (selectedFrom B p a cap x.1 nm (by have := x.2.1; omega) x.2.2 HSP.out h6 HSU.out W (SK.on HP.out (Keep.of hB))))).mono ?_
      rintro e w2 ⟨rfl, hb2⟩
      have hB2 : Below w.heap.size w w2 := below_over hB hb2
      have hv2 : Boxed w2 (w.heap.size + 1 + 1 + 1) 30 (.slice (some ⟨g, 0, none⟩) L.length cp) := (hb2.block _ hv.lt).trans hv
      have hg2 : Grow w.heap.size w2 (.slice (some ⟨g, 0, none⟩) L.length cp) L := hg.on hb2
      have hbP2 : Boxed w2 w.heap.size 26 (.slice a p.length cap) := (hb2.block _ hbP.lt).trans hbP
      have hbN2 : Boxed w2 (w.heap.size + 1) 2 (.int .i64 nm) := (hb2.block _ hbN.lt).trans hbN
      have hz2' : w1.heap.size + 1 < w2.heap.size := Nat.lt_of_lt_of_le hzW hb2.size
      have HK : Hid (KeepsOthers W w2) := keeps_of hb2
      have HKP : Hid (Kp w.heap.size [w1.heap.size + 1, w1.heap.size] W w2) := Kp.on hb2 hB.size
      have hc := hv2.cell
      clear hb2 hv hg hbP hbN hcP hcN hzW
      rcases selF_bd p x.1 nm with hsel | ⟨hs0, hs1⟩
      · have HE : Hid (selsL p nm (vals (pre ++ [x])) = L) := by show _ = _; rw [HVS.out, hsel]; simp
        rw [hsel]
        clear HVS hsel
        gi_wp2
        exact ⟨HK.out, HKP.out, ⟨by rw [HE.out]; exact ⟨_, hv2, hg2, hoff⟩, hz2', hbP2, hbN2⟩, hB2⟩
      · have HE : Hid (selsL p nm (vals (pre ++ [x])) = L ++ [selF p x.1 nm]) := by show _ = _; rw [HVS.out, if_pos hs0]
        have hnb : (selF p x.1 nm != -1) = true := by simp; omega
        generalize selF p x.1 nm = y at *
        clear HVS hs1
        gi_wp2_with (gi_at_builtin; refine wpListIn_append_own_at _ rfl _ _ 30 rfl w.heap.size 2 i0 (.int .i64 0) 1 8 Try.underlying30 hif hz0 hz1 hz2 rfl (by decide) _ _ _ rfl (hg2.1.alloc _) ⟨w2.heap.size, 0, none⟩ 1 1 [.int .i64 y] rfl rfl (cell_one_new _ _ _) (by simp [Value.oneCell']) (by unfold maxLen; omega) (by omega) (by have := hB2.size; simp; omega) ?_; intro v' w3 hown' hgrow hnil hat; obtain ⟨g', cap', rfl⟩ := ownsRow_succ hown'; obtain ⟨hv1, hbn, hkp, hk2, hb3⟩ := boxN_app (x := y) hv2 hg2 hoff (by simp; omega) hB2.size (by omega) hown' hgrow (by simp) hat; have hc1 := hv1.cell; have hf1 := hv1.frozen)
        exact ⟨HK.out.trans hk2, kp_t HKP.out (hkp.sub (by simp)), ⟨by rw [HE.out]; exact hbn, Nat.lt_of_lt_of_le hz2' hb3.size, hkp.boxed (by simp) hbP2, hkp.boxed (by simp) hbN2⟩, hB2.trans hb3⟩
    case done =>
      rintro D ys W hD hys ⟨⟨⟨v, hv, hg, _⟩, _⟩, hB⟩ hK
      obtain ⟨g, cp, rfl⟩ := hg.form
      have hc := hv.cell
      have HL : Hid (selsL p nm (vals ys) = selsL p nm (downL p (c : Int))) := by show _ = _; rw [hys]
      have hl6 : (selsL p nm (vals ys)).length ≤ 12 := by
        rw [HL.out]
        have h1 := selsL_len p nm (downL p (c : Int))
        have h2 := downL_len p (c : Int) h6
        omega
      obtain ⟨hcp2, hgb, cur, hcur⟩ := own_blockT hg.1
      obtain ⟨_, _, hgv, _, hgs, hir, hrm⟩ := hg.gint
      injection hgv with e1 e2 e3
      injection e1 with e1
      injection e1 with e1
      subst e1 e3
      have HIR : Hid (IRow W g 0 (selsL p nm (vals ys))) := hir
      have HRM : Hid (Room W g (selsL p nm (vals ys)).length) := hrm
      have hDg : D ≠ g := fun e => by subst e; rw [hK] at hcur; cases hcur
      have hbAg : w.heap.size + 1 + 1 + 1 ≠ g := fun e => hv.not_row (by decide) hg.1 (by rw [e]; rfl)
      clear A2 P2 N2 A1 P1 N1 p1 b3 b4 hbZ hB0 hir hrm hg hys e2 hcur
      generalize selsL p nm (vals ys) = L at *
      gi_wp2_with fail
      refine ⟨trivial, ?_⟩
      refine (callsIn_wide.2 (slicesSort g cp L hl6 W HIR.out HRM.out)).mono ?_
      rintro e w2 ⟨⟨vv, rfl⟩, s, hsl, hsrt, hsm, hsr, hsM, hsg⟩
      have hv2 : Boxed w2 (w.heap.size + 1 + 1 + 1) 30 (.slice (some ⟨g, 0, none⟩) L.length cp) := (hsg.block _ hv.lt (fun e => by injection e with e; exact hbAg e)).trans hv
      have hK2 : w2.heap[D]? = some (.deferred (some [])) := (hsg.block D (Array.getElem?_eq_some_iff.1 hK).1 (fun e => by injection e with e; exact hDg e)).trans hK
      have hB2 : Below w.heap.size w w2 := hB.trans (grown_below hsg hgb hB.size)
      have HSR : Hid (IRow w2 g 0 s) := hsr
      have HSM : Hid (Room w2 g s.length) := by rw [hsl]; exact hsM
      have HSS : Hid (Srt s s.length) := hsrt
      have HMM : Hid (∀ x, x ∈ s ↔ x ∈ L) := hsm
      have hgs2 : g < w2.heap.size := Nat.lt_of_lt_of_le hgs hsg.size
      rw [← hsl] at hv2 hl6 hcp2
      have hc2 := hv2.cell
      clear hsr hsM hsrt hsm hv hc hK hB hsg HIR HRM hgs hsl
      gi_wp2_with fail
      refine ⟨trivial, ?_⟩
      refine (callsIn_wide.2 (slicesCompact g cp s hl6 hcp2 HSS.out w2 HSR.out HSM.out)).mono ?_
      rintro e w3 ⟨r, rfl, hrise, hrm, hrl, hrr, hrM, hrg⟩
      have hK3 : w3.heap[D]? = some (.deferred (some [])) := (hrg.block D (Array.getElem?_eq_some_iff.1 hK2).1 (fun e => by injection e with e; exact hDg e)).trans hK2
      have hB3 : Below w.heap.size w w3 := hB2.trans (grown_below hrg hgb hB2.size)
      have HR : Hid (r = targL p (c : Int) nm) := targL_of hrise (fun x => by rw [hrm x, HMM.out x, HL.out])
      have HRR : Hid (IRow w3 g 0 r) := hrr
      have HRM : Hid (Room w3 g r.length) := hrM
      have hgs3 : g < w3.heap.size := Nat.lt_of_lt_of_le hgs2 hrg.size
      clear hrr hrM hrm hrise hrg hK2 hB2 HSR HSM HSS HMM hv2 hc2
      gi_wp2
      refine ⟨by simp, .inl ⟨_, _, rfl, run_takeDeferred hK3, ?_⟩⟩
      have hgD : (w3.putObj D (.deferred none)).heap[g]? = w3.heap[g]? := World.putObj_heap_other (Ne.symm hDg)
      refine ⟨_, results_tmp rfl _ _ _, .slice (some ⟨g, 0, none⟩) r.length cp, rfl, ?_, hB3.trans (belowK_b (w := w) (Nat.le_refl _) w3 D _ _ (by simp at hD; omega) hK3 rfl rfl)⟩
      rw [HN.out, ← HR.out]
      refine ⟨g, cp, rfl, hgb, ?_, fun j x hj => (World.cell?_of_block (w := w3) hgD).trans (HRR.out j x hj), room_at hgD HRM.out⟩
      have := (grownBy_putObj' w3 D (.deferred none)).size
      omega
    case stop =>
      rintro D c pre W _ _ h _
      exact h.elim
end Pg
end Go.Proofs.Ytcbbpmknomhedaa

/- Contracts of the other side's putting of a number into a list that rises, and of its Targets. -/
namespace Go.Proofs.Ytcbbpmknomhedaa
namespace Pg
open Go.ChangeShapes Go.WideShapes Go.ChangeAt Go.RowKit St

theorem sels_fold_step (p : Prg) (nm : Int) {l : List Int} {k : Nat} (hk : k < l.length) : (selsL p nm (l.take (k + 1))).foldl putL [] = (if 0 ≤ selF p l[k] nm then putL ((selsL p nm (l.take k)).foldl putL []) (selF p l[k] nm) else (selsL p nm (l.take k)).foldl putL []) := by
  rw [List.take_succ_eq_append_getElem hk, selsL_snoc, List.foldl_append]
  split <;> rfl
set_option maxRecDepth 100000 in
set_option maxHeartbeats 2000000 in
theorem specTargets (B : Nat) (p : Prg) (a : Option Addr) (cap : Nat) (t nm : Int) (hsp : SmallP p) (w : World) (hp : SK front B w (.slice a p.length cap) p) :
    Calls Try.prog 10 #[.agg #[.slice a p.length cap], .int .i64 t, .int .i64 nm] w fun e w' => ∃ v, e = .returned v ∧ Lst w' v (targA p t nm) ∧ Below w.heap.size w w' := by
  have HSP : Hid (SmallP p) := hsp
  have HP : Hid (SK front B w (.slice a p.length cap) p) := hp
  clear hp hsp
  obtain ⟨W, hW⟩ : ∃ W, W = (w.alloc (.cells #[.slice a p.length cap] 26)).alloc (.cells #[] 2) := ⟨_, rfl⟩
  have hwW : Below w.heap.size w W := by rw [hW]; exact ((Below.refl _ _).alloc (Nat.le_refl _) _).alloc (by simp) _
  have P0 : Hid (Cells W w.heap.size [.slice a p.length cap]) := by rw [hW]; exact (Cells.new w _ rfl _ _).alloc _
  have L0 : Hid (Lst W (.slice (some ⟨w.heap.size + 1, 0, none⟩) 0 0) []) := by
    have h := (grow_start (w.alloc (.cells #[.slice a p.length cap] 26))).lst
    simp only [World.size_alloc] at h
    rw [hW]; exact h
  go_enter Try.func10, Try.ntmps10
  go_wp2_with fail
  rw [← hW]
  clear hW
  refine (l4In B p a cap t HSP.out _ (SK.on HP.out (Keep.of hwW))).mono ?_
  rintro e w1 ⟨rfl, hb1⟩
  have hw1 : Below w.heap.size w w1 := below_over hwW hb1
  have L1 : Hid (Lst w1 (.slice (some ⟨w.heap.size + 1, 0, none⟩) 0 0) []) := L0.out.on hb1
  have P1 : Hid (Cells w1 w.heap.size [.slice a p.length cap]) := P0.out.on hb1
  obtain ⟨q0, _⟩ := P1.out.g0
  clear hb1 P0 L0
  cases hok : (okP p && inB p t)
  · have HN : Hid (targA p t nm = []) := by show _ = _; unfold targA; rw [hok]; rfl
    go_wp2
    go_ret
    exact ⟨_, rfl, by rw [HN.out]; exact L1.out, hw1⟩
  · have HN : Hid (targA p t nm = targL p t nm) := by show _ = _; unfold targA; rw [hok]; rfl
    obtain ⟨hk, h0, h1⟩ := okIn hok
    have h6 := (okP_len hk).2
    have HSU : Hid (SupOk p p.length) := okP_sup hk
    clear hk hok
    go_wp2_with fail
    refine (l5Below B p a cap t h6 HSU.out _ (SK.on HP.out (Keep.of hw1))).mono ?_
    rintro e w2 ⟨vb, rfl, hg, hb2⟩
    obtain ⟨gb, cb, rfl, _, _, hib, _⟩ := hg.gint
    have hw2 : Below w.heap.size w w2 := below_over hw1 hb2
    have P2 : Hid (Cells w2 w.heap.size [.slice a p.length cap]) := P1.out.on hb2
    have L2 : Hid (Lst w2 (.slice (some ⟨w.heap.size + 1, 0, none⟩) 0 0) []) := L1.out.on hb2
    have HIB : Hid (IRow w2 gb 0 (downL p t)) := hib
    have hdl := downL_len p t h6
    have HBD : Hid (∀ x ∈ downL p t, 0 ≤ x ∧ x < (p.length : Int)) := fun x hx => by
      have h := (List.mem_filter.1 hx).1
      unfold allC at h
      obtain ⟨k, hk, rfl⟩ := List.mem_map.1 h
      have := List.mem_range.1 hk
      omega
    have HTE : Hid (targL p t nm = (selsL p nm (downL p t)).foldl putL []) := targL_eq p t nm
    generalize downL p t = D at *
    clear hb2 hg hib q0 P1 L1 hw1
    go_wp2
    go_loopw [7, 9] (fun y i wr => ∃ (k : Nat) (v0 : Value), k ≤ D.length ∧ i = .int .i64 (k : Int) ∧ v0 = y ∧ Hid (Lst wr v0 ((selsL p nm (D.take k)).foldl putL [])) ∧ Below w2.heap.size w2 wr) (fun _ i _ => D.length - (intOf i).toNat)
    case atStart => exact ⟨0, _, Nat.zero_le _, rfl, rfl, L2.out, Below.refl _ _⟩
    case round =>
      clear L2
      obtain ⟨k, v0, hk, rfl, rfl, hL, hb⟩ := hrel
      have hwr : Below w.heap.size w wr := below_over hw2 hb
      obtain ⟨g, c, hv, _⟩ := hL.out
      by_cases hlt : k < D.length
      · have hki : (k : Int) < (D.length : Int) := by omega
        have hk0 : (0 : Int) ≤ (k : Int) := by omega
        obtain ⟨p0, _⟩ := (P2.out.on hb).g0
        have c0 := (HIB.out.on hb) k _ (List.getElem?_eq_getElem hlt)
        rw [Nat.zero_add] at c0
        have HST : Hid ((selsL p nm (D.take (k + 1))).foldl putL [] = (if 0 ≤ selF p D[k] nm then putL ((selsL p nm (D.take k)).foldl putL []) (selF p D[k] nm) else (selsL p nm (D.take k)).foldl putL [])) := sels_fold_step p nm hlt
        have hbd := HBD.out D[k] (List.getElem_mem hlt)
        have hll : ((selsL p nm (D.take k)).foldl putL []).length ≤ 12 := by
          have h1 := foldl_put_len (selsL p nm (D.take k)) []
          have h2 := selsL_len p nm (D.take k)
          have h3 : (D.take k).length ≤ k := by rw [List.length_take]; omega
          simp at h1
          omega
        generalize D[k] = x at *
        obtain ⟨hx0, hx1⟩ := hbd
        have e0 := cell_regrown p0
        have e1 := cell_regrown c0
        have cS : ∀ d os, Calls Try.prog 23 #[.agg #[.slice a p.length cap], .int .i64 x, .int .i64 nm] (Sort.grow (redrawn wr d) os) fun e w'' => e = .returned (.int .i64 (selF p x nm)) ∧ ∃ p : Regrown, w'' = Sort.grow (redrawn wr p.d) p.os := by
          intro d os
          exact Calls.regrown_of (l5Selected B p a cap x nm (by omega) hx1 HSP.out h6 HSU.out _ (SK.on HP.out (Keep.of (below_over hwr (below_regrown wr d os)))))
        generalize (selsL p nm (D.take k)).foldl putL [] = L at *
        generalize selF p x nm = sx at *
        subst hv
        go_wp2_with fail
        refine wp_region_quiet_below (by kernel_rfl) (by kernel_rfl) ?_
        repeat (go_big_quiet_step ((go_at_call 23; exact cS _ _)))
        refine wpQuiet_nil ?_
        intro _ hw'
        obtain ⟨⟨dq, osq⟩, hw''⟩ := hw'
        subst hw''
        have hbq := below_regrown wr dq osq
        have hb3 : Below w2.heap.size w2 (Sort.grow (redrawn wr dq) osq) := below_over hb hbq
        have HL3 : Hid (Lst (Sort.grow (redrawn wr dq) osq) (.slice (some ⟨g, 0, none⟩) L.length c) L) := hL.out.on hbq
        clear hb hL hbq p0 c0 e0 e1 cS hwr
        generalize Sort.grow (redrawn wr dq) osq = w3 at *
        by_cases hs : 0 ≤ sx
        · rw [if_pos hs] at HST
          go_wp2_with fail
          refine (l1Put L _ sx (by omega) _ HL3.out).mono ?_
          rintro e w4 ⟨v4, rfl, hl4, hb4⟩
          have hb5 : Below w2.heap.size w2 w4 := below_over hb3 hb4
          have HL4 : Hid (Lst w4 v4 ((selsL p nm (D.take (k + 1))).foldl putL [])) := by rw [HST.out]; exact hl4
          clear hl4 hb4 HL3 hb3
          go_wp2
          go_roundw
          case rel => exact ⟨k + 1, v4, by omega, by go_num, rfl, HL4.out, hb5⟩
          case measure => simp [intOf]; omega
        · rw [if_neg hs] at HST
          have HL4 : Hid (Lst w3 (.slice (some ⟨g, 0, none⟩) L.length c) ((selsL p nm (D.take (k + 1))).foldl putL [])) := by rw [HST.out]; exact HL3.out
          clear HL3
          go_wp2
          go_roundw
          case rel => exact ⟨k + 1, _, by omega, by go_num, rfl, HL4.out, hb3⟩
          case measure => simp [intOf]; omega
      · have hkk : D.take k = D := List.take_of_length_le (by omega)
        have HL4 : Hid (Lst wr v0 (targA p t nm)) := by
          rw [HN.out, HTE.out, ← hkk]; exact hL.out
        have hki : ¬ (k : Int) < (D.length : Int) := by omega
        clear hL hkk
        subst hv
        go_wp2
        go_ret
        exact ⟨_, rfl, HL4.out, hwr⟩
end Pg
end Go.Proofs.Ytcbbpmknomhedaa

/- Contracts of both sides' Under, Lowest and Selected. -/
namespace Go.Proofs.Ytcbbpmknomhedaa
namespace Pg
open Go.ChangeShapes Go.WideShapes Go.ChangeAt Go.RowKit St

def selA (p : Prg) (c n : Int) : Int := if okP p && inB p c then selF p c n else -1

set_option maxHeartbeats 1000000 in
theorem implSelected (B : Nat) (p : Prg) (a : Option Addr) (cap : Nat) (t s : Int) (hsp : SmallP p) (w : World) (hp : SK front B w (.slice a p.length cap) p) :
    Calls Try.prog 6 #[.agg #[.slice a p.length cap], .int .i64 t, .int .i64 s] w fun e w' => e = .returned (.int .i64 (selA p t s)) ∧ Below w.heap.size w w' := by
  have HSP : Hid (SmallP p) := hsp
  have HP : Hid (SK front B w (.slice a p.length cap) p) := hp
  clear hp hsp
  obtain ⟨W, hW⟩ : ∃ W, W = w.alloc (.cells #[.slice a p.length cap] 26) := ⟨_, rfl⟩
  have hwW : Below w.heap.size w W := by rw [hW]; exact (Below.refl _ _).alloc (Nat.le_refl _) _
  have P0 : Hid (Cells W w.heap.size [.slice a p.length cap]) := by rw [hW]; exact Cells.new w _ rfl _ _
  go_enter Try.func6, Try.ntmps6
  go_wp2_with fail
  rw [← hW]
  clear hW
  refine (isRightClass B p a cap t HSP.out _ (SK.on HP.out (Keep.of hwW))).mono ?_
  rintro e w1 ⟨rfl, hb1⟩
  have hw1 : Below w.heap.size w w1 := below_over hwW hb1
  have P1 : Hid (Cells w1 w.heap.size [.slice a p.length cap]) := P0.out.on hb1
  obtain ⟨q0, _⟩ := P1.out.g0
  clear hb1 P0
  cases hok : (okP p && inB p t)
  · have HN : Hid (selA p t s = -1) := by show _ = _; unfold selA; rw [hok]; rfl
    go_wp2
    go_ret
    exact ⟨retI HN.out.symm, hw1⟩
  · have HN : Hid (selA p t s = selF p t s) := by show _ = _; unfold selA; rw [hok]; rfl
    obtain ⟨hk, h0, h1⟩ := okIn hok
    have h6 := (okP_len hk).2
    have HSU : Hid (SupOk p p.length) := okP_sup hk
    clear hk hok
    go_wp2_with fail
    refine (selectedFrom B p a cap t s (by omega) h1 HSP.out h6 HSU.out _ (SK.on HP.out (Keep.of hw1))).mono ?_
    rintro e w2 ⟨rfl, hb2⟩
    have hw2 : Below w.heap.size w w2 := below_over hw1 hb2
    clear hb2 q0
    generalize selF p t s = q at *
    go_wp2
    go_ret
    exact ⟨retI HN.out.symm, hw2⟩
set_option maxHeartbeats 1000000 in
theorem specSelected (B : Nat) (p : Prg) (a : Option Addr) (cap : Nat) (t s : Int) (hsp : SmallP p) (w : World) (hp : SK front B w (.slice a p.length cap) p) :
    Calls Try.prog 8 #[.agg #[.slice a p.length cap], .int .i64 t, .int .i64 s] w fun e w' => e = .returned (.int .i64 (selA p t s)) ∧ Below w.heap.size w w' := by
  have HSP : Hid (SmallP p) := hsp
  have HP : Hid (SK front B w (.slice a p.length cap) p) := hp
  clear hp hsp
  obtain ⟨W, hW⟩ : ∃ W, W = w.alloc (.cells #[.slice a p.length cap] 26) := ⟨_, rfl⟩
  have hwW : Below w.heap.size w W := by rw [hW]; exact (Below.refl _ _).alloc (Nat.le_refl _) _
  have P0 : Hid (Cells W w.heap.size [.slice a p.length cap]) := by rw [hW]; exact Cells.new w _ rfl _ _
  go_enter Try.func8, Try.ntmps8
  go_wp2_with fail
  rw [← hW]
  clear hW
  refine (l4In B p a cap t HSP.out _ (SK.on HP.out (Keep.of hwW))).mono ?_
  rintro e w1 ⟨rfl, hb1⟩
  have hw1 : Below w.heap.size w w1 := below_over hwW hb1
  have P1 : Hid (Cells w1 w.heap.size [.slice a p.length cap]) := P0.out.on hb1
  obtain ⟨q0, _⟩ := P1.out.g0
  clear hb1 P0
  cases hok : (okP p && inB p t)
  · have HN : Hid (selA p t s = -1) := by show _ = _; unfold selA; rw [hok]; rfl
    go_wp2
    go_ret
    exact ⟨retI HN.out.symm, hw1⟩
  · have HN : Hid (selA p t s = selF p t s) := by show _ = _; unfold selA; rw [hok]; rfl
    obtain ⟨hk, h0, h1⟩ := okIn hok
    have h6 := (okP_len hk).2
    have HSU : Hid (SupOk p p.length) := okP_sup hk
    clear hk hok
    go_wp2_with fail
    refine (l5Selected B p a cap t s (by omega) h1 HSP.out h6 HSU.out _ (SK.on HP.out (Keep.of hw1))).mono ?_
    rintro e w2 ⟨rfl, hb2⟩
    have hw2 : Below w.heap.size w w2 := below_over hw1 hb2
    clear hb2 q0
    generalize selF p t s = q at *
    go_wp2
    go_ret
    exact ⟨retI HN.out.symm, hw2⟩
end Pg
end Go.Proofs.Ytcbbpmknomhedaa
