/- The step, op by op: 19, 14. -/
import Derived.Test.YtffkkhaiedhaiaaJMtC
import Derived.Test.YtffkkhaiedhaiaaJSd3
import Derived.Test.YtffkkhaiedhaiaaJMp0
import Derived.Test.YtffkkhaiedhaiaaJMg1
import Derived.Deep.Cut
import Derived.Deep.RegionHeld3
import Derived.Test.YtffkkhaiedhaiaaJMo0
import Derived.Test.YtffkkhaiedhaiaaJHs0
namespace Go.Proofs.Ytffkkhaiedhaiaa
namespace Pg
open Go.ChangeShapes Go.WideShapes Go.ChangeAt Go.RowKit St Wd

variable {Bp : Nat} {p : Prg} {bp po cap B M : Nat} {m : Mc} {q : Nat} {f : Fr} {own : Meth} {op A Bi : Int} {b2 b6 bi bt G fcap : Nat} {vS vL vh vs vA : Value} {gc cc : Nat} {ch cf : List (List Value)} {Th Tf : Nat → Nat → Nat → Prop} {w0 w : World}
theorem own_any {B q n : Nat} {t : TypeId} {v : Value} {xs : List Value} (h : w.ownsRow B t q v n xs) : ∃ a c, v = .slice a n c := by
  obtain ⟨_, ⟨h, h2⟩ | ⟨g, cap, cur, h, _⟩⟩ := h
  · exact ⟨none, 0, by rw [h, h2]⟩
  · exact ⟨_, _, h⟩
theorem stepAppAtM {P : Program} (w : World) {ops : Array Oper} {o : Oper} {a : Act} {K : Act → World → Prop} {Q : Exit → Act → World → Prop} {E : Prop} (hgd : o.guard = none) (s x : Operand) (t : TypeId)
    (ho : o.op = .call { callee := .builtin .append, args := #[s, x], argTypes := #[t, t] })
    (base : Nat) (e : TypeId) (i : TypeInfo) (z : Value) (size bytes : Nat) (ht : P.underlying t = some (.slice e)) (hi : P.info? e = some i) (hz : i.zero = some z)
    (hsize : i.size = size) (hby : i.bytes = bytes) (hzs : z.cells.size = size) (hsz : 0 < size)
    (v : Value) (n : Nat) (xs : List Value) (hs : a.eval s = v) (hown : w.ownsRow base e size v n xs)
    (ad : Addr) (m c : Nat) (news : List Value) (hx : a.eval x = .slice (some ad) m c) (hl : news.length = m * size) (hnews : ∀ j u, news[j]? = some u → w.cell? (ad.add j) = some u) (h1 : ∀ u ∈ news, u.oneCell' = true)
    (h63 : n + m ≤ maxLen) (hbytes : (n + m) * bytes ≤ 140737488355328) (hbase : base ≤ w.heap.size)
    (h : ∀ v' w', w'.ownsRow base e size v' (n + m) (xs ++ news) → w.grownBy w' v.ownBlock → (v' = .slice none 0 0 ↔ v = .slice none 0 0 ∧ m = 0) → (v'.ownBlock = v.ownBlock ∨ v'.ownBlock = some w.heap.size) → K (a.put o.dst v') w') :
    if Region.wanted o (yielded ops a.tmps) = true then Oper.wp P o a w K Q else E := by
  have hw : Region.wanted o (yielded ops a.tmps) = true := by simp [Region.wanted, hgd]
  rw [if_pos hw]
  obtain ⟨v', w', hr, h2, h3, h4, h5⟩ := run_append_own_at (P := P) w base t o.type e i z size bytes ht hi hz hsize hby hzs hsz v n xs hown ad m c news hl hnews h1 h63 hbytes hbase
  unfold Oper.wp
  simp [execOp, ho, resolve, invoke, builtin, hs, hx, hr, Result.andThen]
  exact h v' w' h2 h3 h4 h5
set_option maxRecDepth 100000 in
set_option maxHeartbeats 4000000 in
theorem stepOp19 (C : StepC Bp p bp po cap B M m q f own 19 A Bi b2 b6 bi bt G fcap vS vL vh vs vA gc cc ch cf Th Tf w0 w) (R : Ending → World → Prop)
    (hR : ∀ w', MSt B M w' (stepI p m f own (19, A, Bi)).1 → Below B w w' → R (.returned (.int .i64 (stepI p m f own (19, A, Bi)).2)) w') (K : Act → World → Prop) (hK : ∀ a w', Code.wp Try.prog (c8 [true, true, true, true, true, true, true, true, true, true, true, true, true, true, true]) (bodyPost Try.prog Try.f56 R) a w' → K a w')
    {u0 u3 u4 u14 u15 u16 u17 u18 u19 u20 u21 u22 u23 u24 u25 u26 u27 u28 u29 u30 u31 u32 u33 u34 u35 u36 u37 u38 u39 u40 u41 u42 u43 u44 u45 u46 u47 u48 u49 u50 u51 u52 u53 u54 u55 u56 u57 u58 u59 u60 u61 u62 u63 u64 u65 u66 u67 u68 u69 u70 u71 u72 u73 u74 u75 u76 u77 u78 u79 u80 u81 u82 u83 u84 u85 u86 u87 u88 u89 u90 u91 u92 u93 u94 u95 u96 u97 u98 u99 u100 u101 u102 u103 u104 u105 u106 u107 u108 u109 u110 u111 u112 u113 u114 u115 u116 u117 u118 u119 u120 u121 u122 u123 u124 u125 u126 u127 u128 u129 u130 u131 u132 u133 u134 u135 u136 u137 u138 u139 u140 u141 u142 u143 u144 u145 u146 : Value} : Code.wp Try.prog (c8 [true, true, true, true, true, true, true, true, true, true, true, true, true, true, false]) (Exit.then K (bodyPost Try.prog Try.f56 R)) { tmps := #[u0, .pointer (some ⟨M, 0, none⟩), .pointer (some ⟨b2, 0, none⟩), u3, u4, .pointer (some ⟨G, q * 5, none⟩), .pointer (some ⟨b6, 0, none⟩), .pointer (some ⟨bi, 0, none⟩), .int .i64 (f.stk.length : Int), .int .i64 (takesS 19 : Int), .pointer (some ⟨bt, 0, none⟩), .pointer (some ⟨bt + 1, 0, none⟩), .slice (some ⟨w.heap.size, 0, none⟩) 0 0, undef, u14, u15, u16, u17, u18, u19, u20, u21, u22, u23, u24, u25, u26, u27, u28, u29, u30, u31, u32, u33, u34, u35, u36, u37, u38, u39, u40, u41, u42, u43, u44, u45, u46, u47, u48, u49, u50, u51, u52, u53, u54, u55, u56, u57, u58, u59, u60, u61, u62, u63, u64, u65, u66, u67, u68, u69, u70, u71, u72, u73, u74, u75, u76, u77, u78, u79, u80, u81, u82, u83, u84, u85, u86, u87, u88, u89, u90, u91, u92, u93, u94, u95, u96, u97, u98, u99, u100, u101, u102, u103, u104, u105, u106, u107, u108, u109, u110, u111, u112, u113, u114, u115, u116, u117, u118, u119, u120, u121, u122, u123, u124, u125, u126, u127, u128, u129, u130, u131, u132, u133, u134, u135, u136, u137, u138, u139, u140, u141, u142, u143, u144, u145, u146, undef, undef, undef, undef, undef, undef, undef, undef, undef, undef, undef, undef, undef, undef, undef, undef, undef, undef, undef, undef, undef, undef, undef, undef, undef, undef, undef, undef, undef, undef, undef, undef, undef, undef, undef, undef, undef, undef, undef, undef, undef, undef, undef, undef, undef, undef, undef, undef, undef, undef, undef, undef, undef, undef, undef, undef, undef, undef, undef, undef, undef, undef, undef, undef, undef, undef, undef, undef, undef, undef, undef, undef, undef, undef, undef, undef, undef, undef, undef, undef, undef, undef, undef, undef, undef, undef, undef, undef, undef, undef, undef, undef, undef, undef, undef, undef, undef, undef, undef, undef, undef, undef, undef, undef, undef, undef, undef, undef, undef, undef, undef, undef, undef, undef, undef, undef, undef, undef, undef, undef, undef, undef, undef, undef, undef, undef, undef, undef, undef, undef, undef, undef, undef, undef, undef, undef, undef, undef, undef, undef, undef, undef, undef, undef, undef, undef, undef, undef, undef, undef, undef, undef, undef, undef, undef, undef, undef, undef, undef, undef, undef, undef, undef, undef, undef, undef, undef, undef, undef, undef, undef, undef, undef, undef, undef, undef, undef, undef, undef, undef, undef, undef, undef, undef, undef, undef, undef, undef, undef, undef, undef, undef, undef, undef, undef, undef, undef, undef, undef, undef, undef, undef, undef, undef, undef, undef, undef, undef, undef, undef, undef, undef, undef, undef, undef, undef, undef, undef, undef, undef, undef, undef, undef, undef, undef, undef, undef, undef, undef, undef, undef, undef, undef, undef, undef, undef, undef, undef, undef, undef, undef, undef, undef, undef, undef, undef, undef, undef, undef, undef, undef, undef, undef, undef, undef, undef, undef, undef, undef, undef, undef, undef, undef, undef, undef, undef, undef, undef, undef, undef, undef, undef, undef, undef, undef, undef, undef, undef, undef, undef, undef, undef, undef, undef, undef, undef, undef, undef, undef, undef, undef, undef, undef, undef, undef, undef, undef, undef, undef, undef, undef, undef, undef, undef, undef, undef, undef, undef, undef, undef, undef, undef, undef, undef, undef, undef, undef, undef, undef, undef, undef, undef, undef, undef, undef, undef, undef, undef, undef, undef, undef, undef, undef, undef, undef, undef, undef, undef, undef, undef, undef, undef, undef, undef, undef, undef, undef, undef, undef, undef, undef, undef, undef, undef, undef, undef, undef, undef, undef, undef, undef, undef, undef, undef, undef, undef, undef, undef, undef, undef, undef, undef, undef, undef, undef, undef], defers := [] } (w.alloc (.cells #[] 57)) := by
  have hX : Below w.heap.size w (w.alloc (.cells #[] 57)) := (Below.refl _ _).alloc (Nat.le_refl _) _
  have ci := (C.CI.on hX).g0.1
  have ct0 := (C.CT.on hX).g0.1
  have ct1 := (C.CT.on hX).g1.1
  have HR : Hid (∀ w', MSt B M w' (stepI p m f own (19, A, Bi)).1 → Below B w w' → R (.returned (.int .i64 (stepI p m f own (19, A, Bi)).2)) w') := hR
  clear hR
  by_cases ht : (topV f.stk).1 = 1
  · rw [ht] at ct0
    obtain ⟨aw, cw, rfl⟩ := own_any C.T.own.s
    have m2 : (w.alloc (.cells #[] 57)).cell? ⟨M, 2, none⟩ = some (.slice aw m.said.length cw) := (C.TW.on hX).cells.g2.1
    have h20 := C.core.s20
    by_cases hs : m.said.length = 20000
    · have hsi' : (m.said.length : Int) = 20000 := by omega
      have hbq : ((m.said.length : Int) == 20000) = true := by simp [hsi']
      clear hsi'
      have hsi : stepI p m f own (19, A, Bi) = (m, 6) := by
        simp only [stepI]
        rw [if_neg C.step]
        simp [hs]
      rw [hsi] at HR
      unfold c8
      conv => arg 2; whnf
      go_wp2_with fail
      exact HR.out _ (C.TW.on hX).st (hX.mono (Nat.le_trans C.hB C.b0.size))
    · have hbq : ((m.said.length : Int) == 20000) = false := by simp; omega
      have hsi : stepI p m f own (19, A, Bi) = onS { m with said := m.said ++ [(topV f.stk).2] } f 1 [] (f.pos + 1) := by
        simp only [stepI]
        rw [if_neg C.step]
        simp [ht, hs]
      rw [hsi] at HR
      obtain ⟨i0, hif, hz0, hz1, hz2⟩ := info_parts infoN
      obtain ⟨D, hD⟩ : ∃ D, D = ((w.alloc (.cells #[] 57)).alloc (.cells #[.int .i64 (topV f.stk).2] 2)).drew := ⟨_, rfl⟩
      have hXD : Below w.heap.size w D := by rw [hD]; exact (hX.alloc hX.size _).drew
      have HOW : Hid (D.ownsRow B 2 1 (.slice aw m.said.length cw) m.said.length (nums m.said)) := ownOn C.TW.own.s hXD
      have HCE : Hid (∀ j u, ([.int .i64 (topV f.stk).2] : List Value)[j]? = some u → D.cell? ((⟨w.heap.size + 1, 0, none⟩ : Addr).add j) = some u) := fun j u hu => by
        have hc : Cells D (w.heap.size + 1) [.int .i64 (topV f.stk).2] := by rw [hD]; exact Cells.drewC (Cells.new (w.alloc (.cells #[] 57)) _ (by simp) _ _)
        rw [Go.WideShapes.add_plain, Nat.zero_add]
        exact (hc j u hu).1
      have hMv : (Value.slice aw m.said.length cw).ownBlock ≠ some M := fun e => C.T.ne M (.inr (.inr e)) rfl
      have HST : Hid (∀ W', D.grownBy W' (Value.slice aw m.said.length cw).ownBlock → W'.cell? ⟨M, 2, none⟩ = some (.slice aw m.said.length cw) ∧ W'.frozen? ⟨M, 2, none⟩ = false) := fun W' hW' => by
        have hc := (C.TW.on hXD).cells.g2
        have e := hW'.block M (C.TW.on hXD).mlt fun e => hMv e.symm
        exact ⟨(World.cell?_of_block (w := D) e).trans hc.1, (World.frozen?_of_block (w := D) e).trans hc.2⟩
      have hBD : B ≤ D.heap.size := Nat.le_trans (Nat.le_trans C.hB C.b0.size) hXD.size
      have HD : Hid (D = ((w.alloc (.cells #[] 57)).alloc (.cells #[.int .i64 (topV f.stk).2] 2)).drew) := hD
      have m2d : (w.alloc (.cells #[] 57)).drew.cell? ⟨M, 2, none⟩ = some (.slice aw m.said.length cw) := (C.TW.on hX.drew).cells.g2.1
      have ct1d := (C.CT.on hX.drew).g1.1
      have hone : ∀ u ∈ ([.int .i64 (topV f.stk).2] : List Value), u.oneCell' = true := by simp [Value.oneCell']
      have h63 : m.said.length + 1 ≤ maxLen := by unfold maxLen; omega
      have hby : (m.said.length + 1) * 8 ≤ 140737488355328 := by omega
      have hn0 : m.said.length + 1 ≠ 0 := by omega
      have m2b : ((w.alloc (.cells #[] 57)).alloc (.cells #[.int .i64 (topV f.stk).2] 2)).cell? ⟨M, 2, none⟩ = some (.slice aw m.said.length cw) := (C.TW.on (hX.alloc hX.size _)).cells.g2.1
      clear hD
      unfold c8
      conv => arg 2; whnf
      go_upto_region 46 with fail
      apply meetM
      case h => intro hp; go_region_law (first
        | (rw [← HD.out]; refine stepAppAtM _ rfl (.tmp 245) (.tmp 248) 27 rfl B 2 i0 (.int .i64 0) 1 8 Try.underlying27 hif hz0 hz1 hz2 rfl (by decide) (.slice aw m.said.length cw) m.said.length (nums m.said) (by simp [Act.eval]) HOW.out ⟨w.heap.size + 1, 0, none⟩ 1 1 [.int .i64 (topV f.stk).2] (by simp [Act.eval]) rfl HCE.out hone h63 hby hBD ?_; intro v1 w1 hown1 hgr1 hiff1 hat1; obtain ⟨g1, c1, hv1⟩ := own_form hown1 hn0; subst hv1; clear hiff1; obtain ⟨y2, z2⟩ := HST.out w1 hgr1; dsimp only)); all_goals (clear y2 z2; revert g1 c1 w1 hown1 hgr1 hat1; exact hp)
      intro w1 hgr1 g1 c1 hown1 hat1
      have hsl : (m.said ++ [(topV f.stk).2]).length = m.said.length + 1 := by simp
      have HTZ : Hid (Tp B M (w1.setCell ⟨M, 2, none⟩ (.slice (some ⟨g1, 0, none⟩) (m.said.length + 1) c1)) { m with said := m.said ++ [(topV f.stk).2] } (q + 1) q f G fcap vS vL vh (.slice (some ⟨g1, 0, none⟩) (m.said.length + 1) c1) ch cf Th Tf) :=
        C.TW.say (Nat.le_trans C.hB C.b0.size) hXD (by rw [hsl]; simpa [nums] using hown1) hgr1 hat1
      have hO : Only M w1 (w1.setCell ⟨M, 2, none⟩ (.slice (some ⟨g1, 0, none⟩) (m.said.length + 1) c1)) := (Only.refl _ _).set _ _
      have hoff : ∀ k, w0.heap.size ≤ k → some k ≠ (Value.slice aw m.said.length cw).ownBlock := fun k hk e => by have := C.T.own.lt k (.inr (.inr e.symm)); omega
      have hMl : M < w0.heap.size := C.T.mlt
      have IZ : Hid (Cells (w1.setCell ⟨M, 2, none⟩ (.slice (some ⟨g1, 0, none⟩) (m.said.length + 1) c1)) bi [.int .i64 19, .int .i64 A, .int .i64 Bi]) := ((C.CI.on hXD).grown hgr1 (hoff bi C.li)).onlyM hO (by have := C.li; omega)
      have TZ : Hid (Cells (w1.setCell ⟨M, 2, none⟩ (.slice (some ⟨g1, 0, none⟩) (m.said.length + 1) c1)) bt [.int .i64 (topV f.stk).1, .int .i64 (topV f.stk).2]) := ((C.CT.on hXD).grown hgr1 (hoff bt C.lt)).onlyM hO (by have := C.lt; omega)
      have hBZ : Below B w (w1.setCell ⟨M, 2, none⟩ (.slice (some ⟨g1, 0, none⟩) (m.said.length + 1) c1)) := ((hXD.mono (Nat.le_trans C.hB C.b0.size)).grown hgr1 hBD (fun k hk => C.T.own.low k (.inr (.inr hk)))).setCell C.T.low _
      have hsZ := Nat.le_trans (Nat.le_trans C.hB C.b0.size) hBZ.size
      clear hown1 hgr1 hat1 HOW HCE HST hO
      go_wp2_with fail
      refine stepTail B M { m with said := m.said ++ [(topV f.stk).2] } q f G fcap vS vL vh _ ch cf Th Tf (w1.setCell ⟨M, 2, none⟩ (.slice (some ⟨g1, 0, none⟩) (m.said.length + 1) c1)) hsZ HTZ.out C.hq 19 A Bi bi bt (topV f.stk) IZ.out TZ.out (by have := C.glt; have := C.li; omega) (by have := C.glt; have := C.lt; omega) (takesS 19) C.nt C.fok.s8 w.heap.size 0 [] ⟨_, _, rfl, fun _ e => by simp at e, fun h => by simp at h⟩ (by simp) C.pos R ?_
      intro w' hM hb'
      exact HR.out w' (by simpa [takesS] using hM) (hBZ.trans hb')
  · have hbt : ((topV f.stk).1 != 1) = true := by simp [ht]
    have hsi : stepI p m f own (19, A, Bi) = (m, 6) := by
      simp only [stepI]
      rw [if_neg C.step]
      simp [ht]
    rw [hsi] at HR
    unfold c8
    conv => arg 2; whnf
    go_wp2_with fail
    exact HR.out _ (C.TW.on hX).st (hX.mono (Nat.le_trans C.hB C.b0.size))
end Pg
end Go.Proofs.Ytffkkhaiedhaiaa

/- A machine copied: the specification's l8Copy. -/
namespace Go.Proofs.Ytffkkhaiedhaiaa
namespace Pg
open Go.ChangeShapes Go.WideShapes Go.ChangeAt Go.RowKit St Wd

/-- Nothing from the second bound's blocks on below has turned. -/
theorem Keep2.of {B N : Nat} {u w : World} (h : Below N u w) (hN : u.heap.size ≤ N) : Keep B u w := ⟨h.size, fun k _ hl => h.block k (by omega)⟩
theorem five_below {N k : Nat} {u w : World} (h : Below N u w) (hk : N ≤ k) (v0 v1 v2 v3 v4 : Value) : Below N u (((((w.setCell ⟨k, 0, none⟩ v0).setCell ⟨k, 1, none⟩ v1).setCell ⟨k, 2, none⟩ v2).setCell ⟨k, 3, none⟩ v3).setCell ⟨k, 4, none⟩ v4) :=
  ((((h.setCell (p := ⟨k, 0, none⟩) hk _).setCell (p := ⟨k, 1, none⟩) hk _).setCell (p := ⟨k, 2, none⟩) hk _).setCell (p := ⟨k, 3, none⟩) hk _).setCell (p := ⟨k, 4, none⟩) hk _
theorem five_cells {k : Nat} {w : World} {a b c d e : Value} (h : Cells w k [a, b, c, d, e]) (v0 v1 v2 v3 v4 : Value) : Cells (((((w.setCell ⟨k, 0, none⟩ v0).setCell ⟨k, 1, none⟩ v1).setCell ⟨k, 2, none⟩ v2).setCell ⟨k, 3, none⟩ v3).setCell ⟨k, 4, none⟩ v4) k [v0, v1, v2, v3, v4] :=
  ((((h.set 0 v0).set 1 v1).set 2 v2).set 3 v3).set 4 v4
theorem five_own {B q n k g o c : Nat} {e : TypeId} {w : World} {xs : List Value} (h : w.ownsRow B e q (.slice (some ⟨g, o, none⟩) n c) n xs) (hk : k ≠ g) (v0 v1 v2 v3 v4 : Value) : (((((w.setCell ⟨k, 0, none⟩ v0).setCell ⟨k, 1, none⟩ v1).setCell ⟨k, 2, none⟩ v2).setCell ⟨k, 3, none⟩ v3).setCell ⟨k, 4, none⟩ v4).ownsRow B e q (.slice (some ⟨g, o, none⟩) n c) n xs :=
  own_moved h fun j hj => by
    obtain rfl : g = j := by simpa [Value.ownBlock] using hj
    rw [set_blocks _ _ _ _ hk, set_blocks _ _ _ _ hk, set_blocks _ _ _ _ hk, set_blocks _ _ _ _ hk, set_blocks _ _ _ _ hk]
set_option maxRecDepth 100000 in
set_option maxHeartbeats 8000000 in
/-- The copy's first part: what is said, in a machine anew. -/
theorem l8Copy_at (B0 : Nat) (m : Mc) (hcore : Core m) (ah afr va : Option Addr) (chh cfr cva : Nat) (w : World) (hk : KV true B0 w (.slice ah m.heap.length chh) (.slice afr m.frames.length cfr) (.slice va m.said.length cva) m) :
    Calls Try.prog 55 #[.agg #[.slice ah m.heap.length chh, .slice afr m.frames.length cfr, .slice va m.said.length cva, .int .i64 m.fin, .int .i64 m.code]] w fun e w' => ∃ vh' vf' vs' ch cf Th Tf, e = .returned (.agg #[vh', vf', vs', .int .i64 m.fin, .int .i64 m.code]) ∧ MOwn w.heap.size w' vh' vf' vs' m ch cf Th Tf ∧ Below w.heap.size w w' := by
  obtain ⟨W, hW⟩ : ∃ W, W = (w.alloc (.cells #[.slice ah m.heap.length chh, .slice afr m.frames.length cfr, .slice va m.said.length cva, .int .i64 m.fin, .int .i64 m.code] 44)).alloc (.cells #[.slice none 0 0, .slice none 0 0, .slice none 0 0, .int .i64 0, .int .i64 0] 44) := ⟨_, rfl⟩
  have hwW : Below w.heap.size w W := by rw [hW]; exact ((Below.refl _ _).alloc (Nat.le_refl _) _).alloc (by simp) _
  have I0 : Hid (Cells W w.heap.size [.slice ah m.heap.length chh, .slice afr m.frames.length cfr, .slice va m.said.length cva, .int .i64 m.fin, .int .i64 m.code]) := by rw [hW]; exact (Cells.new w _ rfl _ _).alloc _
  have R0 : Hid (Cells W (w.heap.size + 1) [.slice none 0 0, .slice none 0 0, .slice none 0 0, .int .i64 0, .int .i64 0]) := by rw [hW]; exact Cells.new (w.alloc _) _ (by simp) _ _
  have HZ : W.heap.size = w.heap.size + 2 := by rw [hW]; simp
  have HALL : Hid (∀ x, Below (w.heap.size + 2) W x → x.cell? ⟨w.heap.size, 2, none⟩ = some (.slice va m.said.length cva) ∧ x.cell? ⟨w.heap.size, 3, none⟩ = some (.int .i64 m.fin) ∧ x.cell? ⟨w.heap.size, 4, none⟩ = some (.int .i64 m.code)) := fun x hx => by
    have h := I0.out.on (by rw [HZ]; exact hx)
    exact ⟨h.g2.1, h.g3.1, h.g4.1⟩
  have HSI : Hid (SI true B0 W (.slice va m.said.length cva) m.said) := SI.on hk.2.2 (Keep.of hwW)
  have hs2 : m.said.length ≤ 30000 := by have := hcore.s20; omega
  have HKV : Hid (KV true B0 w (.slice ah m.heap.length chh) (.slice afr m.frames.length cfr) (.slice va m.said.length cva) m) := hk
  clear hk
  go_enter Try.func55, Try.ntmps55
  go_upto_region 1 with fail
  rw [← hW]
  clear hW
  go_cut [3] from 7 to 15 (fun v u => ∃ ba : Nat, v = .pointer (some ⟨ba, 0, none⟩) ∧ ∃ g1 c1, Hid (Cells u ba [.slice none 0 0, .slice none 0 0, .slice (some ⟨g1, 0, none⟩) m.said.length c1, .int .i64 m.fin, .int .i64 m.code]) ∧ Hid (u.ownsRow (w.heap.size + 2) 2 1 (.slice (some ⟨g1, 0, none⟩) m.said.length c1) m.said.length (nums m.said)) ∧ ba ≠ g1 ∧ w.heap.size + 2 ≤ ba ∧ Below (w.heap.size + 2) W u)
  case first =>
    have hq0 : Below (w.heap.size + 2) W W.drew := (Below.refl _ _).drew
    have hz0 : w.heap.size + 2 ≤ W.drew.heap.size := by rw [← HZ]; exact Nat.le_refl _
    refine wp_region_held_drew (S := (fun x => x.cell? ⟨w.heap.size, 2, none⟩ = some (.slice va m.said.length cva) ∧ x.cell? ⟨w.heap.size, 3, none⟩ = some (.int .i64 m.fin) ∧ x.cell? ⟨w.heap.size, 4, none⟩ = some (.int .i64 m.code))) (by kernel_rfl) (HALL.out _ hq0) (fun hHeld => ?_)
    generalize W.drew = Q0 at hq0 hz0 hHeld ⊢
    refine wpAnyH_take (i := 1) (v := ?_) rfl (by kernel_rfl) (by kernel_rfl) (by kernel_rfl) (fun _ _ _ h => h) (Or.inl ⟨by rfl, ?_⟩) hHeld ?_
    rotate_left 1
    · intro w' hSw
      obtain ⟨y1, y2, y3⟩ := hSw
      go_simp
      try with_reducible rfl
    simp only [Act.put, List.getElem_toArray]
    refine wpAnyH_take (i := 2) (v := ?_) rfl (by kernel_rfl) (by kernel_rfl) (by kernel_rfl) (fun _ _ _ h => h) (Or.inl ⟨by rfl, ?_⟩) hHeld ?_
    rotate_left 1
    · intro w' hSw
      obtain ⟨y1, y2, y3⟩ := hSw
      go_simp
      try with_reducible rfl
    simp only [Act.put, List.getElem_toArray, List.getElem_cons_zero, List.getElem_cons_succ]
    refine wpAnyH_take (i := 4) (v := ?_) rfl (by kernel_rfl) (by kernel_rfl) (by kernel_rfl) (fun _ _ _ h => h) (Or.inl ⟨by rfl, ?_⟩) hHeld ?_
    rotate_left 1
    · intro w' hSw
      obtain ⟨y1, y2, y3⟩ := hSw
      go_simp
      try with_reducible rfl
    simp only [Act.put, List.getElem_toArray, List.getElem_cons_zero, List.getElem_cons_succ]
    refine wpAnyH_take (i := 5) (v := ?_) rfl (by kernel_rfl) (by kernel_rfl) (by kernel_rfl) (fun _ _ _ h => h) (Or.inl ⟨by rfl, ?_⟩) hHeld ?_
    rotate_left 1
    · intro w' hSw
      obtain ⟨y1, y2, y3⟩ := hSw
      go_simp
      try with_reducible rfl
    simp only [Act.put, List.getElem_toArray, List.getElem_cons_zero, List.getElem_cons_succ]
    refine wpAnyH_take (i := 6) (v := ?_) rfl (by kernel_rfl) (by kernel_rfl) (by kernel_rfl) (fun _ _ _ h => h) (Or.inl ⟨by rfl, ?_⟩) hHeld ?_
    rotate_left 1
    · intro w' hSw
      obtain ⟨y1, y2, y3⟩ := hSw
      go_simp
      try with_reducible rfl
    simp only [Act.put, List.getElem_toArray, List.getElem_cons_zero, List.getElem_cons_succ]
    refine wpAnyH_take (i := 7) (v := ?_) rfl (by kernel_rfl) (by kernel_rfl) (by kernel_rfl) (fun _ _ _ h => h) (Or.inl ⟨by rfl, ?_⟩) hHeld ?_
    rotate_left 1
    · intro w' hSw
      obtain ⟨y1, y2, y3⟩ := hSw
      go_simp
      try with_reducible rfl
    simp only [Act.put, List.getElem_toArray, List.getElem_cons_zero, List.getElem_cons_succ]
    refine wpAnyH_ready (rs := [0, 9]) (by kernel_rfl) (by simp) ?_
    refine AllReadyH.cons rfl (fun K hK => ?_) (AllReadyH.cons rfl (fun K hK => ?_) AllReadyH.nil)
    · go_simp
      have hq1 : Below (w.heap.size + 2) W (Q0.alloc (.cells #[] 2)) := hq0.alloc hz0 _
      have GN : Grow (w.heap.size + 2) (Q0.alloc (.cells #[] 2)) (.slice (some ⟨Q0.heap.size, 0, none⟩) 0 0) [] := (grow_start Q0).base' hz0
      have hz1 : w.heap.size + 2 ≤ (Q0.alloc (.cells #[] 2)).heap.size := Nat.le_trans hz0 (by simp)
      have hnl : Q0.heap.size < (Q0.alloc (.cells #[] 2)).heap.size := by simp
      refine hK.out _ _ (HALL.out _ hq1) (fun hHeld => ?_)
      clear hK K
      obtain ⟨gn, hgn⟩ : ∃ gn, gn = Q0.heap.size := ⟨_, rfl⟩
      rw [← hgn] at GN hnl ⊢
      generalize Q0.alloc (.cells #[] 2) = Q1 at *
      clear hgn
      refine wpAnyH_ready (rs := [3, 9]) (by kernel_rfl) (by simp) ?_
      refine AllReadyH.cons rfl (fun K hK => ?_) (AllReadyH.cons rfl (fun K hK => ?_) AllReadyH.nil)
      · refine stepGrowI _ rfl (.tmp 7) (.tmp 9) rfl (w.heap.size + 2) gn 0 (by simp [Act.eval]) GN hz1 va cva B0 m.said (by simp [Act.eval]) (SI.on HSI.out (Keep2.of hq1 (Nat.le_of_eq HZ))) hs2 ?_
        intro g1 c1 Q2 G1 B1 E1 O1
        have hq2 : Below (w.heap.size + 2) W Q2 := hq1.trans B1
        have hz2 : w.heap.size + 2 ≤ Q2.heap.size := Nat.le_trans hz1 B1.size
        refine hK.out _ _ (HALL.out _ hq2) (fun hHeld => ?_)
        clear hK K
        simp only [Act.put, List.getElem_toArray, List.getElem_cons_zero, List.getElem_cons_succ]
        refine wpAnyH_take (i := 8) (v := ?_) rfl (by kernel_rfl) (by kernel_rfl) (by kernel_rfl) (fun _ _ _ h => h) (Or.inl ⟨by rfl, ?_⟩) hHeld ?_
        rotate_left 1
        · intro w' hSw
          obtain ⟨y1, y2, y3⟩ := hSw
          go_simp
          try with_reducible rfl
        simp only [Act.put, List.getElem_toArray, List.getElem_cons_zero, List.getElem_cons_succ]
        refine wpAnyH_ready (rs := [9]) (by kernel_rfl) (by simp) ?_
        refine AllReadyH.cons rfl (fun K hK => ?_) AllReadyH.nil
        have G1o := G1
        go_simp
        have hq3 : Below (w.heap.size + 2) W (Q2.alloc (.cells #[.slice none 0 0, .slice none 0 0, .slice none 0 0, .int .i64 0, .int .i64 0] 44)) := hq2.alloc hz2 _
        have hz3 : w.heap.size + 2 ≤ (Q2.alloc (.cells #[.slice none 0 0, .slice none 0 0, .slice none 0 0, .int .i64 0, .int .i64 0] 44)).heap.size := Nat.le_trans hz2 (by simp)
        have NCa : Cells (Q2.alloc (.cells #[.slice none 0 0, .slice none 0 0, .slice none 0 0, .int .i64 0, .int .i64 0] 44)) Q2.heap.size [.slice none 0 0, .slice none 0 0, .slice none 0 0, .int .i64 0, .int .i64 0] := Cells.new Q2 _ rfl _ _
        have hba := hz2
        have hbr : Below Q2.heap.size Q2 (Q2.alloc (.cells #[.slice none 0 0, .slice none 0 0, .slice none 0 0, .int .i64 0, .int .i64 0] 44)) := (Below.refl _ _).alloc (Nat.le_refl _) _
        have G1 := growOn G1 hbr
        have hag : Q2.heap.size ≠ g1 := by have := (G1o.1.lt g1 rfl).2; omega
        refine hK.out _ _ (HALL.out _ hq3) (fun hHeld => ?_)
        clear hK K hbr
        obtain ⟨ba, hbae⟩ : ∃ ba, ba = Q2.heap.size := ⟨_, rfl⟩
        rw [← hbae] at NCa hba hag ⊢
        generalize Q2.alloc (.cells #[.slice none 0 0, .slice none 0 0, .slice none 0 0, .int .i64 0, .int .i64 0] 44) = Q3 at *
        clear hbae
        obtain ⟨n0, f0⟩ := NCa.g0
        obtain ⟨n1, f1⟩ := NCa.g1
        obtain ⟨n2, f2⟩ := NCa.g2
        obtain ⟨n3, f3⟩ := NCa.g3
        obtain ⟨n4, f4⟩ := NCa.g4
        have hbE := five_below hq3 hba (.slice none 0 0) (.slice none 0 0) (.slice (some ⟨g1, 0, none⟩) m.said.length c1) (.int .i64 m.fin) (.int .i64 m.code)
        have C6 := five_cells NCa (.slice none 0 0) (.slice none 0 0) (.slice (some ⟨g1, 0, none⟩) m.said.length c1) (.int .i64 m.fin) (.int .i64 m.code)
        have G6 := five_own G1.1 hag (.slice none 0 0) (.slice none 0 0) (.slice (some ⟨g1, 0, none⟩) m.said.length c1) (.int .i64 m.fin) (.int .i64 m.code)
        refine wpAnyH_ready (rs := [10]) (by kernel_rfl) (by simp) ?_
        refine AllReadyH.cons rfl (fun K hK => ?_) AllReadyH.nil
        go_simp
        refine hK.out _ _ (HALL.out _ hbE) (fun hHeld => ?_)
        clear hK K
        refine wpAnyH_done (by kernel_rfl) ?_ _
        clear hHeld n0 n1 n2 n3 n4 f0 f1 f2 f3 f4
        generalize ((((Q3.setCell ⟨ba, 0, none⟩ (.slice none 0 0)).setCell ⟨ba, 1, none⟩ (.slice none 0 0)).setCell ⟨ba, 2, none⟩ (.slice (some ⟨g1, 0, none⟩) m.said.length c1)).setCell ⟨ba, 3, none⟩ (.int .i64 m.fin)).setCell ⟨ba, 4, none⟩ (.int .i64 m.code) = QE at *
        go_wp2_with fail
        go_meet
        exact ⟨ba, rfl, g1, c1, C6, G6, hag, hba, hbE⟩
      · go_simp
        have hq2 : Below (w.heap.size + 2) W (Q1.alloc (.cells #[.slice none 0 0, .slice none 0 0, .slice none 0 0, .int .i64 0, .int .i64 0] 44)) := hq1.alloc hz1 _
        have hz2 : w.heap.size + 2 ≤ (Q1.alloc (.cells #[.slice none 0 0, .slice none 0 0, .slice none 0 0, .int .i64 0, .int .i64 0] 44)).heap.size := Nat.le_trans hz1 (by simp)
        have NCa : Cells (Q1.alloc (.cells #[.slice none 0 0, .slice none 0 0, .slice none 0 0, .int .i64 0, .int .i64 0] 44)) Q1.heap.size [.slice none 0 0, .slice none 0 0, .slice none 0 0, .int .i64 0, .int .i64 0] := Cells.new Q1 _ rfl _ _
        have hba := hz1
        have hbr : Below Q1.heap.size Q1 (Q1.alloc (.cells #[.slice none 0 0, .slice none 0 0, .slice none 0 0, .int .i64 0, .int .i64 0] 44)) := (Below.refl _ _).alloc (Nat.le_refl _) _
        have GN := growOn GN hbr
        have hbn : Q1.heap.size ≠ gn := by omega
        have hnl : gn < (Q1.alloc (.cells #[.slice none 0 0, .slice none 0 0, .slice none 0 0, .int .i64 0, .int .i64 0] 44)).heap.size := by simp; omega
        refine hK.out _ _ (HALL.out _ hq2) (fun hHeld => ?_)
        clear hK K hbr
        obtain ⟨ba, hbae⟩ : ∃ ba, ba = Q1.heap.size := ⟨_, rfl⟩
        rw [← hbae] at NCa hba hbn ⊢
        generalize Q1.alloc (.cells #[.slice none 0 0, .slice none 0 0, .slice none 0 0, .int .i64 0, .int .i64 0] 44) = Q2 at *
        clear hbae
        refine wpAnyH_ready (rs := [3]) (by kernel_rfl) (by simp) ?_
        refine AllReadyH.cons rfl (fun K hK => ?_) AllReadyH.nil
        refine stepGrowI _ rfl (.tmp 7) (.tmp 9) rfl (w.heap.size + 2) gn 0 (by simp [Act.eval]) GN hz2 va cva B0 m.said (by simp [Act.eval]) (SI.on HSI.out (Keep2.of hq2 (Nat.le_of_eq HZ))) hs2 ?_
        intro g1 c1 Q3 G1 B1 E1 O1
        have hq3 : Below (w.heap.size + 2) W Q3 := hq2.trans B1
        have hz3 : w.heap.size + 2 ≤ Q3.heap.size := Nat.le_trans hz2 B1.size
        have hbl : ba < Q2.heap.size := cell_lt NCa.g0.1
        have NCc : Cells Q3 ba [.slice none 0 0, .slice none 0 0, .slice none 0 0, .int .i64 0, .int .i64 0] := fun i x hx => ⟨(World.cell?_of_block (w := Q2) (E1 ba hbn hbl)).trans (NCa i x hx).1, (World.frozen?_of_block (w := Q2) (E1 ba hbn hbl)).trans (NCa i x hx).2⟩
        have hag : ba ≠ g1 := by rcases O1 with e | e <;> omega
        refine hK.out _ _ (HALL.out _ hq3) (fun hHeld => ?_)
        clear hK K
        simp only [Act.put, List.getElem_toArray, List.getElem_cons_zero, List.getElem_cons_succ]
        refine wpAnyH_take (i := 8) (v := ?_) rfl (by kernel_rfl) (by kernel_rfl) (by kernel_rfl) (fun _ _ _ h => h) (Or.inl ⟨by rfl, ?_⟩) hHeld ?_
        rotate_left 1
        · intro w' hSw
          obtain ⟨y1, y2, y3⟩ := hSw
          go_simp
          try with_reducible rfl
        simp only [Act.put, List.getElem_toArray, List.getElem_cons_zero, List.getElem_cons_succ]
        obtain ⟨n0, f0⟩ := NCc.g0
        obtain ⟨n1, f1⟩ := NCc.g1
        obtain ⟨n2, f2⟩ := NCc.g2
        obtain ⟨n3, f3⟩ := NCc.g3
        obtain ⟨n4, f4⟩ := NCc.g4
        have hbE := five_below hq3 hba (.slice none 0 0) (.slice none 0 0) (.slice (some ⟨g1, 0, none⟩) m.said.length c1) (.int .i64 m.fin) (.int .i64 m.code)
        have C6 := five_cells NCc (.slice none 0 0) (.slice none 0 0) (.slice (some ⟨g1, 0, none⟩) m.said.length c1) (.int .i64 m.fin) (.int .i64 m.code)
        have G6 := five_own G1.1 hag (.slice none 0 0) (.slice none 0 0) (.slice (some ⟨g1, 0, none⟩) m.said.length c1) (.int .i64 m.fin) (.int .i64 m.code)
        refine wpAnyH_ready (rs := [10]) (by kernel_rfl) (by simp) ?_
        refine AllReadyH.cons rfl (fun K hK => ?_) AllReadyH.nil
        go_simp
        refine hK.out _ _ (HALL.out _ hbE) (fun hHeld => ?_)
        clear hK K
        refine wpAnyH_done (by kernel_rfl) ?_ _
        clear hHeld n0 n1 n2 n3 n4 f0 f1 f2 f3 f4
        generalize ((((Q3.setCell ⟨ba, 0, none⟩ (.slice none 0 0)).setCell ⟨ba, 1, none⟩ (.slice none 0 0)).setCell ⟨ba, 2, none⟩ (.slice (some ⟨g1, 0, none⟩) m.said.length c1)).setCell ⟨ba, 3, none⟩ (.int .i64 m.fin)).setCell ⟨ba, 4, none⟩ (.int .i64 m.code) = QE at *
        go_wp2_with fail
        go_meet
        exact ⟨ba, rfl, g1, c1, C6, G6, hag, hba, hbE⟩
    · go_simp
      have hq1 : Below (w.heap.size + 2) W (Q0.alloc (.cells #[.slice none 0 0, .slice none 0 0, .slice none 0 0, .int .i64 0, .int .i64 0] 44)) := hq0.alloc hz0 _
      have hz1 : w.heap.size + 2 ≤ (Q0.alloc (.cells #[.slice none 0 0, .slice none 0 0, .slice none 0 0, .int .i64 0, .int .i64 0] 44)).heap.size := Nat.le_trans hz0 (by simp)
      have NCa : Cells (Q0.alloc (.cells #[.slice none 0 0, .slice none 0 0, .slice none 0 0, .int .i64 0, .int .i64 0] 44)) Q0.heap.size [.slice none 0 0, .slice none 0 0, .slice none 0 0, .int .i64 0, .int .i64 0] := Cells.new Q0 _ rfl _ _
      have hba := hz0
      have hbr : Below Q0.heap.size Q0 (Q0.alloc (.cells #[.slice none 0 0, .slice none 0 0, .slice none 0 0, .int .i64 0, .int .i64 0] 44)) := (Below.refl _ _).alloc (Nat.le_refl _) _
      refine hK.out _ _ (HALL.out _ hq1) (fun hHeld => ?_)
      clear hK K hbr
      obtain ⟨ba, hbae⟩ : ∃ ba, ba = Q0.heap.size := ⟨_, rfl⟩
      rw [← hbae] at NCa hba ⊢
      generalize Q0.alloc (.cells #[.slice none 0 0, .slice none 0 0, .slice none 0 0, .int .i64 0, .int .i64 0] 44) = Q1 at *
      clear hbae
      refine wpAnyH_ready (rs := [0]) (by kernel_rfl) (by simp) ?_
      refine AllReadyH.cons rfl (fun K hK => ?_) AllReadyH.nil
      go_simp
      have hq2 : Below (w.heap.size + 2) W (Q1.alloc (.cells #[] 2)) := hq1.alloc hz1 _
      have GN : Grow (w.heap.size + 2) (Q1.alloc (.cells #[] 2)) (.slice (some ⟨Q1.heap.size, 0, none⟩) 0 0) [] := (grow_start Q1).base' hz1
      have hz2 : w.heap.size + 2 ≤ (Q1.alloc (.cells #[] 2)).heap.size := Nat.le_trans hz1 (by simp)
      have hnl : Q1.heap.size < (Q1.alloc (.cells #[] 2)).heap.size := by simp
      have NCb := NCa.alloc (.cells #[] 2)
      have hbn : ba ≠ Q1.heap.size := by have h : ba < Q1.heap.size := cell_lt NCa.g0.1; omega
      refine hK.out _ _ (HALL.out _ hq2) (fun hHeld => ?_)
      clear hK K
      obtain ⟨gn, hgn⟩ : ∃ gn, gn = Q1.heap.size := ⟨_, rfl⟩
      rw [← hgn] at GN hnl hbn ⊢
      generalize Q1.alloc (.cells #[] 2) = Q2 at *
      clear hgn
      refine wpAnyH_ready (rs := [3]) (by kernel_rfl) (by simp) ?_
      refine AllReadyH.cons rfl (fun K hK => ?_) AllReadyH.nil
      refine stepGrowI _ rfl (.tmp 7) (.tmp 9) rfl (w.heap.size + 2) gn 0 (by simp [Act.eval]) GN hz2 va cva B0 m.said (by simp [Act.eval]) (SI.on HSI.out (Keep2.of hq2 (Nat.le_of_eq HZ))) hs2 ?_
      intro g1 c1 Q3 G1 B1 E1 O1
      have hq3 : Below (w.heap.size + 2) W Q3 := hq2.trans B1
      have hz3 : w.heap.size + 2 ≤ Q3.heap.size := Nat.le_trans hz2 B1.size
      have hbl : ba < Q2.heap.size := cell_lt NCb.g0.1
      have NCc : Cells Q3 ba [.slice none 0 0, .slice none 0 0, .slice none 0 0, .int .i64 0, .int .i64 0] := fun i x hx => ⟨(World.cell?_of_block (w := Q2) (E1 ba hbn hbl)).trans (NCb i x hx).1, (World.frozen?_of_block (w := Q2) (E1 ba hbn hbl)).trans (NCb i x hx).2⟩
      have hag : ba ≠ g1 := by rcases O1 with e | e <;> omega
      refine hK.out _ _ (HALL.out _ hq3) (fun hHeld => ?_)
      clear hK K
      simp only [Act.put, List.getElem_toArray, List.getElem_cons_zero, List.getElem_cons_succ]
      refine wpAnyH_take (i := 8) (v := ?_) rfl (by kernel_rfl) (by kernel_rfl) (by kernel_rfl) (fun _ _ _ h => h) (Or.inl ⟨by rfl, ?_⟩) hHeld ?_
      rotate_left 1
      · intro w' hSw
        obtain ⟨y1, y2, y3⟩ := hSw
        go_simp
        try with_reducible rfl
      simp only [Act.put, List.getElem_toArray, List.getElem_cons_zero, List.getElem_cons_succ]
      obtain ⟨n0, f0⟩ := NCc.g0
      obtain ⟨n1, f1⟩ := NCc.g1
      obtain ⟨n2, f2⟩ := NCc.g2
      obtain ⟨n3, f3⟩ := NCc.g3
      obtain ⟨n4, f4⟩ := NCc.g4
      have hbE := five_below hq3 hba (.slice none 0 0) (.slice none 0 0) (.slice (some ⟨g1, 0, none⟩) m.said.length c1) (.int .i64 m.fin) (.int .i64 m.code)
      have C6 := five_cells NCc (.slice none 0 0) (.slice none 0 0) (.slice (some ⟨g1, 0, none⟩) m.said.length c1) (.int .i64 m.fin) (.int .i64 m.code)
      have G6 := five_own G1.1 hag (.slice none 0 0) (.slice none 0 0) (.slice (some ⟨g1, 0, none⟩) m.said.length c1) (.int .i64 m.fin) (.int .i64 m.code)
      refine wpAnyH_ready (rs := [10]) (by kernel_rfl) (by simp) ?_
      refine AllReadyH.cons rfl (fun K hK => ?_) AllReadyH.nil
      go_simp
      refine hK.out _ _ (HALL.out _ hbE) (fun hHeld => ?_)
      clear hK K
      refine wpAnyH_done (by kernel_rfl) ?_ _
      clear hHeld n0 n1 n2 n3 n4 f0 f1 f2 f3 f4
      generalize ((((Q3.setCell ⟨ba, 0, none⟩ (.slice none 0 0)).setCell ⟨ba, 1, none⟩ (.slice none 0 0)).setCell ⟨ba, 2, none⟩ (.slice (some ⟨g1, 0, none⟩) m.said.length c1)).setCell ⟨ba, 3, none⟩ (.int .i64 m.fin)).setCell ⟨ba, 4, none⟩ (.int .i64 m.code) = QE at *
      go_wp2_with fail
      go_meet
      exact ⟨ba, rfl, g1, c1, C6, G6, hag, hba, hbE⟩
  case rest =>
    obtain ⟨ba, rfl, g1, c1, C6, G6, hag, hba, hbW⟩ := hcut
    have HX0 : Hid (∃ vh' ch Th, MX (w.heap.size + 2) ba wc { m with heap := m.heap.take 0, frames := [] } vh' (.slice none 0 0) (.slice (some ⟨g1, 0, none⟩) m.said.length c1) ch [] Th (fun _ _ _ => False)) := by
      refine ⟨.slice none 0 0, [], fun _ _ _ => False, ⟨C6.out, hba, ⟨OwnRc.nil recO _ _, OwnRc.nil recF _ _, G6.out, ?_, ?_, ?_, ?_⟩, ?_⟩⟩
      · rintro k (h | ⟨_, _, h⟩) <;> simp [Value.ownBlock] at h
      · rintro k (h | ⟨_, _, h⟩) <;> simp [Value.ownBlock] at h
      · rintro k (h | ⟨_, _, h⟩) <;> simp [Value.ownBlock] at h
      · rintro k ((h | ⟨_, _, h⟩) | (h | ⟨_, _, h⟩) | h)
        · simp [Value.ownBlock] at h
        · exact h.elim
        · simp [Value.ownBlock] at h
        · exact h.elim
        · exact (G6.out.lt k h).1
      · rintro k ((h | ⟨_, _, h⟩) | (h | ⟨_, _, h⟩) | h)
        · simp [Value.ownBlock] at h
        · exact h.elim
        · simp [Value.ownBlock] at h
        · exact h.elim
        · simp [Value.ownBlock] at h; omega
    clear C6 G6 hag HALL
    obtain ⟨w4, rfl⟩ : ∃ x, x = wc := ⟨wc, rfl⟩
    have HIB : Hid (∀ x, Below (w.heap.size + 2) W x → Cells x w.heap.size [.slice ah m.heap.length chh, .slice afr m.frames.length cfr, .slice va m.said.length cva, .int .i64 m.fin, .int .i64 m.code] ∧ Cells x (w.heap.size + 1) [.slice none 0 0, .slice none 0 0, .slice none 0 0, .int .i64 0, .int .i64 0]) := fun x hx => by
      have h : Below W.heap.size W x := by rw [HZ]; exact hx
      exact ⟨I0.out.on h, R0.out.on h⟩
    have h50 := hcore.h50
    have h30 := hcore.f30
    go_wp2
    go_loopw [4] (fun i wr => ∃ k : Nat, k ≤ m.heap.length ∧ i = .int .i64 (k : Int) ∧ Hid (∃ vh' ch Th, MX (w.heap.size + 2) ba wr { m with heap := m.heap.take k, frames := [] } vh' (.slice none 0 0) (.slice (some ⟨g1, 0, none⟩) m.said.length c1) ch [] Th (fun _ _ _ => False)) ∧ Below (w.heap.size + 2) W wr) (fun i _ => m.heap.length - (intOf i).toNat)
    case atStart => exact ⟨0, Nat.zero_le _, rfl, HX0.out, hbW⟩
    case round =>
      clear HX0 hbW
      obtain ⟨k, hk, rfl, hX, hbY⟩ := hrel
      obtain ⟨Y, rfl⟩ : ∃ x, x = wr := ⟨wr, rfl⟩
      have i0c := (HIB.out _ hbY).1.g0.1
      by_cases hlt : k < m.heap.length
      · obtain ⟨vh', ch, Th, hMX⟩ := hX.out
        have hki : (k : Int) < (m.heap.length : Int) := by omega
        have hwY : Below w.heap.size w Y := by
          have h : Below W.heap.size W Y := by rw [HZ]; exact hbY
          exact below_over hwW h
        have hzY : w.heap.size + 2 ≤ Y.heap.size := by rw [← HZ]; exact hbY.size
        obtain ⟨ah', ch', rfl⟩ := own_any hMX.own.h.own
        obtain ⟨bo, oo, rfl, _, v1, d0, d1, hov⟩ := HKV.out.1.get hlt
        obtain ⟨af, cfl, rfl⟩ := hov.form
        have HFL : Hid (SV true B0 w (.slice af m.heap[k].flds.length cfl) m.heap[k].flds) := hov
        have hfl := (hcore.ob _ (List.getElem_mem hlt)).1
        have lo : bo < w.heap.size := cell_lt d0
        have HTK : Hid (m.heap.take (k + 1) = m.heap.take k ++ [m.heap[k]]) := List.take_succ_eq_append_getElem hlt
        have htl : (m.heap.take k).length = k := by rw [List.length_take]; omega
        have HTL : Hid ((m.heap.take k).length = k) := htl
        generalize m.heap[k] = o at *
        have HMX : Hid (MX (w.heap.size + 2) ba Y { m with heap := m.heap.take k, frames := [] } (.slice ah' k ch') (.slice none 0 0) (.slice (some ⟨g1, 0, none⟩) m.said.length c1) ch [] Th (fun _ _ _ => False)) := by
          have h := hMX
          rw [show ({ m with heap := m.heap.take k, frames := [] } : Mc).heap.length = k from HTL.out] at h
          exact h
        have HB3 : Hid (∀ x, Below Y.heap.size Y x → x.cell? ⟨ba, 0, none⟩ = some (.slice ah' k ch')) := fun x hx => (HMX.out.on hx).cells.g0.1
        have HALL : Hid (∀ x, Below (w.heap.size + 2) W x → x.cell? ⟨w.heap.size, 0, none⟩ = some (.slice (some ⟨bo, oo, none⟩) m.heap.length chh) ∧ x.cell? ⟨bo, oo + k * 2, none⟩ = some (.int .i64 o.cls) ∧ x.cell? ⟨bo, oo + k * 2 + 1, none⟩ = some (.slice af o.flds.length cfl)) := fun x hx => by
          have h : Below W.heap.size W x := by rw [HZ]; exact hx
          have hw := below_over hwW h
          exact ⟨(HIB.out x hx).1.g0.1, (hw.cell lo).trans d0, (hw.cell lo).trans d1⟩
        obtain ⟨i0, hif, hz0, hz1, hz2⟩ := info_parts infoObject
        clear d0 d1 hov hX hMX
        go_upto_region 5 with fail
        clear i0c
        have HLN : ([] : List Vl).length + o.flds.length ≤ 1000 := by simp; omega
        have HL1 : (m.heap.take k).length + 1 ≤ maxLen := by rw [HTL.out]; unfold maxLen; omega
        have HL2 : ((m.heap.take k).length + 1) * 32 ≤ 140737488355328 := by rw [HTL.out]; omega
        have HON : Hid (∀ (x : Option Addr) (n y : Nat) (u : Value), u ∈ ([.int .i64 o.cls, .slice x n y] : List Value) → u.oneCell' = true) := by unfold Hid; simp [Value.oneCell']
        apply meetM
        case h =>
          intro hp
          have hq0 : Below Y.heap.size Y Y.drew := (Below.refl _ _).drew
          refine wp_region_held_drew (S := (fun x => x.cell? ⟨w.heap.size, 0, none⟩ = some (.slice (some ⟨bo, oo, none⟩) m.heap.length chh) ∧ x.cell? ⟨bo, oo + k * 2, none⟩ = some (.int .i64 o.cls) ∧ x.cell? ⟨bo, oo + k * 2 + 1, none⟩ = some (.slice af o.flds.length cfl))) (by kernel_rfl) (HALL.out _ (hbY.trans (hq0.mono hzY))) (fun hHeld => ?_)
          generalize Y.drew = Q0 at hq0 hHeld ⊢
          refine wpAnyH_take (i := 0) (v := ?_) rfl (by kernel_rfl) (by kernel_rfl) (by kernel_rfl) (fun _ _ _ h => h) (Or.inl ⟨by rfl, ?_⟩) hHeld ?_
          rotate_left 1
          · intro w' hSw
            obtain ⟨y1, y2, y3⟩ := hSw
            go_simp
            try with_reducible rfl
          simp only [Act.put, List.getElem_toArray, List.getElem_cons_zero]
          refine wpAnyH_take (i := 2) (v := ?_) rfl (by kernel_rfl) (by kernel_rfl) (by kernel_rfl) (fun _ _ _ h => h) (Or.inl ⟨by rfl, ?_⟩) hHeld ?_
          rotate_left 1
          · intro w' hSw
            obtain ⟨y1, y2, y3⟩ := hSw
            go_simp
            try with_reducible rfl
          simp only [Act.put, List.getElem_toArray, List.getElem_cons_zero, List.getElem_cons_succ]
          refine wpAnyH_take (i := 3) (v := ?_) rfl (by kernel_rfl) (by kernel_rfl) (by kernel_rfl) (fun _ _ _ h => h) (Or.inl ⟨by rfl, ?_⟩) hHeld ?_
          rotate_left 1
          · intro w' hSw
            obtain ⟨y1, y2, y3⟩ := hSw
            go_simp
            try with_reducible rfl
          simp only [Act.put, List.getElem_toArray, List.getElem_cons_zero, List.getElem_cons_succ]
          refine wpAnyH_take (i := 4) (v := ?_) rfl (by kernel_rfl) (by kernel_rfl) (by kernel_rfl) (fun _ _ _ h => h) (Or.inl ⟨by rfl, ?_⟩) hHeld ?_
          rotate_left 1
          · intro w' hSw
            obtain ⟨y1, y2, y3⟩ := hSw
            go_simp
            try with_reducible rfl
          simp only [Act.put, List.getElem_toArray, List.getElem_cons_zero, List.getElem_cons_succ]
          refine wpAnyH_take (i := 5) (v := ?_) rfl (by kernel_rfl) (by kernel_rfl) (by kernel_rfl) (fun _ _ _ h => h) (Or.inl ⟨by rfl, ?_⟩) hHeld ?_
          rotate_left 1
          · intro w' hSw
            obtain ⟨y1, y2, y3⟩ := hSw
            go_simp
            try with_reducible rfl
          simp only [Act.put, List.getElem_toArray, List.getElem_cons_zero, List.getElem_cons_succ]
          refine wpAnyH_take (i := 6) (v := ?_) rfl (by kernel_rfl) (by kernel_rfl) (by kernel_rfl) (fun _ _ _ h => h) (Or.inl ⟨by rfl, ?_⟩) hHeld ?_
          rotate_left 1
          · intro w' hSw
            obtain ⟨y1, y2, y3⟩ := hSw
            go_simp
            try with_reducible rfl
          simp only [Act.put, List.getElem_toArray, List.getElem_cons_zero, List.getElem_cons_succ]
          refine wpAnyH_take (i := 7) (v := ?_) rfl (by kernel_rfl) (by kernel_rfl) (by kernel_rfl) (fun _ _ _ h => h) (Or.inl ⟨by rfl, ?_⟩) hHeld ?_
          rotate_left 1
          · intro w' hSw
            obtain ⟨y1, y2, y3⟩ := hSw
            go_simp
            try with_reducible rfl
          simp only [Act.put, List.getElem_toArray, List.getElem_cons_zero, List.getElem_cons_succ]
          refine wpAnyH_take (i := 9) (v := ?_) rfl (by kernel_rfl) (by kernel_rfl) (by kernel_rfl) (fun _ _ _ h => h) (Or.inl ⟨by rfl, ?_⟩) hHeld ?_
          rotate_left 1
          · intro w' hSw
            obtain ⟨y1, y2, y3⟩ := hSw
            go_simp
            try with_reducible rfl
          simp only [Act.put, List.getElem_toArray, List.getElem_cons_zero, List.getElem_cons_succ]
          refine wpAnyH_take (i := 10) (v := ?_) rfl (by kernel_rfl) (by kernel_rfl) (by kernel_rfl) (fun _ _ _ h => h) (Or.inl ⟨by rfl, ?_⟩) hHeld ?_
          rotate_left 1
          · intro w' hSw
            obtain ⟨y1, y2, y3⟩ := hSw
            go_simp
            try with_reducible rfl
          simp only [Act.put, List.getElem_toArray, List.getElem_cons_zero, List.getElem_cons_succ]
          refine wpAnyH_take (i := 11) (v := ?_) rfl (by kernel_rfl) (by kernel_rfl) (by kernel_rfl) (fun _ _ _ h => h) (Or.inl ⟨by rfl, ?_⟩) hHeld ?_
          rotate_left 1
          · intro w' hSw
            obtain ⟨y1, y2, y3⟩ := hSw
            go_simp
            try with_reducible rfl
          simp only [Act.put, List.getElem_toArray, List.getElem_cons_zero, List.getElem_cons_succ]
          refine wpAnyH_take (i := 12) (v := ?_) rfl (by kernel_rfl) (by kernel_rfl) (by kernel_rfl) (fun _ _ _ h => h) (Or.inl ⟨by rfl, ?_⟩) hHeld ?_
          rotate_left 1
          · intro w' hSw
            obtain ⟨y1, y2, y3⟩ := hSw
            go_simp
            try with_reducible rfl
          simp only [Act.put, List.getElem_toArray, List.getElem_cons_zero, List.getElem_cons_succ]
          refine wpAnyH_take (i := 13) (v := ?_) rfl (by kernel_rfl) (by kernel_rfl) (by kernel_rfl) (fun _ _ _ h => h) (Or.inl ⟨by rfl, ?_⟩) hHeld ?_
          rotate_left 1
          · intro w' hSw
            obtain ⟨y1, y2, y3⟩ := hSw
            go_simp
            try with_reducible rfl
          simp only [Act.put, List.getElem_toArray, List.getElem_cons_zero, List.getElem_cons_succ]
          refine wpAnyH_take (i := 14) (v := ?_) rfl (by kernel_rfl) (by kernel_rfl) (by kernel_rfl) (fun _ _ _ h => h) (Or.inl ⟨by rfl, ?_⟩) hHeld ?_
          rotate_left 1
          · intro w' hSw
            obtain ⟨y1, y2, y3⟩ := hSw
            go_simp
            try with_reducible rfl
          simp only [Act.put, List.getElem_toArray, List.getElem_cons_zero, List.getElem_cons_succ]
          refine wpAnyH_ready (rs := [1, 8]) (by kernel_rfl) (by simp) ?_
          refine AllReadyH.cons rfl (fun K hK => ?_) (AllReadyH.cons rfl (fun K hK => ?_) AllReadyH.nil)
          · have xv := HB3.out _ hq0
            go_simp
            refine hK.out _ _ (HALL.out _ (hbY.trans (hq0.mono hzY))) (fun hHeld => ?_)
            clear hK K xv
            refine wpAnyH_ready (rs := [8]) (by kernel_rfl) (by simp) ?_
            refine AllReadyH.cons rfl (fun K hK => ?_) AllReadyH.nil
            go_simp
            have hq1 : Below Y.heap.size Y (Q0.alloc (.cells #[] 57)) := hq0.alloc hq0.size _
            have GN : GrowV Q0.heap.size (Q0.alloc (.cells #[] 57)) (.slice (some ⟨Q0.heap.size, 0, none⟩) ([] : List Vl).length 0) [] := growV_nil Q0
            have hgnY := hq0.size
            refine hK.out _ _ (HALL.out _ (hbY.trans (hq1.mono hzY))) (fun hHeld => ?_)
            clear hK K
            have hgnl : Q0.heap.size ≤ (Q0.alloc (.cells #[] 57)).heap.size := ((Below.refl Q0.heap.size Q0).alloc (Nat.le_refl _) _).size
            obtain ⟨gn, hgn⟩ : ∃ gn, gn = Q0.heap.size := ⟨_, rfl⟩
            rw [← hgn] at GN hgnY hgnl ⊢
            generalize Q0.alloc (.cells #[] 57) = Q1 at *
            clear hgn
            refine wpAnyH_ready (rs := [15]) (by kernel_rfl) (by simp) ?_
            refine AllReadyH.cons rfl (fun K hK => ?_) AllReadyH.nil
            refine stepGrowV _ rfl (.tmp 31) (.tmp 37) rfl gn gn 0 [] (by simp [Act.eval]) GN hgnl af cfl B0 o.flds (by simp [Act.eval]) (SV.on HFL.out (Keep.of (below_over hwY hq1))) HLN ?_
            intro g2 c2 Q2 G2 B2 E2 O2
            have hq2 : Below Y.heap.size Y Q2 := hq1.trans (B2.mono hgnY)
            rw [List.nil_append] at G2
            refine hK.out _ _ (HALL.out _ (hbY.trans (hq2.mono hzY))) (fun hHeld => ?_)
            clear hK K
            simp only [List.nil_append, Act.put, List.getElem_toArray, List.getElem_cons_zero, List.getElem_cons_succ]
            refine wpAnyH_take (i := 16) (v := ?_) rfl (by kernel_rfl) (by kernel_rfl) (by kernel_rfl) (fun _ _ _ h => h) (Or.inl ⟨by rfl, ?_⟩) hHeld ?_
            rotate_left 1
            · intro w' hSw
              obtain ⟨y1, y2, y3⟩ := hSw
              go_simp
              try with_reducible rfl
            simp only [Act.put, List.getElem_toArray, List.getElem_cons_zero, List.getElem_cons_succ]
            refine wpAnyH_ready (rs := [17]) (by kernel_rfl) (by simp) ?_
            refine AllReadyH.cons rfl (fun K hK => ?_) AllReadyH.nil
            go_simp
            have hq3 : Below Y.heap.size Y (Q2.alloc (.cells #[.int .i64 o.cls, .slice (some ⟨g2, 0, none⟩) o.flds.length c2] 118)) := hq2.alloc hq2.size _
            have HCF : ∀ (j : Nat) (u : Value), ([.int .i64 o.cls, .slice (some ⟨g2, 0, none⟩) o.flds.length c2] : List Value)[j]? = some u → (Q2.alloc (.cells #[.int .i64 o.cls, .slice (some ⟨g2, 0, none⟩) o.flds.length c2] 118)).cell? ((⟨Q2.heap.size, 0, none⟩ : Addr).add j) = some u := fun j u hu => by
              rw [Go.WideShapes.add_plain, Nat.zero_add]
              exact (Cells.new Q2 _ rfl [.int .i64 o.cls, .slice (some ⟨g2, 0, none⟩) o.flds.length c2] 118 j u hu).1
            have hV4 : VZ (fun k => Y.heap.size ≤ k ∧ k < (Q2.alloc (.cells #[.int .i64 o.cls, .slice (some ⟨g2, 0, none⟩) o.flds.length c2] 118)).heap.size) (Q2.alloc (.cells #[.int .i64 o.cls, .slice (some ⟨g2, 0, none⟩) o.flds.length c2] 118)) (.slice (some ⟨g2, 0, none⟩) o.flds.length c2) o.flds := (G2.vz.on ((Below.refl _ _).alloc (Nat.le_refl _) _)).weak fun k hk => ⟨Nat.le_trans hgnY hk.1, Nat.lt_of_lt_of_le hk.2 ((Below.refl Q2.heap.size Q2).alloc (Nat.le_refl _) _).size⟩
            refine hK.out _ _ (HALL.out _ (hbY.trans (hq3.mono hzY))) (fun hHeld => ?_)
            clear hK K
            obtain ⟨gr, hgr⟩ : ∃ gr, gr = Q2.heap.size := ⟨_, rfl⟩
            rw [← hgr] at HCF ⊢
            generalize Q2.alloc (.cells #[.int .i64 o.cls, .slice (some ⟨g2, 0, none⟩) o.flds.length c2] 118) = Q3 at *
            clear hgr
            refine wpAnyH_ready (rs := [18]) (by kernel_rfl) (by simp) ?_
            refine AllReadyH.cons rfl (fun K hK => ?_) AllReadyH.nil
            refine stepAppAtM _ rfl (.tmp 24) (.tmp 40) 41 rfl (w.heap.size + 2) 118 i0 (.agg #[.int .i64 0, .slice none 0 0]) 2 32 Try.underlying41 hif hz0 hz1 hz2 rfl (by decide) (.slice ah' k ch') (m.heap.take k).length (recs recO (m.heap.take k) ch).flatten (by simp [Act.eval]) (HMX.out.on hq3).own.h.own ⟨gr, 0, none⟩ 1 1 [.int .i64 o.cls, .slice (some ⟨g2, 0, none⟩) o.flds.length c2] (by simp [Act.eval]) rfl HCF (HON.out _ _ _) HL1 HL2 (Nat.le_trans hzY hq3.size) ?_
            intro v1 w3 hown1 hgr1 hiff1 hat1
            have hown2 := hown1
            rw [HTL.out] at hown2
            obtain ⟨g3, c3, hv1⟩ := own_form hown2 (Nat.succ_ne_zero k)
            clear hown2
            subst hv1
            obtain ⟨chN, ThN, hN⟩ := HMX.out.new hzY hq3 (o := o) hV4 hown1 hgr1 hat1
            have hMQ := HMX.out.on hq3
            have hblk := hgr1.block ba hMQ.mlt (fun e => HMX.out.ne ba (.inl (.inl e.symm)) rfl)
            have z0 : w3.cell? ⟨ba, 0, none⟩ = some (.slice ah' k ch') := (World.cell?_of_block (w := Q3) hblk).trans hMQ.cells.g0.1
            have z1 : w3.frozen? ⟨ba, 0, none⟩ = false := (World.frozen?_of_block (w := Q3) hblk).trans hMQ.cells.g0.2
            have hb3 : Below (w.heap.size + 2) W w3 := (hbY.trans (hq3.mono hzY)).grown hgr1 (Nat.le_trans hzY hq3.size) (fun j hj => HMX.out.own.low j (.inl (.inl hj)))
            have hbE : Below (w.heap.size + 2) W (w3.setCell ⟨ba, 0, none⟩ (.slice (some ⟨g3, 0, none⟩) (k + 1) c3)) := hb3.setCell hba _
            refine hK.out _ _ (HALL.out _ hb3) (fun hHeld => ?_)
            clear hK K
            simp only [Act.put, List.getElem_toArray, List.getElem_cons_zero, List.getElem_cons_succ]
            refine wpAnyH_take (i := 19) (v := ?_) rfl (by kernel_rfl) (by kernel_rfl) (by kernel_rfl) (fun _ _ _ h => h) (Or.inl ⟨by rfl, ?_⟩) hHeld ?_
            rotate_left 1
            · intro w' hSw
              obtain ⟨y1, y2, y3⟩ := hSw
              go_simp
              try with_reducible rfl
            simp only [Act.put, List.getElem_toArray, List.getElem_cons_zero, List.getElem_cons_succ]
            refine wpAnyH_ready (rs := [20]) (by kernel_rfl) (by simp) ?_
            refine AllReadyH.cons rfl (fun K hK => ?_) AllReadyH.nil
            go_simp
            refine hK.out _ _ (HALL.out _ hbE) (fun hHeld => ?_)
            clear hK K
            refine wpAnyH_done (by kernel_rfl) ?_ _
            clear hHeld z0 z1 hb3 hblk hMQ hown1 hgr1 hiff1 hat1
            generalize w3.setCell ⟨ba, 0, none⟩ (.slice (some ⟨g3, 0, none⟩) (k + 1) c3) = QE at *
            have HF : Hid ((∃ vh' ch Th, MX (w.heap.size + 2) ba QE { m with heap := m.heap.take k ++ [o], frames := [] } vh' (.slice none 0 0) (.slice (some ⟨g1, 0, none⟩) m.said.length c1) ch [] Th (fun _ _ _ => False)) ∧ Below (w.heap.size + 2) W QE) := ⟨⟨_, _, _, hN⟩, hbE⟩
            clear hN hbE HCF hV4 G2 E2 O2 B2 GN hgnY hgnl
            revert gn g2 c2 gr g3 c3 QE HF
            exact hp
          · go_simp
            have hq1 : Below Y.heap.size Y (Q0.alloc (.cells #[] 57)) := hq0.alloc hq0.size _
            have GN : GrowV Q0.heap.size (Q0.alloc (.cells #[] 57)) (.slice (some ⟨Q0.heap.size, 0, none⟩) ([] : List Vl).length 0) [] := growV_nil Q0
            have hgnY := hq0.size
            refine hK.out _ _ (HALL.out _ (hbY.trans (hq1.mono hzY))) (fun hHeld => ?_)
            clear hK K
            have hgnl : Q0.heap.size ≤ (Q0.alloc (.cells #[] 57)).heap.size := ((Below.refl Q0.heap.size Q0).alloc (Nat.le_refl _) _).size
            obtain ⟨gn, hgn⟩ : ∃ gn, gn = Q0.heap.size := ⟨_, rfl⟩
            rw [← hgn] at GN hgnY hgnl ⊢
            generalize Q0.alloc (.cells #[] 57) = Q1 at *
            clear hgn
            refine wpAnyH_ready (rs := [1, 15]) (by kernel_rfl) (by simp) ?_
            refine AllReadyH.cons rfl (fun K hK => ?_) (AllReadyH.cons rfl (fun K hK => ?_) AllReadyH.nil)
            · have xv := HB3.out _ hq1
              go_simp
              refine hK.out _ _ (HALL.out _ (hbY.trans (hq1.mono hzY))) (fun hHeld => ?_)
              clear hK K xv
              refine wpAnyH_ready (rs := [15]) (by kernel_rfl) (by simp) ?_
              refine AllReadyH.cons rfl (fun K hK => ?_) AllReadyH.nil
              refine stepGrowV _ rfl (.tmp 31) (.tmp 37) rfl gn gn 0 [] (by simp [Act.eval]) GN hgnl af cfl B0 o.flds (by simp [Act.eval]) (SV.on HFL.out (Keep.of (below_over hwY hq1))) HLN ?_
              intro g2 c2 Q2 G2 B2 E2 O2
              have hq2 : Below Y.heap.size Y Q2 := hq1.trans (B2.mono hgnY)
              rw [List.nil_append] at G2
              refine hK.out _ _ (HALL.out _ (hbY.trans (hq2.mono hzY))) (fun hHeld => ?_)
              clear hK K
              simp only [List.nil_append, Act.put, List.getElem_toArray, List.getElem_cons_zero, List.getElem_cons_succ]
              refine wpAnyH_take (i := 16) (v := ?_) rfl (by kernel_rfl) (by kernel_rfl) (by kernel_rfl) (fun _ _ _ h => h) (Or.inl ⟨by rfl, ?_⟩) hHeld ?_
              rotate_left 1
              · intro w' hSw
                obtain ⟨y1, y2, y3⟩ := hSw
                go_simp
                try with_reducible rfl
              simp only [Act.put, List.getElem_toArray, List.getElem_cons_zero, List.getElem_cons_succ]
              refine wpAnyH_ready (rs := [17]) (by kernel_rfl) (by simp) ?_
              refine AllReadyH.cons rfl (fun K hK => ?_) AllReadyH.nil
              go_simp
              have hq3 : Below Y.heap.size Y (Q2.alloc (.cells #[.int .i64 o.cls, .slice (some ⟨g2, 0, none⟩) o.flds.length c2] 118)) := hq2.alloc hq2.size _
              have HCF : ∀ (j : Nat) (u : Value), ([.int .i64 o.cls, .slice (some ⟨g2, 0, none⟩) o.flds.length c2] : List Value)[j]? = some u → (Q2.alloc (.cells #[.int .i64 o.cls, .slice (some ⟨g2, 0, none⟩) o.flds.length c2] 118)).cell? ((⟨Q2.heap.size, 0, none⟩ : Addr).add j) = some u := fun j u hu => by
                rw [Go.WideShapes.add_plain, Nat.zero_add]
                exact (Cells.new Q2 _ rfl [.int .i64 o.cls, .slice (some ⟨g2, 0, none⟩) o.flds.length c2] 118 j u hu).1
              have hV4 : VZ (fun k => Y.heap.size ≤ k ∧ k < (Q2.alloc (.cells #[.int .i64 o.cls, .slice (some ⟨g2, 0, none⟩) o.flds.length c2] 118)).heap.size) (Q2.alloc (.cells #[.int .i64 o.cls, .slice (some ⟨g2, 0, none⟩) o.flds.length c2] 118)) (.slice (some ⟨g2, 0, none⟩) o.flds.length c2) o.flds := (G2.vz.on ((Below.refl _ _).alloc (Nat.le_refl _) _)).weak fun k hk => ⟨Nat.le_trans hgnY hk.1, Nat.lt_of_lt_of_le hk.2 ((Below.refl Q2.heap.size Q2).alloc (Nat.le_refl _) _).size⟩
              refine hK.out _ _ (HALL.out _ (hbY.trans (hq3.mono hzY))) (fun hHeld => ?_)
              clear hK K
              obtain ⟨gr, hgr⟩ : ∃ gr, gr = Q2.heap.size := ⟨_, rfl⟩
              rw [← hgr] at HCF ⊢
              generalize Q2.alloc (.cells #[.int .i64 o.cls, .slice (some ⟨g2, 0, none⟩) o.flds.length c2] 118) = Q3 at *
              clear hgr
              refine wpAnyH_ready (rs := [18]) (by kernel_rfl) (by simp) ?_
              refine AllReadyH.cons rfl (fun K hK => ?_) AllReadyH.nil
              refine stepAppAtM _ rfl (.tmp 24) (.tmp 40) 41 rfl (w.heap.size + 2) 118 i0 (.agg #[.int .i64 0, .slice none 0 0]) 2 32 Try.underlying41 hif hz0 hz1 hz2 rfl (by decide) (.slice ah' k ch') (m.heap.take k).length (recs recO (m.heap.take k) ch).flatten (by simp [Act.eval]) (HMX.out.on hq3).own.h.own ⟨gr, 0, none⟩ 1 1 [.int .i64 o.cls, .slice (some ⟨g2, 0, none⟩) o.flds.length c2] (by simp [Act.eval]) rfl HCF (HON.out _ _ _) HL1 HL2 (Nat.le_trans hzY hq3.size) ?_
              intro v1 w3 hown1 hgr1 hiff1 hat1
              have hown2 := hown1
              rw [HTL.out] at hown2
              obtain ⟨g3, c3, hv1⟩ := own_form hown2 (Nat.succ_ne_zero k)
              clear hown2
              subst hv1
              obtain ⟨chN, ThN, hN⟩ := HMX.out.new hzY hq3 (o := o) hV4 hown1 hgr1 hat1
              have hMQ := HMX.out.on hq3
              have hblk := hgr1.block ba hMQ.mlt (fun e => HMX.out.ne ba (.inl (.inl e.symm)) rfl)
              have z0 : w3.cell? ⟨ba, 0, none⟩ = some (.slice ah' k ch') := (World.cell?_of_block (w := Q3) hblk).trans hMQ.cells.g0.1
              have z1 : w3.frozen? ⟨ba, 0, none⟩ = false := (World.frozen?_of_block (w := Q3) hblk).trans hMQ.cells.g0.2
              have hb3 : Below (w.heap.size + 2) W w3 := (hbY.trans (hq3.mono hzY)).grown hgr1 (Nat.le_trans hzY hq3.size) (fun j hj => HMX.out.own.low j (.inl (.inl hj)))
              have hbE : Below (w.heap.size + 2) W (w3.setCell ⟨ba, 0, none⟩ (.slice (some ⟨g3, 0, none⟩) (k + 1) c3)) := hb3.setCell hba _
              refine hK.out _ _ (HALL.out _ hb3) (fun hHeld => ?_)
              clear hK K
              simp only [Act.put, List.getElem_toArray, List.getElem_cons_zero, List.getElem_cons_succ]
              refine wpAnyH_take (i := 19) (v := ?_) rfl (by kernel_rfl) (by kernel_rfl) (by kernel_rfl) (fun _ _ _ h => h) (Or.inl ⟨by rfl, ?_⟩) hHeld ?_
              rotate_left 1
              · intro w' hSw
                obtain ⟨y1, y2, y3⟩ := hSw
                go_simp
                try with_reducible rfl
              simp only [Act.put, List.getElem_toArray, List.getElem_cons_zero, List.getElem_cons_succ]
              refine wpAnyH_ready (rs := [20]) (by kernel_rfl) (by simp) ?_
              refine AllReadyH.cons rfl (fun K hK => ?_) AllReadyH.nil
              go_simp
              refine hK.out _ _ (HALL.out _ hbE) (fun hHeld => ?_)
              clear hK K
              refine wpAnyH_done (by kernel_rfl) ?_ _
              clear hHeld z0 z1 hb3 hblk hMQ hown1 hgr1 hiff1 hat1
              generalize w3.setCell ⟨ba, 0, none⟩ (.slice (some ⟨g3, 0, none⟩) (k + 1) c3) = QE at *
              have HF : Hid ((∃ vh' ch Th, MX (w.heap.size + 2) ba QE { m with heap := m.heap.take k ++ [o], frames := [] } vh' (.slice none 0 0) (.slice (some ⟨g1, 0, none⟩) m.said.length c1) ch [] Th (fun _ _ _ => False)) ∧ Below (w.heap.size + 2) W QE) := ⟨⟨_, _, _, hN⟩, hbE⟩
              clear hN hbE HCF hV4 G2 E2 O2 B2 GN hgnY hgnl
              revert gn g2 c2 gr g3 c3 QE HF
              exact hp
            · refine stepGrowV _ rfl (.tmp 31) (.tmp 37) rfl gn gn 0 [] (by simp [Act.eval]) GN hgnl af cfl B0 o.flds (by simp [Act.eval]) (SV.on HFL.out (Keep.of (below_over hwY hq1))) HLN ?_
              intro g2 c2 Q2 G2 B2 E2 O2
              have hq2 : Below Y.heap.size Y Q2 := hq1.trans (B2.mono hgnY)
              rw [List.nil_append] at G2
              refine hK.out _ _ (HALL.out _ (hbY.trans (hq2.mono hzY))) (fun hHeld => ?_)
              clear hK K
              simp only [List.nil_append, Act.put, List.getElem_toArray, List.getElem_cons_zero, List.getElem_cons_succ]
              refine wpAnyH_take (i := 16) (v := ?_) rfl (by kernel_rfl) (by kernel_rfl) (by kernel_rfl) (fun _ _ _ h => h) (Or.inl ⟨by rfl, ?_⟩) hHeld ?_
              rotate_left 1
              · intro w' hSw
                obtain ⟨y1, y2, y3⟩ := hSw
                go_simp
                try with_reducible rfl
              simp only [Act.put, List.getElem_toArray, List.getElem_cons_zero, List.getElem_cons_succ]
              refine wpAnyH_ready (rs := [1, 17]) (by kernel_rfl) (by simp) ?_
              refine AllReadyH.cons rfl (fun K hK => ?_) (AllReadyH.cons rfl (fun K hK => ?_) AllReadyH.nil)
              · have xv := HB3.out _ hq2
                go_simp
                refine hK.out _ _ (HALL.out _ (hbY.trans (hq2.mono hzY))) (fun hHeld => ?_)
                clear hK K xv
                refine wpAnyH_ready (rs := [17]) (by kernel_rfl) (by simp) ?_
                refine AllReadyH.cons rfl (fun K hK => ?_) AllReadyH.nil
                go_simp
                have hq3 : Below Y.heap.size Y (Q2.alloc (.cells #[.int .i64 o.cls, .slice (some ⟨g2, 0, none⟩) o.flds.length c2] 118)) := hq2.alloc hq2.size _
                have HCF : ∀ (j : Nat) (u : Value), ([.int .i64 o.cls, .slice (some ⟨g2, 0, none⟩) o.flds.length c2] : List Value)[j]? = some u → (Q2.alloc (.cells #[.int .i64 o.cls, .slice (some ⟨g2, 0, none⟩) o.flds.length c2] 118)).cell? ((⟨Q2.heap.size, 0, none⟩ : Addr).add j) = some u := fun j u hu => by
                  rw [Go.WideShapes.add_plain, Nat.zero_add]
                  exact (Cells.new Q2 _ rfl [.int .i64 o.cls, .slice (some ⟨g2, 0, none⟩) o.flds.length c2] 118 j u hu).1
                have hV4 : VZ (fun k => Y.heap.size ≤ k ∧ k < (Q2.alloc (.cells #[.int .i64 o.cls, .slice (some ⟨g2, 0, none⟩) o.flds.length c2] 118)).heap.size) (Q2.alloc (.cells #[.int .i64 o.cls, .slice (some ⟨g2, 0, none⟩) o.flds.length c2] 118)) (.slice (some ⟨g2, 0, none⟩) o.flds.length c2) o.flds := (G2.vz.on ((Below.refl _ _).alloc (Nat.le_refl _) _)).weak fun k hk => ⟨Nat.le_trans hgnY hk.1, Nat.lt_of_lt_of_le hk.2 ((Below.refl Q2.heap.size Q2).alloc (Nat.le_refl _) _).size⟩
                refine hK.out _ _ (HALL.out _ (hbY.trans (hq3.mono hzY))) (fun hHeld => ?_)
                clear hK K
                obtain ⟨gr, hgr⟩ : ∃ gr, gr = Q2.heap.size := ⟨_, rfl⟩
                rw [← hgr] at HCF ⊢
                generalize Q2.alloc (.cells #[.int .i64 o.cls, .slice (some ⟨g2, 0, none⟩) o.flds.length c2] 118) = Q3 at *
                clear hgr
                refine wpAnyH_ready (rs := [18]) (by kernel_rfl) (by simp) ?_
                refine AllReadyH.cons rfl (fun K hK => ?_) AllReadyH.nil
                refine stepAppAtM _ rfl (.tmp 24) (.tmp 40) 41 rfl (w.heap.size + 2) 118 i0 (.agg #[.int .i64 0, .slice none 0 0]) 2 32 Try.underlying41 hif hz0 hz1 hz2 rfl (by decide) (.slice ah' k ch') (m.heap.take k).length (recs recO (m.heap.take k) ch).flatten (by simp [Act.eval]) (HMX.out.on hq3).own.h.own ⟨gr, 0, none⟩ 1 1 [.int .i64 o.cls, .slice (some ⟨g2, 0, none⟩) o.flds.length c2] (by simp [Act.eval]) rfl HCF (HON.out _ _ _) HL1 HL2 (Nat.le_trans hzY hq3.size) ?_
                intro v1 w3 hown1 hgr1 hiff1 hat1
                have hown2 := hown1
                rw [HTL.out] at hown2
                obtain ⟨g3, c3, hv1⟩ := own_form hown2 (Nat.succ_ne_zero k)
                clear hown2
                subst hv1
                obtain ⟨chN, ThN, hN⟩ := HMX.out.new hzY hq3 (o := o) hV4 hown1 hgr1 hat1
                have hMQ := HMX.out.on hq3
                have hblk := hgr1.block ba hMQ.mlt (fun e => HMX.out.ne ba (.inl (.inl e.symm)) rfl)
                have z0 : w3.cell? ⟨ba, 0, none⟩ = some (.slice ah' k ch') := (World.cell?_of_block (w := Q3) hblk).trans hMQ.cells.g0.1
                have z1 : w3.frozen? ⟨ba, 0, none⟩ = false := (World.frozen?_of_block (w := Q3) hblk).trans hMQ.cells.g0.2
                have hb3 : Below (w.heap.size + 2) W w3 := (hbY.trans (hq3.mono hzY)).grown hgr1 (Nat.le_trans hzY hq3.size) (fun j hj => HMX.out.own.low j (.inl (.inl hj)))
                have hbE : Below (w.heap.size + 2) W (w3.setCell ⟨ba, 0, none⟩ (.slice (some ⟨g3, 0, none⟩) (k + 1) c3)) := hb3.setCell hba _
                refine hK.out _ _ (HALL.out _ hb3) (fun hHeld => ?_)
                clear hK K
                simp only [Act.put, List.getElem_toArray, List.getElem_cons_zero, List.getElem_cons_succ]
                refine wpAnyH_take (i := 19) (v := ?_) rfl (by kernel_rfl) (by kernel_rfl) (by kernel_rfl) (fun _ _ _ h => h) (Or.inl ⟨by rfl, ?_⟩) hHeld ?_
                rotate_left 1
                · intro w' hSw
                  obtain ⟨y1, y2, y3⟩ := hSw
                  go_simp
                  try with_reducible rfl
                simp only [Act.put, List.getElem_toArray, List.getElem_cons_zero, List.getElem_cons_succ]
                refine wpAnyH_ready (rs := [20]) (by kernel_rfl) (by simp) ?_
                refine AllReadyH.cons rfl (fun K hK => ?_) AllReadyH.nil
                go_simp
                refine hK.out _ _ (HALL.out _ hbE) (fun hHeld => ?_)
                clear hK K
                refine wpAnyH_done (by kernel_rfl) ?_ _
                clear hHeld z0 z1 hb3 hblk hMQ hown1 hgr1 hiff1 hat1
                generalize w3.setCell ⟨ba, 0, none⟩ (.slice (some ⟨g3, 0, none⟩) (k + 1) c3) = QE at *
                have HF : Hid ((∃ vh' ch Th, MX (w.heap.size + 2) ba QE { m with heap := m.heap.take k ++ [o], frames := [] } vh' (.slice none 0 0) (.slice (some ⟨g1, 0, none⟩) m.said.length c1) ch [] Th (fun _ _ _ => False)) ∧ Below (w.heap.size + 2) W QE) := ⟨⟨_, _, _, hN⟩, hbE⟩
                clear hN hbE HCF hV4 G2 E2 O2 B2 GN hgnY hgnl
                revert gn g2 c2 gr g3 c3 QE HF
                exact hp
              · go_simp
                have hq3 : Below Y.heap.size Y (Q2.alloc (.cells #[.int .i64 o.cls, .slice (some ⟨g2, 0, none⟩) o.flds.length c2] 118)) := hq2.alloc hq2.size _
                have HCF : ∀ (j : Nat) (u : Value), ([.int .i64 o.cls, .slice (some ⟨g2, 0, none⟩) o.flds.length c2] : List Value)[j]? = some u → (Q2.alloc (.cells #[.int .i64 o.cls, .slice (some ⟨g2, 0, none⟩) o.flds.length c2] 118)).cell? ((⟨Q2.heap.size, 0, none⟩ : Addr).add j) = some u := fun j u hu => by
                  rw [Go.WideShapes.add_plain, Nat.zero_add]
                  exact (Cells.new Q2 _ rfl [.int .i64 o.cls, .slice (some ⟨g2, 0, none⟩) o.flds.length c2] 118 j u hu).1
                have hV4 : VZ (fun k => Y.heap.size ≤ k ∧ k < (Q2.alloc (.cells #[.int .i64 o.cls, .slice (some ⟨g2, 0, none⟩) o.flds.length c2] 118)).heap.size) (Q2.alloc (.cells #[.int .i64 o.cls, .slice (some ⟨g2, 0, none⟩) o.flds.length c2] 118)) (.slice (some ⟨g2, 0, none⟩) o.flds.length c2) o.flds := (G2.vz.on ((Below.refl _ _).alloc (Nat.le_refl _) _)).weak fun k hk => ⟨Nat.le_trans hgnY hk.1, Nat.lt_of_lt_of_le hk.2 ((Below.refl Q2.heap.size Q2).alloc (Nat.le_refl _) _).size⟩
                refine hK.out _ _ (HALL.out _ (hbY.trans (hq3.mono hzY))) (fun hHeld => ?_)
                clear hK K
                obtain ⟨gr, hgr⟩ : ∃ gr, gr = Q2.heap.size := ⟨_, rfl⟩
                rw [← hgr] at HCF ⊢
                generalize Q2.alloc (.cells #[.int .i64 o.cls, .slice (some ⟨g2, 0, none⟩) o.flds.length c2] 118) = Q3 at *
                clear hgr
                refine wpAnyH_ready (rs := [1]) (by kernel_rfl) (by simp) ?_
                refine AllReadyH.cons rfl (fun K hK => ?_) AllReadyH.nil
                have xv := HB3.out _ hq3
                go_simp
                refine hK.out _ _ (HALL.out _ (hbY.trans (hq3.mono hzY))) (fun hHeld => ?_)
                clear hK K xv
                refine wpAnyH_ready (rs := [18]) (by kernel_rfl) (by simp) ?_
                refine AllReadyH.cons rfl (fun K hK => ?_) AllReadyH.nil
                refine stepAppAtM _ rfl (.tmp 24) (.tmp 40) 41 rfl (w.heap.size + 2) 118 i0 (.agg #[.int .i64 0, .slice none 0 0]) 2 32 Try.underlying41 hif hz0 hz1 hz2 rfl (by decide) (.slice ah' k ch') (m.heap.take k).length (recs recO (m.heap.take k) ch).flatten (by simp [Act.eval]) (HMX.out.on hq3).own.h.own ⟨gr, 0, none⟩ 1 1 [.int .i64 o.cls, .slice (some ⟨g2, 0, none⟩) o.flds.length c2] (by simp [Act.eval]) rfl HCF (HON.out _ _ _) HL1 HL2 (Nat.le_trans hzY hq3.size) ?_
                intro v1 w3 hown1 hgr1 hiff1 hat1
                have hown2 := hown1
                rw [HTL.out] at hown2
                obtain ⟨g3, c3, hv1⟩ := own_form hown2 (Nat.succ_ne_zero k)
                clear hown2
                subst hv1
                obtain ⟨chN, ThN, hN⟩ := HMX.out.new hzY hq3 (o := o) hV4 hown1 hgr1 hat1
                have hMQ := HMX.out.on hq3
                have hblk := hgr1.block ba hMQ.mlt (fun e => HMX.out.ne ba (.inl (.inl e.symm)) rfl)
                have z0 : w3.cell? ⟨ba, 0, none⟩ = some (.slice ah' k ch') := (World.cell?_of_block (w := Q3) hblk).trans hMQ.cells.g0.1
                have z1 : w3.frozen? ⟨ba, 0, none⟩ = false := (World.frozen?_of_block (w := Q3) hblk).trans hMQ.cells.g0.2
                have hb3 : Below (w.heap.size + 2) W w3 := (hbY.trans (hq3.mono hzY)).grown hgr1 (Nat.le_trans hzY hq3.size) (fun j hj => HMX.out.own.low j (.inl (.inl hj)))
                have hbE : Below (w.heap.size + 2) W (w3.setCell ⟨ba, 0, none⟩ (.slice (some ⟨g3, 0, none⟩) (k + 1) c3)) := hb3.setCell hba _
                refine hK.out _ _ (HALL.out _ hb3) (fun hHeld => ?_)
                clear hK K
                simp only [Act.put, List.getElem_toArray, List.getElem_cons_zero, List.getElem_cons_succ]
                refine wpAnyH_take (i := 19) (v := ?_) rfl (by kernel_rfl) (by kernel_rfl) (by kernel_rfl) (fun _ _ _ h => h) (Or.inl ⟨by rfl, ?_⟩) hHeld ?_
                rotate_left 1
                · intro w' hSw
                  obtain ⟨y1, y2, y3⟩ := hSw
                  go_simp
                  try with_reducible rfl
                simp only [Act.put, List.getElem_toArray, List.getElem_cons_zero, List.getElem_cons_succ]
                refine wpAnyH_ready (rs := [20]) (by kernel_rfl) (by simp) ?_
                refine AllReadyH.cons rfl (fun K hK => ?_) AllReadyH.nil
                go_simp
                refine hK.out _ _ (HALL.out _ hbE) (fun hHeld => ?_)
                clear hK K
                refine wpAnyH_done (by kernel_rfl) ?_ _
                clear hHeld z0 z1 hb3 hblk hMQ hown1 hgr1 hiff1 hat1
                generalize w3.setCell ⟨ba, 0, none⟩ (.slice (some ⟨g3, 0, none⟩) (k + 1) c3) = QE at *
                have HF : Hid ((∃ vh' ch Th, MX (w.heap.size + 2) ba QE { m with heap := m.heap.take k ++ [o], frames := [] } vh' (.slice none 0 0) (.slice (some ⟨g1, 0, none⟩) m.said.length c1) ch [] Th (fun _ _ _ => False)) ∧ Below (w.heap.size + 2) W QE) := ⟨⟨_, _, _, hN⟩, hbE⟩
                clear hN hbE HCF hV4 G2 E2 O2 B2 GN hgnY hgnl
                revert gn g2 c2 gr g3 c3 QE HF
                exact hp
        intro gn g2 c2 gr g3 c3 wc HF
        have hX := HF.out.1
        have hbU := HF.out.2
        clear HF
        · have HXN : Hid (∃ vh' ch Th, MX (w.heap.size + 2) ba wc { m with heap := m.heap.take (k + 1), frames := [] } vh' (.slice none 0 0) (.slice (some ⟨g1, 0, none⟩) m.said.length c1) ch [] Th (fun _ _ _ => False)) := by
            show ∃ vh' ch Th, _
            rw [HTK.out]; exact hX
          clear hX HALL HB3 HMX
          go_wp2
          go_roundw
          case rel => exact ⟨k + 1, by omega, by go_num, HXN.out, hbU⟩
          case measure => simp [intOf]; omega
      · obtain rfl : k = m.heap.length := by omega
        have HX1 : Hid (∃ vh' ch Th, MX (w.heap.size + 2) ba Y { m with frames := m.frames.take 0 } vh' (.slice none 0 0) (.slice (some ⟨g1, 0, none⟩) m.said.length c1) ch [] Th (fun _ _ _ => False)) := by
          have h := hX.out
          rw [List.take_length] at h
          exact h
        clear hX
        go_wp2
        clear i0c
        go_loopw [5] (fun i wr => ∃ k : Nat, k ≤ m.frames.length ∧ i = .int .i64 (k : Int) ∧ Hid (∃ vh' vf' ch cf Th Tf, MX (w.heap.size + 2) ba wr { m with frames := m.frames.take k } vh' vf' (.slice (some ⟨g1, 0, none⟩) m.said.length c1) ch cf Th Tf) ∧ Below (w.heap.size + 2) W wr) (fun i _ => m.frames.length - (intOf i).toNat)
        case atStart => exact ⟨0, Nat.zero_le _, rfl, (by obtain ⟨a, b, c, h⟩ := HX1.out; exact ⟨_, _, _, _, _, _, h⟩), hbY⟩
        case round =>
          clear HX1 hbY
          obtain ⟨k, hk, rfl, hX, hbY⟩ := hrel
          obtain ⟨Y, rfl⟩ : ∃ x, x = wr := ⟨wr, rfl⟩
          obtain ⟨vh', vf', ch, cf, Th, Tf, hMX⟩ := hX.out
          have i1c := (HIB.out _ hbY).1.g1.1
          have hwY : Below w.heap.size w Y := by
            have h : Below W.heap.size W Y := by rw [HZ]; exact hbY
            exact below_over hwW h
          have hzY : w.heap.size + 2 ≤ Y.heap.size := by rw [← HZ]; exact hbY.size
          by_cases hlt : k < m.frames.length
          · have hki : (k : Int) < (m.frames.length : Int) := by omega
            obtain ⟨af', cf', rfl⟩ := own_any hMX.own.f.own
            obtain ⟨bf, off, rfl, _, v1, v2, d0, d1, d2, d3, d4, hfv⟩ := HKV.out.2.1.get hlt
            obtain ⟨ast, cs, rfl⟩ := hfv.1.form
            obtain ⟨al, cl, rfl⟩ := hfv.2.form
            have HST : Hid (SV true B0 w (.slice ast m.frames[k].stk.length cs) m.frames[k].stk) := hfv.1
            have HLO : Hid (SV true B0 w (.slice al m.frames[k].loc.length cl) m.frames[k].loc) := hfv.2
            have hfo := hcore.fr _ (List.getElem_mem hlt)
            have hs8 := hfo.s8
            have hl8 : m.frames[k].loc.length ≤ 8 := Nat.le_of_eq hfo.l8
            clear hfo
            have lo : bf < w.heap.size := cell_lt d0
            have HTK : Hid (m.frames.take (k + 1) = m.frames.take k ++ [m.frames[k]]) := List.take_succ_eq_append_getElem hlt
            have HTL : Hid ((m.frames.take k).length = k) := by show _ = _; rw [List.length_take]; omega
            generalize m.frames[k] = f at *
            have HMX : Hid (MX (w.heap.size + 2) ba Y { m with frames := m.frames.take k } vh' (.slice af' k cf') (.slice (some ⟨g1, 0, none⟩) m.said.length c1) ch cf Th Tf) := by
              have h := hMX
              rw [show ({ m with frames := m.frames.take k } : Mc).frames.length = k from HTL.out] at h
              exact h
            obtain ⟨i0, hif, hz0, hz1, hz2⟩ := info_parts infoFrame
            have y0 := (hwY.cell lo).trans d0
            have y1 := (hwY.cell lo).trans d1
            have y2 := (hwY.cell lo).trans d2
            have y3 := (hwY.cell lo).trans d3
            have y4 := (hwY.cell lo).trans d4
            obtain ⟨V, hV⟩ : ∃ V, V = Y.alloc (.cells #[.int .i64 f.cls, .int .i64 f.name, .int .i64 f.pos, .slice ast f.stk.length cs, .slice al f.loc.length cl] 49) := ⟨_, rfl⟩
            have hYV : Below Y.heap.size Y V := by rw [hV]; exact (Below.refl _ _).alloc (Nat.le_refl _) _
            have F0 : Cells V Y.heap.size [.int .i64 f.cls, .int .i64 f.name, .int .i64 f.pos, .slice ast f.stk.length cs, .slice al f.loc.length cl] := by rw [hV]; exact Cells.new Y _ rfl _ _
            have hVz : Y.heap.size < V.heap.size := cell_lt F0.g0.1
            have F0A := F0.alloc (.cells #[] 57)
            have fa3 := F0A.g3.1
            have hwV : Below w.heap.size w V := below_over hwY hYV
            have HS0 : Hid (SV true B0 (V.alloc (.cells #[] 57)) (.slice ast f.stk.length cs) f.stk) := SV.on HST.out (Keep.of (hwV.alloc hwV.size _))
            have HN : Hid (GrowV V.heap.size (V.alloc (.cells #[] 57)) (.slice (some ⟨V.heap.size, 0, none⟩) ([] : List Vl).length 0) []) := growV_nil V
            go_upto_region 10 with fail
            rw [← hV]
            clear hV d0 d1 d2 d3 d4 hfv hX hMX y0 y1 y2 y3 y4 i1c
            go_wp2_with (at_builtin; refine wpList_growV _ rfl (.tmp 55) (.tmp 57) rfl V.heap.size V.heap.size 0 [] rfl HN.out (by simp) ast cs B0 f.stk (by simp [Act.eval]) HS0.out (by simp; omega) ?_)
            intro g2 c2 w1 G2 B2 E2 O2
            have hV1 : Below V.heap.size V w1 := ((Below.refl _ _).alloc (Nat.le_refl _) _).trans B2
            have F1 := F0.on hV1
            have q3 := F1.g3.1
            have p3 := F1.g3.2
            obtain ⟨X1, hX1⟩ : ∃ X1, X1 = w1.setCell ⟨Y.heap.size, 3, none⟩ (.slice (some ⟨g2, 0, none⟩) f.stk.length c2) := ⟨_, rfl⟩
            have FX1 : Cells X1 Y.heap.size [.int .i64 f.cls, .int .i64 f.name, .int .i64 f.pos, .slice (some ⟨g2, 0, none⟩) f.stk.length c2, .slice al f.loc.length cl] := by rw [hX1]; exact F1.set 3 _
            have hYX1 : Below Y.heap.size Y X1 := by rw [hX1]; exact (hYV.trans (hV1.mono hYV.size)).setCell (p := ⟨Y.heap.size, 3, none⟩) (Nat.le_refl _) _
            have hzX1 : Hid (X1.heap.size = w1.heap.size) := by show _ = _; rw [hX1]; simp
            have Z1 : VZ (fun k => V.heap.size ≤ k ∧ k < w1.heap.size) X1 (.slice (some ⟨g2, 0, none⟩) f.stk.length c2) f.stk := by
              rw [hX1]
              exact G2.vz.moved (by simp) (fun k hk _ => set_blocks w1 _ _ k (by show Y.heap.size ≠ k; have := hk.1; omega))
            have hX1z := hV1.size
            have FA1 := FX1.alloc (.cells #[] 57)
            have fb4 := FA1.g4.1
            have hwX1 : Below w.heap.size w X1 := below_over hwY hYX1
            have HS1 : Hid (SV true B0 (X1.alloc (.cells #[] 57)) (.slice al f.loc.length cl) f.loc) := SV.on HLO.out (Keep.of (hwX1.alloc hwX1.size _))
            have HN1 : Hid (GrowV X1.heap.size (X1.alloc (.cells #[] 57)) (.slice (some ⟨X1.heap.size, 0, none⟩) ([] : List Vl).length 0) []) := growV_nil X1
            go_upto_region 11 with fail
            rw [← hX1]
            clear hX1 HN HS0 fa3 F0A q3 p3 G2 B2 E2 O2 F1 F0
            go_wp2_with (at_builtin; refine wpList_growV _ rfl (.tmp 60) (.tmp 62) rfl X1.heap.size X1.heap.size 0 [] rfl HN1.out (by simp) al cl B0 f.loc (by simp [Act.eval]) HS1.out (by simp; omega) ?_)
            intro g3 c3 w2 G3 B3 E3 O3
            have hV2 : Below X1.heap.size X1 w2 := ((Below.refl _ _).alloc (Nat.le_refl _) _).trans B3
            have F2 := FX1.on hV2
            have q4 := F2.g4.1
            have p4 := F2.g4.2
            obtain ⟨X2, hX2⟩ : ∃ X2, X2 = w2.setCell ⟨Y.heap.size, 4, none⟩ (.slice (some ⟨g3, 0, none⟩) f.loc.length c3) := ⟨_, rfl⟩
            have FX2 : Cells X2 Y.heap.size [.int .i64 f.cls, .int .i64 f.name, .int .i64 f.pos, .slice (some ⟨g2, 0, none⟩) f.stk.length c2, .slice (some ⟨g3, 0, none⟩) f.loc.length c3] := by rw [hX2]; exact F2.set 4 _
            have hYX2 : Below Y.heap.size Y X2 := by rw [hX2]; exact (hYX1.trans (hV2.mono hYX1.size)).setCell (p := ⟨Y.heap.size, 4, none⟩) (Nat.le_refl _) _
            have hzX2 : Hid (X2.heap.size = w2.heap.size) := by show _ = _; rw [hX2]; simp
            have hX2z := hV2.size
            have Z2 : VZ (fun k => V.heap.size ≤ k ∧ k < w1.heap.size) X2 (.slice (some ⟨g2, 0, none⟩) f.stk.length c2) f.stk := by
              rw [hX2]
              exact (Z1.on hV2).moved (by simp) (fun k hk _ => set_blocks w2 _ _ k (by show Y.heap.size ≠ k; have := hk.1; omega))
            have Z3 : VZ (fun k => X1.heap.size ≤ k ∧ k < w2.heap.size) X2 (.slice (some ⟨g3, 0, none⟩) f.loc.length c3) f.loc := by
              rw [hX2]
              exact G3.vz.moved (by simp) (fun k hk _ => set_blocks w2 _ _ k (by show Y.heap.size ≠ k; have := hk.1; have := hzX1.out; omega))
            go_upto_region 12 with fail
            rw [← hX2]
            clear hX2 HN1 HS1 fb4 FA1 q4 p4 G3 B3 E3 O3 F2 Z1 FX1
            obtain ⟨X3, hX3⟩ : ∃ X3, X3 = X2.alloc (.cells #[.int .i64 f.cls, .int .i64 f.name, .int .i64 f.pos, .slice (some ⟨g2, 0, none⟩) f.stk.length c2, .slice (some ⟨g3, 0, none⟩) f.loc.length c3] 49) := ⟨_, rfl⟩
            have h23 : Below X2.heap.size X2 X3 := by rw [hX3]; exact (Below.refl _ _).alloc (Nat.le_refl _) _
            have hYX3 : Below Y.heap.size Y X3 := below_over hYX2 h23
            have HCF : Hid (∀ (j : Nat) (u : Value), ([.int .i64 f.cls, .int .i64 f.name, .int .i64 f.pos, .slice (some ⟨g2, 0, none⟩) f.stk.length c2, .slice (some ⟨g3, 0, none⟩) f.loc.length c3] : List Value)[j]? = some u → X3.cell? ((⟨X2.heap.size, 0, none⟩ : Addr).add j) = some u) := fun j u hu => by
              rw [Go.WideShapes.add_plain, Nat.zero_add, hX3]
              exact (Cells.new X2 _ rfl [.int .i64 f.cls, .int .i64 f.name, .int .i64 f.pos, .slice (some ⟨g2, 0, none⟩) f.stk.length c2, .slice (some ⟨g3, 0, none⟩) f.loc.length c3] 49 j u hu).1
            have hzX3 : Hid (X3.heap.size = X2.heap.size + 1) := by show _ = _; rw [hX3]; simp
            have b1X2 := (HMX.out.on hYX2).cells.g1.1
            obtain ⟨s0, _⟩ := FX2.g0
            obtain ⟨s1, _⟩ := FX2.g1
            obtain ⟨s2, _⟩ := FX2.g2
            obtain ⟨s3, _⟩ := FX2.g3
            obtain ⟨s4, _⟩ := FX2.g4
            have HL1 : (m.frames.take k).length + 1 ≤ maxLen := by rw [HTL.out]; unfold maxLen; omega
            have HL2 : ((m.frames.take k).length + 1) * 72 ≤ 140737488355328 := by rw [HTL.out]; omega
            go_wp2_with (at_builtin; rw [← hX3]; refine wpList_append_own_at X3 rfl _ _ 42 rfl (w.heap.size + 2) 49 i0 (.agg #[.int .i64 0, .int .i64 0, .int .i64 0, .slice none 0 0, .slice none 0 0]) 5 72 Try.underlying42 hif hz0 hz1 hz2 rfl (by decide) (.slice af' k cf') (m.frames.take k).length (recs recF (m.frames.take k) cf).flatten rfl (HMX.out.on hYX3).own.f.own ⟨X2.heap.size, 0, none⟩ 1 1 [.int .i64 f.cls, .int .i64 f.name, .int .i64 f.pos, .slice (some ⟨g2, 0, none⟩) f.stk.length c2, .slice (some ⟨g3, 0, none⟩) f.loc.length c3] rfl rfl HCF.out (by simp [Value.oneCell']) HL1 HL2 (Nat.le_trans hzY hYX3.size) ?_)
            intro v5 w5 hown5 hgr5 hiff5 hat5
            obtain ⟨g5, c5, hv5⟩ := own_form hown5 (Nat.succ_ne_zero k)
            subst hv5
            have hgr6 : X3.grownBy w5 (Value.slice af' k cf').ownBlock := by rw [hX3]; exact hgr5
            have hat6 : (Value.slice (some ⟨g5, 0, none⟩) (k + 1) c5).ownBlock = (Value.slice af' k cf').ownBlock ∨ (Value.slice (some ⟨g5, 0, none⟩) (k + 1) c5).ownBlock = some X3.heap.size := by rw [hzX3.out]; exact hat5
            have x1 := hzX1.out
            have x2 := hzX2.out
            have x3 := hzX3.out
            obtain ⟨cfN, TfN, hN⟩ := HMX.out.more hzY hYX3 (x := f) (N := w1.heap.size) (by omega) (by omega) ((Z2.on h23).weak fun k hk => ⟨by have := hk.1; omega, hk.2⟩) ((Z3.on h23).weak fun k hk => ⟨by have := hk.1; omega, by have := hk.2; omega⟩) (by show World.ownsRow _ _ _ _ _ ((m.frames.take k).length + 1) _; rw [HTL.out]; exact hown5) hgr6 hat6
            have hMQ := HMX.out.on hYX3
            have hblk := hgr6.block ba hMQ.mlt (fun e => HMX.out.ne ba (.inr (.inl (.inl e.symm))) rfl)
            have z0 : w5.cell? ⟨ba, 1, none⟩ = some (.slice af' k cf') := (World.cell?_of_block (w := X3) hblk).trans hMQ.cells.g1.1
            have z1 : w5.frozen? ⟨ba, 1, none⟩ = false := (World.frozen?_of_block (w := X3) hblk).trans hMQ.cells.g1.2
            have hb5 : Below (w.heap.size + 2) W w5 := (hbY.trans (hYX3.mono hzY)).grown hgr6 (Nat.le_trans hzY hYX3.size) (fun j hj => HMX.out.own.low j (.inr (.inl (.inl hj))))
            have hbE : Below (w.heap.size + 2) W (w5.setCell ⟨ba, 1, none⟩ (.slice (some ⟨g5, 0, none⟩) (k + 1) c5)) := hb5.setCell hba _
            have HXN : Hid (∃ vh' vf' ch cf Th Tf, MX (w.heap.size + 2) ba (w5.setCell ⟨ba, 1, none⟩ (.slice (some ⟨g5, 0, none⟩) (k + 1) c5)) { m with frames := m.frames.take (k + 1) } vh' vf' (.slice (some ⟨g1, 0, none⟩) m.said.length c1) ch cf Th Tf) := by
              show ∃ vh' vf' ch cf Th Tf, _
              rw [HTK.out]
              exact ⟨_, _, _, _, _, _, hN⟩
            clear x1 x2 x3 hown5 hgr5 hiff5 hat5 hgr6 hat6 hN hMQ hblk hb5 HCF s0 s1 s2 s3 s4 b1X2 FX2 Z2 Z3 HMX h23 hX3
            go_wp2
            go_roundw
            case rel => exact ⟨k + 1, by omega, by go_num, HXN.out, hbE⟩
            case measure => simp [intOf]; omega
          · obtain rfl : k = m.frames.length := by omega
            have HMX : Hid (MX (w.heap.size + 2) ba Y m vh' vf' (.slice (some ⟨g1, 0, none⟩) m.said.length c1) ch cf Th Tf) := by
              have h := hMX
              rw [List.take_length] at h
              exact h
            obtain ⟨xh, yh, rfl⟩ := own_any HMX.out.own.h.own
            obtain ⟨xf, yf, rfl⟩ := own_any HMX.out.own.f.own
            have RX := (HIB.out _ hbY).2
            obtain ⟨r0, q0⟩ := RX.g0
            obtain ⟨r1, q1⟩ := RX.g1
            obtain ⟨r2, q2⟩ := RX.g2
            obtain ⟨r3, q3⟩ := RX.g3
            obtain ⟨r4, q4⟩ := RX.g4
            obtain ⟨a0, _⟩ := HMX.out.cells.g0
            obtain ⟨a1, _⟩ := HMX.out.cells.g1
            obtain ⟨a2, _⟩ := HMX.out.cells.g2
            obtain ⟨a3, _⟩ := HMX.out.cells.g3
            obtain ⟨a4, _⟩ := HMX.out.cells.g4
            have R5 := five_cells RX (.slice xh m.heap.length yh) (.slice xf m.frames.length yf) (.slice (some ⟨g1, 0, none⟩) m.said.length c1) (.int .i64 m.fin) (.int .i64 m.code)
            have HBF := five_below hwY (show w.heap.size ≤ w.heap.size + 1 by omega) (.slice xh m.heap.length yh) (.slice xf m.frames.length yf) (.slice (some ⟨g1, 0, none⟩) m.said.length c1) (.int .i64 m.fin) (.int .i64 m.code)
            have HOF : Hid (MOwn w.heap.size (((((Y.setCell ⟨w.heap.size + 1, 0, none⟩ (.slice xh m.heap.length yh)).setCell ⟨w.heap.size + 1, 1, none⟩ (.slice xf m.frames.length yf)).setCell ⟨w.heap.size + 1, 2, none⟩ (.slice (some ⟨g1, 0, none⟩) m.said.length c1)).setCell ⟨w.heap.size + 1, 3, none⟩ (.int .i64 m.fin)).setCell ⟨w.heap.size + 1, 4, none⟩ (.int .i64 m.code)) (.slice xh m.heap.length yh) (.slice xf m.frames.length yf) (.slice (some ⟨g1, 0, none⟩) m.said.length c1) m ch cf Th Tf) := by
              refine (HMX.out.own.moved (by simp) fun k hk => ?_).base (by omega)
              have hl := HMX.out.own.low k hk
              have hne : w.heap.size + 1 ≠ k := by omega
              rw [set_blocks _ _ _ _ hne, set_blocks _ _ _ _ hne, set_blocks _ _ _ _ hne, set_blocks _ _ _ _ hne, set_blocks _ _ _ _ hne]
            obtain ⟨e0, _⟩ := R5.g0
            obtain ⟨e1, _⟩ := R5.g1
            obtain ⟨e2, _⟩ := R5.g2
            obtain ⟨e3, _⟩ := R5.g3
            obtain ⟨e4, _⟩ := R5.g4
            have HBFH : Hid _ := HBF
            clear R5 RX HMX hX hMX HBF
            go_wp2
            refine bodyPost_ret (v := .agg #[.slice xh m.heap.length yh, .slice xf m.frames.length yf, .slice (some ⟨g1, 0, none⟩) m.said.length c1, .int .i64 m.fin, .int .i64 m.code]) (by simp [results, Try.results55, go_sem, e0, e1, e2, e3, e4]) rfl ?_
            exact ⟨_, _, _, ch, cf, Th, Tf, rfl, HOF.out, HBFH.out⟩
end Pg
end Go.Proofs.Ytffkkhaiedhaiaa

/- The machine's call, its last piece: the arguments, the stack, the new frame. -/
namespace Go.Proofs.Ytffkkhaiedhaiaa
namespace Pg
open Go.ChangeShapes Go.WideShapes Go.ChangeAt Go.RowKit St Wd

theorem SV.drop {B : Nat} {w : World} {g : Nat} {n c : Nat} {l : List Vl} (h : SV true B w (.slice (some ⟨g, 0, none⟩) n c) l) {k c' : Nat} (hk : k < l.length) : SV true B w (.slice (some ⟨g, k * 2, none⟩) (l.drop k).length c') (l.drop k) := by
  obtain ⟨a', c0, hv, hz, h⟩ := h
  injection hv with e1 e2 e3
  subst e1 e3
  obtain ⟨b, o, ha, hB, ⟨hl, hf⟩, hx⟩ := h (by omega)
  injection ha with ha
  injection ha with e4 e5
  subst e4 e5
  refine ⟨_, c', rfl, fun _ e => by simp at e, fun _ => ⟨g, k * 2, rfl, hB, ⟨hl, fun e j hj => ?_⟩, fun j x hj => ?_⟩⟩
  · have := hf e (k * 2 + j) (by rw [List.length_drop] at hj; omega)
    rw [Nat.zero_add] at this
    exact this
  · have := hx (k + j) x (by rw [← hj, List.getElem?_drop])
    rw [Nat.zero_add, Nat.add_mul] at this
    exact this
noncomputable def c9 (l : List Bool) : Code := sub (Try.f92.body.getD .skip) l
set_option maxRecDepth 100000 in
set_option maxHeartbeats 4000000 in
theorem callTail (B M : Nat) (m : Mc) (q : Nat) (f : Fr) (G fcap : Nat) (vS vL vh vs : Value) (ch cf : List (List Value)) (Th Tf : Nat → Nat → Nat → Prop) (w : World) (hB : B ≤ w.heap.size)
    (hT : Tp B M w m (q + 1) q f G fcap vS vL vh vs ch cf Th Tf) (hq : m.frames.length = q + 1) (h30 : q + 1 < 30)
    (A Bi : Int) (b5 : Nat) (hI : Cells w b5 [.int .i64 17, .int .i64 A, .int .i64 Bi]) (hb5 : b5 ≠ G) (keep : Nat) (hk : keep < f.stk.length) (h8 : f.stk.length ≤ 8) (cto : Int)
    (R : Ending → World → Prop) (hR : ∀ w', MSt B M w' { m with frames := (m.frames.dropLast ++ [{ f with stk := f.stk.take keep }]) ++ [⟨cto, Bi, 0, [], frmV (f.stk.drop keep)⟩] } → Below B w w' → R (.returned (.int .i64 0)) w')
    {u0 u2 u3 u4 u6 u8 u9 u11 u12 u14 u15 u16 u17 u18 u19 u20 u21 u22 u23 u24 u25 u26 u27 u28 u29 u30 u31 u32 u33 u34 u35 u36 u37 u38 u39 u40 u41 u42 u43 u44 u45 u46 u47 u48 u49 u50 u51 u52 u53 u54 u55 u56 u57 u58 u59 u60 u61 u62 u63 u64 u65 u66 u67 u68 u69 u70 u71 u72 u73 u74 u75 u76 u77 u78 u79 u80 u81 u82 u83 u84 u85 u86 u87 u88 u89 u90 u91 u92 u93 u94 u95 u96 u97 u98 u99 u100 u101 u102 u103 u104 u105 u106 u107 u108 u109 u110 u111 u112 u113 u114 u115 u116 u117 u118 u119 u120 u121 u122 u123 u124 u125 u126 u127 u128 u129 u130 u131 u132 u133 u134 u135 u136 u137 : Value} : Code.wp Try.prog (c9 [true, true, true, true, true, true, true, true, true, true, true, true, true]) (bodyPost Try.prog Try.f92 R) { tmps := #[u0, .pointer (some ⟨M, 0, none⟩), u2, u3, u4, .pointer (some ⟨b5, 0, none⟩), u6, .pointer (some ⟨G, q * 5, none⟩), u8, u9, .int .i64 (keep : Int), u11, u12, .int .i64 cto, u14, u15, u16, u17, u18, u19, u20, u21, u22, u23, u24, u25, u26, u27, u28, u29, u30, u31, u32, u33, u34, u35, u36, u37, u38, u39, u40, u41, u42, u43, u44, u45, u46, u47, u48, u49, u50, u51, u52, u53, u54, u55, u56, u57, u58, u59, u60, u61, u62, u63, u64, u65, u66, u67, u68, u69, u70, u71, u72, u73, u74, u75, u76, u77, u78, u79, u80, u81, u82, u83, u84, u85, u86, u87, u88, u89, u90, u91, u92, u93, u94, u95, u96, u97, u98, u99, u100, u101, u102, u103, u104, u105, u106, u107, u108, u109, u110, u111, u112, u113, u114, u115, u116, u117, u118, u119, u120, u121, u122, u123, u124, u125, u126, u127, u128, u129, u130, u131, u132, u133, u134, u135, u136, u137, undef, undef, undef, undef, undef, undef, undef, undef, undef, undef, undef, undef, undef, undef, undef, undef, undef, undef, undef, undef, undef, undef, undef, undef, undef, undef, undef, undef, undef, undef, undef, undef, undef], defers := [] } w := by
  have hgl := hT.glt
  obtain ⟨gS, cS, hvS⟩ : ∃ gS cS, vS = .slice (some ⟨gS, 0, none⟩) f.stk.length cS := by
    rcases hT.stk with ⟨g, c, hv, _⟩ | ⟨_, hl⟩
    · exact ⟨g, _, hv⟩
    · rw [hl] at hk; simp at hk
  subst hvS
  have hcap := hT.stk.cap
  have hbE : Below w.heap.size w (w.alloc (.cells #[] 57)) := (Below.refl _ _).alloc (Nat.le_refl _) _
  have c3 : (w.alloc (.cells #[] 57)).cell? ⟨G, q * 5 + 3, none⟩ = some (.slice (some ⟨gS, 0, none⟩) f.stk.length cS) := (hT.on hbE).cell (d := 3) (by omega)
  have HT : Hid (Tp B M w m (q + 1) q f G fcap (.slice (some ⟨gS, 0, none⟩) f.stk.length cS) vL vh vs ch cf Th Tf) := hT
  have HI : Hid (Cells w b5 [.int .i64 17, .int .i64 A, .int .i64 Bi]) := hI
  have HN : Hid (GrowV w.heap.size (w.alloc (.cells #[] 57)) (.slice (some ⟨w.heap.size, 0, none⟩) ([] : List Vl).length 0) []) := growV_nil w
  have hdl : (f.stk.drop keep).length = f.stk.length - keep := List.length_drop ..
  have htl : (f.stk.take keep).length = keep := by rw [List.length_take]; omega
  have HS1 : Hid (∀ c', SV true 0 (w.alloc (.cells #[] 57)) (.slice (some ⟨gS, keep * 2, none⟩) (f.stk.drop keep).length c') (f.stk.drop keep)) := fun c' => SV.drop (SV.on hT.stk.sv (Keep.of hbE)) hk
  have HS2 : Hid (∀ X, Below w.heap.size w X → SV true 0 X (.slice (some ⟨gS, 0, none⟩) (f.stk.take keep).length cS) (f.stk.take keep)) := fun X hX => SV.take (SV.on hT.stk.sv (Keep.of hX)) (by omega)
  have hki : (keep : Int) < (f.stk.length : Int) := by omega
  have hkc : (keep : Int) ≤ (cS : Int) := by omega
  have hlc : (f.stk.length : Int) ≤ (cS : Int) := by omega
  have hkl : (keep : Int) ≤ (f.stk.length : Int) := by omega
  have HR : Hid (∀ w', MSt B M w' { m with frames := (m.frames.dropLast ++ [{ f with stk := f.stk.take keep }]) ++ [⟨cto, Bi, 0, [], frmV (f.stk.drop keep)⟩] } → Below B w w' → R (.returned (.int .i64 0)) w') := hR
  have HDL : Hid ((f.stk.drop keep).length = f.stk.length - keep) := hdl
  have HTL : Hid ((f.stk.take keep).length = keep) := htl
  clear hT hI hR hdl htl
  unfold c9
  conv => arg 2; whnf
  go_wp2_with (at_builtin; refine wpList_growV _ rfl (.tmp 138) (.tmp 144) rfl w.heap.size w.heap.size 0 [] rfl HN.out (by simp) (some ⟨gS, keep * 2, none⟩) (cS - keep) 0 (f.stk.drop keep) (by rw [HDL.out]; simp [Act.eval]) (HS1.out _) (by have := HDL.out; simp; omega) ?_)
  intro g1 c1 w1 G1 B1 E1 O1
  have U1 : Below w.heap.size w w1 := hbE.trans B1
  have HG1 : Hid (GrowV w.heap.size w1 (.slice (some ⟨g1, 0, none⟩) (f.stk.drop keep).length c1) (f.stk.drop keep)) := by show GrowV _ _ _ _; rw [HDL.out]; simpa using G1
  have hbE1 : Below w.heap.size w (w1.alloc (.cells #[] 57)) := U1.alloc U1.size _
  have d3 : (w1.alloc (.cells #[] 57)).cell? ⟨G, q * 5 + 3, none⟩ = some (.slice (some ⟨gS, 0, none⟩) f.stk.length cS) := (HT.out.on hbE1).cell (d := 3) (by omega)
  have HN1 : Hid (GrowV w1.heap.size (w1.alloc (.cells #[] 57)) (.slice (some ⟨w1.heap.size, 0, none⟩) ([] : List Vl).length 0) []) := growV_nil w1
  have HS3 : Hid (SV true 0 (w1.alloc (.cells #[] 57)) (.slice (some ⟨gS, 0, none⟩) (f.stk.take keep).length cS) (f.stk.take keep)) := HS2.out _ hbE1
  clear G1 B1 E1 O1 HN HS1 HS2 c3
  go_wp2_with (at_builtin; refine wpList_growV _ rfl (.tmp 147) (.tmp 153) rfl w1.heap.size w1.heap.size 0 [] rfl HN1.out (by simp) (some ⟨gS, 0, none⟩) cS 0 (f.stk.take keep) (by rw [HTL.out]; simp [Act.eval]) HS3.out (by have := HTL.out; simp; omega) ?_)
  intro g2 c2 w2 G2 B2 E2 O2
  have hmin : min keep f.stk.length = keep := by omega
  rw [hmin] at G2 ⊢
  have U12 : Below w1.heap.size w1 w2 := ((Below.refl _ _).alloc (Nat.le_refl _) _).trans B2
  have U2 : Below w.heap.size w w2 := below_over U1 U12
  have G2' : GrowV w1.heap.size w2 (.slice (some ⟨g2, 0, none⟩) (f.stk.take keep).length c2) (f.stk.take keep) := by rw [HTL.out]; exact G2
  obtain ⟨cf', Tf', hT2⟩ := HT.out.setStk hB U2 (G2'.vz.weak fun k hk => ⟨Nat.le_trans U1.size hk.1, hk.2⟩)
  have y3 : w2.cell? ⟨G, q * 5 + 3, none⟩ = some (.slice (some ⟨gS, 0, none⟩) f.stk.length cS) := (HT.out.on U2).cell (d := 3) (by omega)
  have z3 := (HT.out.on U2).frz (q * 5 + 3)
  have hBG : B ≤ G := HT.out.own.low G (.inr (.inl (.inl rfl)))
  have hO : Only G w2 (w2.setCell ⟨G, q * 5 + 3, none⟩ (.slice (some ⟨g2, 0, none⟩) keep c2)) := (Only.refl _ _).set _ _
  have I3 : Hid (Cells (w2.setCell ⟨G, q * 5 + 3, none⟩ (.slice (some ⟨g2, 0, none⟩) keep c2)) b5 [.int .i64 17, .int .i64 A, .int .i64 Bi]) := (HI.out.on U2).onlyM hO hb5
  rw [HTL.out] at hT2
  have HT2 : Hid (Tp B M (w2.setCell ⟨G, q * 5 + 3, none⟩ (.slice (some ⟨g2, 0, none⟩) keep c2)) { m with frames := m.frames.set q { f with stk := f.stk.take keep } } (q + 1) q { f with stk := f.stk.take keep } G fcap (.slice (some ⟨g2, 0, none⟩) keep c2) vL vh vs ch cf' Th Tf') := hT2
  have hb3 : Below B w (w2.setCell ⟨G, q * 5 + 3, none⟩ (.slice (some ⟨g2, 0, none⟩) keep c2)) := (U2.mono hB).setCell hBG _
  have hs3 : B ≤ (w2.setCell ⟨G, q * 5 + 3, none⟩ (.slice (some ⟨g2, 0, none⟩) keep c2)).heap.size := Nat.le_trans hB hb3.size
  have HA3 : Hid (SV true 0 (w2.setCell ⟨G, q * 5 + 3, none⟩ (.slice (some ⟨g2, 0, none⟩) keep c2)) (.slice (some ⟨g1, 0, none⟩) (f.stk.drop keep).length c1) (f.stk.drop keep)) :=
    (((HG1.out.vz).on U12).moved (by simp) (fun k hk _ => hO.block k (by have := hk.1; omega))).sv
  have hdn : (f.stk.drop keep).length ≤ 8 := by have := HDL.out; omega
  clear G2 B2 E2 O2 hT2 G2' HT HI HG1 HN1 HS3 U1 U2 U12 hO d3 hbE hbE1 hki hkc hlc hkl hcap
  go_upto_region 24 with fail
  rw [HDL.out] at HA3 hdn
  generalize w2.setCell ⟨G, q * 5 + 3, none⟩ (.slice (some ⟨g2, 0, none⟩) keep c2) = w3 at *
  clear y3 z3
  obtain ⟨i0, hif, hz0, hz1, hz2⟩ := info_parts infoFrame
  have hD : Below w3.heap.size w3 w3.drew := (Below.refl _ _).drew
  have hlen3 : (m.frames.set q { f with stk := f.stk.take keep }).length = q + 1 := HT2.out.len
  have m1d : w3.drew.cell? ⟨M, 1, none⟩ = some (.slice (some ⟨G, 0, none⟩) (q + 1) fcap) := (HT2.out.on hD).cells.g1.1
  have i2d := (I3.out.on hD).g2.1
  have HCA : Hid (Calls Try.prog 83 #[.int .i64 cto, .int .i64 Bi, .slice (some ⟨g1, 0, none⟩) (f.stk.length - keep) c1] w3.drew fun e w' => ∃ x y, e = .returned (.agg #[.int .i64 cto, .int .i64 Bi, .int .i64 0, .slice none 0 0, .slice x 8 y]) ∧ VZ (fun k => w3.drew.heap.size < k ∧ k < w'.heap.size) w' (.slice x 8 y) (frmV (f.stk.drop keep)) ∧ Below w3.drew.heap.size w3.drew w') := by
    have := l8Frame_at 0 cto Bi ⟨g1, 0, none⟩ c1 (f.stk.drop keep) (by rw [HDL.out]; exact hdn) w3.drew (SV.on (by rw [HDL.out]; exact HA3.out) (Keep.of hD))
    rw [HDL.out] at this
    exact this
  have HM1 : Hid (∀ w4, Below w3.drew.heap.size w3.drew w4 → w4.cell? ⟨M, 1, none⟩ = some (.slice (some ⟨G, 0, none⟩) (q + 1) fcap)) := fun w4 hb4 => (HT2.out.on (below_over hD hb4)).cells.g1.1
  have HM2 : Hid (∀ w4 x y, Below w3.drew.heap.size w3.drew w4 → (w4.alloc (.cells #[.int .i64 cto, .int .i64 Bi, .int .i64 0, .slice none 0 0, .slice x 8 y] 49)).cell? ⟨M, 1, none⟩ = some (.slice (some ⟨G, 0, none⟩) (q + 1) fcap)) := fun w4 x y hb4 => ((HT2.out.on (below_over hD hb4)).on ((Below.refl _ _).alloc (Nat.le_refl _) _)).cells.g1.1
  have HOW : Hid (∀ w4 ob, Below w3.drew.heap.size w3.drew w4 → (w4.alloc ob).ownsRow B 49 5 (.slice (some ⟨G, 0, none⟩) (q + 1) fcap) (q + 1) (recs recF (m.frames.set q { f with stk := f.stk.take keep }) cf').flatten) := fun w4 ob hb4 => by
    have := ownOn (ownOn HT2.out.own.f.own (below_over hD hb4)) ((Below.refl _ _).alloc (Nat.le_refl _) ob)
    rw [hlen3] at this
    exact this
  have HCE : Hid (∀ (w4 : World) (x : Option Addr) (y : Nat) (j : Nat) (u : Value), ([.int .i64 cto, .int .i64 Bi, .int .i64 0, .slice none 0 0, .slice x 8 y] : List Value)[j]? = some u → (w4.alloc (.cells #[.int .i64 cto, .int .i64 Bi, .int .i64 0, .slice none 0 0, .slice x 8 y] 49)).cell? ((⟨w4.heap.size, 0, none⟩ : Addr).add j) = some u) := fun w4 x y j u hu => by
    rw [Go.WideShapes.add_plain, Nat.zero_add]
    exact (Cells.new w4 _ rfl [.int .i64 cto, .int .i64 Bi, .int .i64 0, .slice none 0 0, .slice x 8 y] 49 j u hu).1
  have hone : ∀ (x : Option Addr) (y : Nat) (u : Value), u ∈ ([.int .i64 cto, .int .i64 Bi, .int .i64 0, .slice none 0 0, .slice x 8 y] : List Value) → u.oneCell' = true := by simp [Value.oneCell']
  have h63 : q + 1 + 1 ≤ maxLen := by unfold maxLen; omega
  have hby : (q + 1 + 1) * 72 ≤ 140737488355328 := by omega
  have hn0 : q + 1 + 1 ≠ 0 := by omega
  have HBW : Hid (∀ w4 ob, Below w3.drew.heap.size w3.drew w4 → B ≤ (w4.alloc ob).heap.size) := fun w4 ob hb4 => by
    have h4 := hb4.size; have h5 : w3.drew.heap.size = w3.heap.size := rfl
    rw [World.size_alloc]; omega
  have HST : Hid (∀ w4 ob W', Below w3.drew.heap.size w3.drew w4 → (w4.alloc ob).grownBy W' (Value.slice (some ⟨G, 0, none⟩) (q + 1) fcap).ownBlock → W'.cell? ⟨M, 1, none⟩ = some (.slice (some ⟨G, 0, none⟩) (q + 1) fcap) ∧ W'.frozen? ⟨M, 1, none⟩ = false) := fun w4 ob W' hb4 hW' => by
    have hTT := (HT2.out.on (below_over hD hb4)).on ((Below.refl w4.heap.size w4).alloc (Nat.le_refl _) ob)
    have e := hW'.block M hTT.mlt fun e => HT2.out.gm (by simpa [Value.ownBlock] using e.symm)
    exact ⟨(World.cell?_of_block (w := w4.alloc ob) e).trans hTT.cells.g1.1, (World.frozen?_of_block (w := w4.alloc ob) e).trans hTT.cells.g1.2⟩
  apply meetM
  case h =>
    intro hp
    go_region_law (first
      | (go_simp; go_at_call 83; refine HCA.out.mono ?_; rintro e w4 ⟨x, y, rfl, hV, hb4⟩; have m14 := HM1.out w4 hb4; have m15 := HM2.out w4 x y hb4; dsimp only)
      | (refine stepAppAtM _ rfl (.tmp 161) (.tmp 167) 42 rfl B 49 i0 (.agg #[.int .i64 0, .int .i64 0, .int .i64 0, .slice none 0 0, .slice none 0 0]) 5 72 Try.underlying42 hif hz0 hz1 hz2 rfl (by decide) (.slice (some ⟨G, 0, none⟩) (q + 1) fcap) (q + 1) (recs recF (m.frames.set q { f with stk := f.stk.take keep }) cf').flatten (by simp [Act.eval]) (HOW.out _ _ hb4) ⟨w4.heap.size, 0, none⟩ 1 1 [.int .i64 cto, .int .i64 Bi, .int .i64 0, .slice none 0 0, .slice x 8 y] (by simp [Act.eval]) rfl (HCE.out _ _ _) (hone _ _) h63 hby (HBW.out _ _ hb4) ?_; intro v1 w5 hown1 hgr1 hiff1 hat1; obtain ⟨g3, c3, hv1⟩ := own_form hown1 hn0; subst hv1; clear hiff1; obtain ⟨y2, z2⟩ := HST.out _ _ w5 hb4 hgr1; dsimp only))
    all_goals (clear y2 z2 m14 m15; revert w5 g3 c3 x y w4; exact hp)
  intro w4 x y hV hb4 w5 hgr1 g3 c3 hown1 hat1
  have hX4 : Below w3.heap.size w3 w4 := below_over hD hb4
  have hXD : Below w3.heap.size w3 (w4.alloc (.cells #[.int .i64 cto, .int .i64 Bi, .int .i64 0, .slice none 0 0, .slice x 8 y] 49)) := hX4.alloc hX4.size _
  have hM := HT2.out.more hs3 hXD (w' := w5) (v' := .slice (some ⟨g3, 0, none⟩) (q + 1 + 1) c3) (y := .slice x 8 y) (x := ⟨cto, Bi, 0, [], frmV (f.stk.drop keep)⟩) rfl ((hV.on ((Below.refl _ _).alloc (Nat.le_refl _) _)).weak fun k hk => ⟨by have := hk.1; have h5 : w3.drew.heap.size = w3.heap.size := rfl; omega, by have := hk.2; simp; omega⟩) hown1 hgr1 hat1
  have hBM : B ≤ M := HT2.out.low
  have hBZ : Below B w (w5.setCell ⟨M, 1, none⟩ (.slice (some ⟨g3, 0, none⟩) (q + 1 + 1) c3)) := ((hb3.trans (hXD.mono hs3)).grown hgr1 (HBW.out _ _ hb4) (fun k hk => by simp [Value.ownBlock] at hk; subst hk; exact hBG)).setCell hBM _
  dsimp only at hM
  rw [← withTop_set hq] at hM
  have HF := HR.out _ hM hBZ
  clear hown1 hgr1 hat1 HOW HCE HST HM1 HM2 HCA HBW hM hV
  go_wp2_with fail
  exact HF
end Pg
end Go.Proofs.Ytffkkhaiedhaiaa
