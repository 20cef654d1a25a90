/- The contract of the program's Single. -/
import Derived.Test.YtdomclicgajihaaJZd1
import Derived.Test.YtdomclicgajihaaJZc6
import Derived.Test.YtdomclicgajihaaJPm1
namespace Go.Proofs.Ytdomclicgajihaa
namespace Pg
open Go.ChangeShapes Go.WideShapes Go.ChangeAt Go.RowKit St

theorem keepP_small {p : Prg} (h : SmallP p) (G : Nat → Meth → Bool) : SmallP (keepP G p) := by
  refine ⟨by rw [keepP_len]; exact h.1, fun c hc => ?_⟩
  obtain ⟨i, hi, rfl⟩ := List.getElem_of_mem hc
  have hi' : i < p.length := by rwa [keepP_len] at hi
  have e : (keepP G p)[i] = keepC G i p[i] := List.getElem_mapIdx
  rw [e]
  obtain ⟨h1, h2, h3⟩ := h.2 _ (List.getElem_mem hi')
  exact ⟨h1, Nat.le_trans (List.length_filter_le _ _) h2, fun m hm => h3 m (List.mem_filter.1 hm).1⟩
/-- What Single keeps of a class. -/
def sngG (p : Prg) (i : Nat) (m : Meth) : Bool := match p[i]? with | some c => !dblB p c m | none => true
theorem sngG_at {p : Prg} {i : Nat} {c : Cls} (h : p[i]? = some c) (m : Meth) : sngG p i m = !dblB p c m := by unfold sngG; rw [h]
theorem keepP_sng {p : Prg} (hok : okP p = true) : keepP (sngG p) p = sngP p := by
  unfold sngP
  rw [if_pos hok]
  refine List.ext_getElem? (fun i => ?_)
  unfold keepP
  rw [List.getElem?_mapIdx, List.getElem?_map]
  cases hc : p[i]? with
  | none => rfl
  | some c =>
    show some (keepC (sngG p) i c) = some (sngC p c)
    unfold keepC sngC
    rw [List.filter_congr (fun m _ => sngG_at hc m)]

set_option maxRecDepth 100000 in
set_option maxHeartbeats 2000000 in
theorem single1 (B : Nat) (p : Prg) (a : Option Addr) (cap : Nat) (hok : okP p = true) (hsp : SmallP p) (cb i : Nat) (c : Cls) (hc : p[i]? = some c) (w0 X : World) (hX : Below w0.heap.size w0 X) (hp : SK front B w0 (.slice a p.length cap) p) (h1 : X.cell? ⟨cb, 0, none⟩ = some (.slice a p.length cap)) :
    Calls Try.prog 24 #[.int .i64 (i : Int), .pointer (some ⟨cb, 0, none⟩)] X fun e w' => ∃ bo, e = .returned (.agg #[.func (.func 48) #[] #[.pointer (some ⟨bo, 0, none⟩)]]) ∧ Below X.heap.size X w' ∧ Hid (∀ m ∈ c.meths, ∀ va vc, MV front B w0 va vc m → ∀ Y, Below w'.heap.size w' Y → Calls Try.prog 48 #[.agg #[.int .i64 m.name, va, .int .i64 m.gives, vc], .pointer (some ⟨bo, 0, none⟩)] Y fun e w'' => e = .returned (.bool (sngG p i m)) ∧ Below Y.heap.size Y w'') := by
  have HOK : Hid (okP p = true) := hok
  have HSP : Hid (SmallP p) := hsp
  have HC : Hid (p[i]? = some c) := hc
  have HP : Hid (SK front B w0 (.slice a p.length cap) p) := hp
  clear hok hsp hc hp
  obtain ⟨V, hV⟩ : ∃ V, V = X.alloc (.cells #[Value.nilFunc] 47) := ⟨_, rfl⟩
  have hXV : Below X.heap.size X V := by rw [hV]; exact (Below.refl _ _).alloc (Nat.le_refl _) _
  have RV : Hid (Cells V X.heap.size [Value.nilFunc]) := by rw [hV]; exact Cells.new X _ rfl _ _
  have h1V : (X.alloc (.cells #[Value.nilFunc] 47)).cell? ⟨cb, 0, none⟩ = some (.slice a p.length cap) := by rw [← hV]; exact (hXV.cell (cell_lt h1)).trans h1
  clear h1
  go_enter Try.func24, Try.ntmps24
  go_wp2_with fail
  rw [← hV]
  clear hV h1V
  refine (doublesOf a p.length cap (i : Int) V).mono ?_
  rintro e wA ⟨rfl, hA1, hA2, hbA⟩
  go_wp2_with fail
  refine (others V.heap.size (V.heap.size + 1) wA).mono ?_
  rintro e wO ⟨rfl, hO, hbO⟩
  obtain ⟨r0, q0⟩ := ((RV.out.on hbA).on hbO).g0
  have e0 := (((RV.out.on hbA).on hbO).s0 (.func (.func 48) #[] #[.pointer (some ⟨wA.heap.size, 0, none⟩)])).g0.1
  have hXO : Below X.heap.size X wO := below_over (below_over hXV hbA) hbO
  have hXR : Below X.heap.size X (wO.setCell ⟨X.heap.size, 0, none⟩ (.func (.func 48) #[] #[.pointer (some ⟨wA.heap.size, 0, none⟩)])) := hXO.setCell (p := ⟨X.heap.size, 0, none⟩) (Nat.le_refl _) _
  have hXs : X.heap.size < V.heap.size := St.cell_lt RV.out.g0.1
  have hVs : V.heap.size ≤ wA.heap.size := hbA.size
  have HR : Hid (∀ Y, Below (wO.setCell ⟨X.heap.size, 0, none⟩ (.func (.func 48) #[] #[.pointer (some ⟨wA.heap.size, 0, none⟩)])).heap.size (wO.setCell ⟨X.heap.size, 0, none⟩ (.func (.func 48) #[] #[.pointer (some ⟨wA.heap.size, 0, none⟩)])) Y → Y.cell? ⟨wA.heap.size, 0, none⟩ = some (.func (.func 46) #[] #[.pointer (some ⟨V.heap.size, 0, none⟩), .pointer (some ⟨V.heap.size + 1, 0, none⟩)]) ∧ Y.cell? ⟨V.heap.size, 0, none⟩ = some (.slice a p.length cap) ∧ Y.cell? ⟨V.heap.size + 1, 0, none⟩ = some (.int .i64 (i : Int)) ∧ Below w0.heap.size w0 Y) := fun Y hY => by
    have hk : ∀ b v, wO.cell? ⟨b, 0, none⟩ = some v → b ≠ X.heap.size → Y.cell? ⟨b, 0, none⟩ = some v := fun b v h hne => by
      have h2 : (wO.setCell ⟨X.heap.size, 0, none⟩ (.func (.func 48) #[] #[.pointer (some ⟨wA.heap.size, 0, none⟩)])).cell? ⟨b, 0, none⟩ = some v := (World.cell?_setCell_other _ _ _ _ (by intro h; injection h; omega)).trans h
      exact (hY.cell (cell_lt h2)).trans h2
    exact ⟨hk _ _ hO (by omega), hk _ _ ((hbO.cell (cell_lt hA1)).trans hA1) (by omega), hk _ _ ((hbO.cell (cell_lt hA2)).trans hA2) (by omega), hX.trans ((below_over hXR hY).mono hX.size)⟩
  clear hbA hbO hXO hO hA1 hA2
  go_wp2
  refine bodyPost_ret (v := .agg #[.func (.func 48) #[] #[.pointer (some ⟨wA.heap.size, 0, none⟩)]]) (by simp [results, Try.results24, go_sem, e0]) rfl ?_
  refine ⟨wA.heap.size, rfl, hXR, fun m hm va vc hmv Y hY => ?_⟩
  obtain ⟨k1, k2, k3, k4⟩ := HR.out Y hY
  rw [sngG_at HC.out m]
  have hsm := (HSP.out.2 _ (List.mem_of_getElem? HC.out)).2.2 m hm
  refine others1 V.heap.size (V.heap.size + 1) wA.heap.size m va vc hmv.1.form (front.form hmv.2) (dblB p c m) Y k1 (fun Z hZ => ?_)
  have hwZ : Below w0.heap.size w0 Z := k4.trans (hZ.mono k4.size)
  exact doublesOf1 B B p a cap i c HC.out HOK.out HSP.out V.heap.size (V.heap.size + 1) m hsm.2 va vc Z (SK.on HP.out (Keep.of hwZ)) ((hZ.cell (cell_lt k2)).trans k2) ((hZ.cell (cell_lt k3)).trans k3) (hmv.on (Keep.of hwZ))
set_option maxRecDepth 100000 in
set_option maxHeartbeats 8000000 in
theorem implSingle (B : Nat) (p : Prg) (a : Option Addr) (cap : Nat) (hsp : SmallP p) (w : World) (hp : SK front B w (.slice a p.length cap) p) :
    Calls Try.prog 8 #[.agg #[.slice a p.length cap]] w fun e w' => ∃ v, e = .returned (.agg #[v]) ∧ SK front w.heap.size w' v (sngP p) ∧ (adP w' v (sngP p)).Nodup ∧ Below w.heap.size w w' := by
  have HSP : Hid (SmallP p) := hsp
  have HP : Hid (SK front B w (.slice a p.length cap) p) := hp
  clear hp hsp
  obtain ⟨s, hs⟩ : ∃ s, w.heap.size = s := ⟨_, rfl⟩
  obtain ⟨W, hW⟩ : ∃ W, W = (w.alloc (.cells #[.slice a p.length cap] 28)).alloc (.cells #[.slice none 0 0] 28) := ⟨_, rfl⟩
  have hwW : Below w.heap.size w W := by rw [hW]; exact ((Below.refl _ _).alloc (Nat.le_refl _) _).alloc (by simp) _
  have P0 : Hid (Cells W w.heap.size [.slice a p.length cap]) := by show Cells _ _ _; rw [hW]; exact (Cells.new w _ rfl _ _).alloc _
  have R0 : Hid (Cells W (w.heap.size + 1) [.slice none 0 0]) := by show Cells _ _ _; rw [hW]; exact Cells.new (w.alloc _) _ (by simp) _ _
  rw [hs] at P0 R0
  rw [hs]
  go_enter Try.func8, Try.ntmps8
  go_wp2_with fail
  try rw [hs]
  rw [← hW]
  clear hW
  refine (implProgramOk B p a cap HSP.out _ (SK.on HP.out (Keep.of hwW))).mono ?_
  rintro e w1 ⟨rfl, hb1⟩
  have hw1 : Below s w w1 := by rw [← hs]; exact below_over hwW hb1
  have P1 : Hid (Cells w1 s [.slice a p.length cap]) := P0.out.on hb1
  have R1 : Hid (Cells w1 (s + 1) [.slice none 0 0]) := R0.out.on hb1
  clear hb1 P0 R0 hwW
  cases hok : okP p
  · obtain ⟨r0, q0⟩ := R1.out.g0
    have e0 := (R1.out.s0 (.slice none 0 0)).g0.1
    have HS : Hid (sngP p = []) := by show _ = _; unfold sngP; rw [hok]; rfl
    have HB : Hid (Below s w (w1.setCell ⟨s + 1, 0, none⟩ (.slice none 0 0))) := hw1.setCell (p := ⟨s + 1, 0, none⟩) (by show s ≤ s + 1; omega) _
    clear hok
    go_wp2
    refine bodyPost_ret (v := .agg #[.slice none 0 0]) (by simp [results, Try.results8, go_sem, e0]) rfl ?_
    first | exact ⟨_, rfl, by rw [HS.out]; exact sk_none _ _, by rw [HS.out]; exact List.Pairwise.nil, HB.out⟩ | exact ⟨rfl, by rw [HS.out]; exact sk_none _ _, by rw [HS.out]; exact List.Pairwise.nil, HB.out⟩
  · have HOK : Hid (okP p = true) := hok
    have hn6 : p.length ≤ 6 := (okP_len hok).2
    clear hok
    obtain ⟨r0, q0⟩ := R1.out.g0
    have hp1 := P1.out.g0.1
    have HWW : Hid (∀ (i : Nat) (c : Cls), p[i]? = some c → ∀ X, Below w1.heap.size w1 X → Calls Try.prog 24 #[.int .i64 (i : Int), .pointer (some ⟨s, 0, none⟩)] X fun e w' => ∃ bo, e = .returned (.agg #[.func (.func 48) #[] #[.pointer (some ⟨bo, 0, none⟩)]]) ∧ Below X.heap.size X w' ∧ Hid (∀ m ∈ c.meths, ∀ va vc, MV front B w1 va vc m → ∀ Y, Below w'.heap.size w' Y → Calls Try.prog 48 #[.agg #[.int .i64 m.name, va, .int .i64 m.gives, vc], .pointer (some ⟨bo, 0, none⟩)] Y fun e w'' => e = .returned (.bool (sngG p i m)) ∧ Below Y.heap.size Y w'')) := fun i c hc X hX =>
      single1 B p a cap HOK.out HSP.out s i c hc w1 X hX (SK.on HP.out (Keep.of (by rw [hs]; exact hw1))) (P1.out.on hX).g0.1
    go_wp2_with fail
    refine (withOnlyS B p a cap s (sngG p) HSP.out hn6 w1 (SK.on HP.out (Keep.of (by rw [hs]; exact hw1))) HWW.out).mono ?_
    rintro e w2 ⟨v, rfl, hsk, hnd, hb2⟩
    rw [keepP_sng HOK.out] at hsk hnd
    obtain ⟨av, dv, rfl⟩ := hsk.form
    have hs1 : s + 1 < w1.heap.size := St.cell_lt R1.out.g0.1
    obtain ⟨r1, q1⟩ := (R1.out.on hb2).g0
    have e0 := ((R1.out.on hb2).s0 (.slice av (sngP p).length dv)).g0.1
    have hkeep : Keep w1.heap.size w2 (w2.setCell ⟨s + 1, 0, none⟩ (.slice av (sngP p).length dv)) := Keep.set w2 (p := ⟨s + 1, 0, none⟩) (by show s + 1 < w1.heap.size; omega) _
    have HSX : Hid (SK front s (w2.setCell ⟨s + 1, 0, none⟩ (.slice av (sngP p).length dv)) (.slice av (sngP p).length dv) (sngP p)) := (SK.on hsk hkeep).weak (by omega)
    have HNX : Hid ((adP (w2.setCell ⟨s + 1, 0, none⟩ (.slice av (sngP p).length dv)) (.slice av (sngP p).length dv) (sngP p)).Nodup) := by
      show List.Nodup _
      rw [adP_keep hsk hkeep]
      exact hnd
    have HBX : Hid (Below s w (w2.setCell ⟨s + 1, 0, none⟩ (.slice av (sngP p).length dv))) := (hw1.trans (hb2.mono (by omega))).setCell (p := ⟨s + 1, 0, none⟩) (by show s ≤ s + 1; omega) _
    clear hsk hnd hkeep hb2 HWW r0 q0 hp1
    go_wp2
    refine bodyPost_ret (v := .agg #[.slice av (sngP p).length dv]) (by simp [results, Try.results8, go_sem, e0]) rfl ?_
    first | exact ⟨_, rfl, HSX.out, HNX.out, HBX.out⟩ | exact ⟨rfl, HSX.out, HNX.out, HBX.out⟩
end Pg
end Go.Proofs.Ytdomclicgajihaa

/- What marking a program leaves as it was: rows of numbers elsewhere. -/
namespace Go.Proofs.Ytdomclicgajihaa
namespace Pg
open Go.ChangeShapes Go.WideShapes Go.ChangeAt Go.RowKit St

theorem Mrk.irow {B1 B2 : Nat} {u v : World} (h : Mrk B1 B2 u v) {g o : Nat} {l : List Int} (hg : g < B1 ∨ B2 ≤ g) (hr : IRow u g o l) : IRow v g o l := fun j x hj => (World.cell?_of_block (w := u) (h.far g (cell_lt (hr j x hj)) hg)).trans (hr j x hj)
theorem Mrk.room {B1 B2 : Nat} {u v : World} (h : Mrk B1 B2 u v) {g n : Nat} (hg : g < B1 ∨ B2 ≤ g) (hr : Room u g n) : Room v g n := fun i hi => by
  obtain ⟨⟨x, hx⟩, hf⟩ := hr i hi
  have l : g < u.heap.size := cell_lt hx
  exact ⟨⟨x, (World.cell?_of_block (w := u) (h.far g l hg)).trans hx⟩, (World.frozen?_of_block (w := u) (h.far g l hg)).trans hf⟩

end Pg
end Go.Proofs.Ytdomclicgajihaa
