/- The search goes on: a call meets the classes below that are made. -/
import Derived.Test.YtinanjjhkddikaaGreatJSg1
import Derived.Test.YtinanjjhkddikaaGreatJHi7
import Derived.RangeFuncWrites
import Derived.Deep.RegionHeld3
import Derived.Test.YtinanjjhkddikaaGreatJSg0
import Derived.Test.YtinanjjhkddikaaGreatJHi0
namespace Go.Proofs.YtinanjjhkddikaaGreat
namespace Pg
open Go.ChangeShapes Go.WideShapes Go.ChangeAt Go.RowKit Go.Shelf St Wd
attribute [local go_sem] Oper.semAt_some
theorem RF.not_row {B : Nat} {w : World} {v : Value} {T : List Fd} (h : RF B w v T) {r : Nat} {o : Obj} (ho : w.heap[r]? = Option.some o) (hc : o.isCells = false) : v.ownBlock ≠ Option.some r := fun e => by
  rcases h.2 with ⟨hv, _⟩ | ⟨g, cap, cur, hv, _, hb, _⟩
  · rw [hv] at e; simp [Value.ownBlock] at e
  · rw [hv] at e
    simp [Value.ownBlock] at e
    subst e
    rw [hb] at ho
    injection ho with ho
    subst ho
    simp [Obj.isCells] at hc
theorem Adds.grown {B0 sb mb B : Nat} {pv : Value} {w W W' : World} {v v' : Value} {F T F' T' : List Fd} {P : Fd → Prop} {row : Option Nat} (h : Adds B0 sb mb pv w v F T P W v' F' T') (hg : W.grownBy W' row) (hw : w.heap.size ≤ B) (hs : sb < B) (hm : mb < B) (hr : ∀ r, row = some r → B ≤ r ∧ ∃ o : Obj, W.heap[r]? = some o ∧ o.isCells = false) : Adds B0 sb mb pv w v F T P W' v' F' T' := by
  have n1 : ∀ k, k < B → row ≠ some k := fun k hk e => by have := (hr k e).1; omega
  have n2 : ∀ r, row = some r → v'.ownBlock ≠ some r := fun r e => by obtain ⟨_, o, ho, hc⟩ := hr r e; exact h.st.row.not_row ho hc
  refine ⟨⟨h.st.cells.grownF hg (n1 _ hs), h.st.map.kept hg (fun e => n1 _ hm e.symm), h.st.row.kept hg ?_, h.st.few, h.st.nd, h.st.tl, h.st.b1, h.st.b2, h.st.ne, h.st.o1, h.st.o2⟩, h.ext, ⟨⟨hg.os.trans h.fr.tch.os, hg.tape.trans h.fr.tch.tape, hg.output.trans h.fr.tch.output, Nat.le_trans h.fr.tch.size hg.size, fun k hk hn => ?_⟩, h.fr.own⟩, h.new⟩
  · cases hq : row with
    | none => cases ho : v'.ownBlock with
      | none => exact .inl rfl
      | some g => exact .inr (by simp)
    | some r => exact .inr (n2 r hq)
  · exact (hg.block k (Nat.lt_of_lt_of_le hk h.fr.tch.size) (fun e => n1 k (by omega) e.symm)).trans (h.fr.tch.far k hk hn)
theorem FarS.on {sb mb : Nat} {w w' : World} {v : Value} {k : Nat} (h : FarS sb mb w v k) (hs : w.heap.size ≤ w'.heap.size) : FarS sb mb w' v k := ⟨h.s, h.m, h.v, Nat.lt_of_lt_of_le h.lt hs⟩
theorem Srch.keeps {B0 sb mb B : Nat} {pv : Value} {w w' : World} {v v' : Value} {F T : List Fd} (h : Srch B0 sb mb pv w v F T) (f : Frs sb mb w v w' v') (hs : sb < B) (hm : mb < B) : KeepsFrom B w w' :=
  ⟨f.tch.size, fun k o hB hk hc => by
    refine (f.tch.far k (Array.getElem?_eq_some_iff.1 hk).1 fun e => ?_).trans hk
    rcases e with e | e | e
    · omega
    · omega
    · exact h.row.not_row hk hc e⟩
/-- What stands between the rounds of a range over classes: what has been added, the boxes of the function's own. -/
def Rng (B0 sb mb : Nat) (pv : Value) (w : World) (v : Value) (F T : List Fd) (bs : List (Nat × TypeId × Value)) (Q : List Fd → Prop) (W : World) : Prop :=
  ∃ v' F' T', Adds B0 sb mb pv w v F T (fun _ => True) W v' F' T' ∧ (∀ x ∈ bs, Boxed W x.1 x.2.1 x.2.2 ∧ FarS sb mb W v' x.1) ∧ Q F'
theorem Rng.grown {B0 sb mb B : Nat} {pv : Value} {w W W' : World} {v : Value} {F T : List Fd} {bs : List (Nat × TypeId × Value)} {Q : List Fd → Prop} {row : Option Nat} (h : Rng B0 sb mb pv w v F T bs Q W) (hg : W.grownBy W' row) (hw : w.heap.size ≤ B) (hs : sb < B) (hm : mb < B) (hr : ∀ r, row = some r → B ≤ r ∧ ∃ o : Obj, W.heap[r]? = some o ∧ o.isCells = false) : Rng B0 sb mb pv w v F T bs Q W' := by
  obtain ⟨v', F', T', hA, hb, hQ⟩ := h
  refine ⟨v', F', T', hA.grown hg hw hs hm hr, fun x hx => ?_, hQ⟩
  obtain ⟨h1, h2⟩ := hb x hx
  refine ⟨h1.kept hg (fun e => ?_), h2.on hg.size⟩
  obtain ⟨_, o, ho, hc⟩ := hr _ e.symm
  rw [show W.heap[x.1]? = _ from h1] at ho
  cases ho
  cases hc
theorem boxes_next {sb mb : Nat} {u w : World} {v v' : Value} {bs : List (Nat × TypeId × Value)} (h : ∀ x ∈ bs, Boxed u x.1 x.2.1 x.2.2 ∧ FarS sb mb u v x.1) (f : Frs sb mb u v w v') : ∀ x ∈ bs, Boxed w x.1 x.2.1 x.2.2 ∧ FarS sb mb w v' x.1 := fun x hx => by
  obtain ⟨h1, h2⟩ := h x hx
  obtain ⟨k1, k2⟩ := h2.next f
  exact ⟨k2.trans h1, k1⟩
/-- What the classes that have been met may have brought. -/
def NewE (p : Prg) (n : Int) (F : List Fd) (ds : List Int) (F' : List Fd) : Prop := ∀ g ∈ F', g ∈ F ∨ SndF p g ∨ ∃ d s : Nat, (d : Int) ∈ ds ∧ Rd p false d 0 ∧ selF p (d : Int) n = (s : Int) ∧ g = (1, (s : Int), n)
set_option maxRecDepth 100000 in
set_option maxHeartbeats 1000000 in
theorem followCall_at (Bp : Nat) (p : Prg) (hok : okP p = true) (hsp : SmallP p) (w0 : World) (sb mb cap : Nat) (a : Option Addr) (hsk : SK front Bp w0 (.slice a p.length cap) p) (v : Value) (F T : List Fd) (c : Nat) (hc : c < p.length) (n : Int) (w : World) (hb0 : Below w0.heap.size w0 w) (hS : Srch w0.heap.size sb mb (.slice a p.length cap) w v F T)
    (hn : 0 ≤ n ∧ n < 20) (hFS : ∀ f ∈ F, SndF p f) (hP1 : ∀ s : Nat, selF p (c : Int) n = (s : Int) → SndF p (1, (s : Int), n)) (hP2 : ∀ d s : Nat, Rd p false d 0 → undB p (d : Int) (c : Int) = true → selF p (d : Int) n = (s : Int) → SndF p (1, (s : Int), n)) :
    Calls Tryz.prog 81 #[.pointer (some ⟨sb, 0, none⟩), .int .i64 (c : Int), .int .i64 n] w fun e w' => e = .returned (.tuple #[]) ∧ ∃ v' F' T', Adds w0.heap.size sb mb (.slice a p.length cap) w v F T (SndF p) w' v' F' T' ∧ Hid ((∀ s : Nat, selF p (c : Int) n = (s : Int) → ((1, (s : Int), n) : Fd) ∈ F') ∧ ∀ d s : Nat, ((0, (d : Int), 0) : Fd) ∈ F → undB p (d : Int) (c : Int) = true → selF p (d : Int) n = (s : Int) → ((1, (s : Int), n) : Fd) ∈ F') := by
  have h6 := (okP_len hok).2
  have HSU : Hid (SupOk p p.length) := okP_sup hok
  have HSK : Hid (SK front Bp w0 (.slice a p.length cap) p) := hsk
  have HP2 : Hid (∀ d s : Nat, Rd p false d 0 → undB p (d : Int) (c : Int) = true → selF p (d : Int) n = (s : Int) → SndF p (1, (s : Int), n)) := hP2
  have HFS : Hid (∀ f ∈ F, SndF p f) := hFS
  obtain ⟨A, hA⟩ : ∃ A, w.heap.size = A := ⟨_, rfl⟩
  obtain ⟨V, hV⟩ : ∃ V, V = (w.alloc (.cells #[.pointer (some ⟨sb, 0, none⟩)] 48)).alloc (.cells #[.int .i64 n] 2) := ⟨_, rfl⟩
  have hwV : Below w.heap.size w V := by rw [hV]; exact ((Below.refl _ _).alloc (Nat.le_refl _) _).alloc (by simp) _
  have XA : Hid (Boxed V A 48 (.pointer (some ⟨sb, 0, none⟩))) := by rw [hV, ← hA]; exact (Boxed.new w _ _).alloc _
  have XN : Hid (Boxed V (A + 1) 2 (.int .i64 n)) := by
    have h := Boxed.new (w.alloc (.cells #[.pointer (some ⟨sb, 0, none⟩)] 48)) 2 (.int .i64 n)
    simp only [World.size_alloc] at h
    rw [hV, ← hA]; exact h
  have hBw : w0.heap.size ≤ w.heap.size := hb0.size
  have hsel := selects_at Bp p hok hsp w0.heap.size sb mb cap a v F T c hc n V (Nat.le_trans hBw hwV.size) (hS.on hwV) (SK.on hsk (Keep.of (hb0.trans (hwV.mono hBw)))) hn hP1
  clear hsk hP1 hP2 hFS
  have xa := XA.out.cell
  have xn := XN.out.cell
  refine (callsIn_wide (n := 4)).1 ?_
  refine callsIn_of_wp_marks Tryz.func81 rfl trivial ?_ rfl
  simp only [Tryz.ntmps81, List.size_toArray, List.length_cons, List.length_nil, Nat.reduceAdd, Nat.reduceSub, Array.replicate_succ, Array.replicate_zero, List.push_toArray, List.append_toArray, List.nil_append, List.cons_append]
  gi_wp2_with fail
  try rw [hA]
  rw [← hV]
  clear hV
  refine ⟨trivial, ?_⟩
  refine (callsIn_wide.2 hsel).mono ?_
  rintro e w1 ⟨rfl, v1, F1, T1, hA1, hm1⟩
  have HA1 : Hid (Adds w0.heap.size sb mb (.slice a p.length cap) w v F T (SndF p) w1 v1 F1 T1) := (Adds.start hS hwV).trans hA1
  have fa := (FarS.next (hS.far (w' := V) (k := A) (by omega) XA.out.lt) hA1.fr)
  have fn := (FarS.next (hS.far (w' := V) (k := A + 1) (by omega) XN.out.lt) hA1.fr)
  have XA1 : Hid (Boxed w1 A 48 (.pointer (some ⟨sb, 0, none⟩))) := fa.2.trans XA.out
  have XN1 : Hid (Boxed w1 (A + 1) 2 (.int .i64 n)) := fn.2.trans XN.out
  have FA1 : Hid (FarS sb mb w1 v1 A) := fa.1
  have FN1 : Hid (FarS sb mb w1 v1 (A + 1)) := fn.1
  have HM1 : Hid (∀ s : Nat, selF p (c : Int) n = (s : Int) → ((1, (s : Int), n) : Fd) ∈ F1) := hm1
  have hb1 : Below w0.heap.size w0 w1 := hb0.trans (HA1.out.below hS)
  have hz1 : w.heap.size ≤ w1.heap.size := HA1.out.fr.tch.size
  clear xa xn XA XN hsel hA1 hm1 fa fn
  have xa := XA1.out.cell
  have s0 := HA1.out.st.cells.g0.1
  gi_wp2_with (refine ⟨trivial, ?_⟩; gi_at_call 96; refine (downFrom_in _ a p.length cap (c : Int) _).mono ?_; rintro e w' ⟨rfl, rfl⟩)
  have b3 := Boxed.new w1 30 (.slice a p.length cap)
  have b4 := Boxed.new (w1.alloc (.cells #[.slice a p.length cap] 30)) 2 (.int .i64 (c : Int))
  simp only [World.size_alloc] at b4
  obtain ⟨W2, hW2⟩ : ∃ W2, W2 = (w1.alloc (.cells #[.slice a p.length cap] 30)).alloc (.cells #[.int .i64 (c : Int)] 2) := ⟨_, rfl⟩
  have h12 : Below w1.heap.size w1 W2 := by rw [hW2]; exact ((Below.refl _ _).alloc (Nat.le_refl _) _).alloc (by simp) _
  have hz2 : W2.heap.size = w1.heap.size + 1 + 1 := by rw [hW2]; simp
  have B3 : Boxed W2 w1.heap.size 30 (.slice a p.length cap) := by rw [hW2]; exact b3.alloc _
  have B4 : Boxed W2 (w1.heap.size + 1) 2 (.int .i64 (c : Int)) := by rw [hW2]; exact b4
  have HA2 : Hid (Adds w0.heap.size sb mb (.slice a p.length cap) w v F T (SndF p) W2 v1 F1 T1) := HA1.out.on h12
  have hsb : sb < w.heap.size := by have := cell_lt hS.cells.g0.1; exact this
  have hmb : mb < w.heap.size := hS.map.lt
  have hb2 : Below w0.heap.size w0 W2 := hb1.trans (h12.mono hb1.size)
  have HBX : Hid (∀ x ∈ ([(A, 48, .pointer (some ⟨sb, 0, none⟩)), (A + 1, 2, .int .i64 n), (w1.heap.size, 30, .slice a p.length cap), (w1.heap.size + 1, 2, .int .i64 (c : Int))] : List (Nat × TypeId × Value)), Boxed W2 x.1 x.2.1 x.2.2 ∧ FarS sb mb W2 v1 x.1) := fun x hx => by
    simp only [List.mem_cons, List.not_mem_nil, or_false] at hx
    rcases hx with rfl | rfl | rfl | rfl
    · exact ⟨(h12.block _ XA1.out.lt).trans XA1.out, FA1.out.on h12.size⟩
    · exact ⟨(h12.block _ XN1.out.lt).trans XN1.out, FN1.out.on h12.size⟩
    · exact ⟨B3, HA1.out.st.far (Nat.le_refl _) (by dsimp only; omega)⟩
    · exact ⟨B4, HA1.out.st.far (by dsimp only; omega) (by dsimp only; omega)⟩
  rw [← hW2]
  clear hW2 b3 b4 xa s0
  refine wpIn_rangeFunc_ownG rfl (show 1 ≤ 4 by omega) (gf := 107) (lb := #[.pointer (some ⟨w1.heap.size + 1, 0, none⟩), .pointer (some ⟨w1.heap.size, 0, none⟩)]) rfl trivial (enters_of Tryz.func107 (by kernel_rfl) rfl)
    (down_stops _ (by omega) (w1.heap.size + 1) w1.heap.size Bp p a cap c hc h6 HSU.out w0 _ HSK.out hb2 B4 B3) kp_t (kp_b (by omega) (by simp; omega)) (Below.refl _ _) (fun _ => rfl)
    (fun pre W => Rng w0.heap.size sb mb (.slice a p.length cap) w v F T [(A, 48, .pointer (some ⟨sb, 0, none⟩)), (A + 1, 2, .int .i64 n), (w1.heap.size, 30, .slice a p.length cap), (w1.heap.size + 1, 2, .int .i64 (c : Int))] (fun F' => NewE p n F (vals pre) F' ∧ (∀ f ∈ F1, f ∈ F') ∧ ∀ d s : Nat, (d : Int) ∈ vals pre → ((0, (d : Int), 0) : Fd) ∈ F → selF p (d : Int) n = (s : Int) → ((1, (s : Int), n) : Fd) ∈ F') W)
    (fun _ _ _ => False)
    (fun pre X Y row hs hg hr => hs.grown hg (by omega) (by omega) (by omega) hr)
    (fun _ _ _ _ _ hs _ _ => hs)
    ⟨v1, F1, T1, HA2.out.imp (fun _ _ => trivial), HBX.out, fun g hg => (HA2.out.new g hg).imp_right .inl, fun _ h => h, fun d s hd => by simp [vals] at hd⟩
    (fun x => { tmps := #[.pointer (some ⟨sb, 0, none⟩), .int .i64 (c : Int), .int .i64 n, .pointer (some ⟨A, 0, none⟩), undef, .pointer (some ⟨A + 1, 0, none⟩), .int .i64 x.1, .pointer (some ⟨sb, 0, none⟩), .int .i64 (c : Int), .int .i64 n, .tuple #[], .pointer (some ⟨sb, 0, none⟩), .pointer (some ⟨sb, 0, none⟩), .pointer (some ⟨sb, 0, none⟩), .agg #[.slice a p.length cap], .int .i64 (c : Int), .func (.func 107) #[] #[.pointer (some ⟨w1.heap.size + 1, 0, none⟩), .pointer (some ⟨w1.heap.size, 0, none⟩)], .int .i64 x.1, undef, undef, undef, undef, undef, undef, undef, undef], defers := [] }) ?assign ?body ?done ?stop
  case assign =>
    intro l x W K hK
    gi_wp2
    exact hK
  case body =>
    rintro l pre x W ⟨v', F', T', hA, hbs, hN, hF1, hQ⟩ _
    have HV : Hid (vals (pre ++ [x]) = vals pre ++ [x.1]) := vals_snoc pre x
    obtain ⟨xv, hx0, hx1⟩ := x
    obtain ⟨d, rfl⟩ := Int.eq_ofNat_of_zero_le hx0
    have hdp : d < p.length := by omega
    dsimp only at HV ⊢
    have c0 := (hbs _ (List.mem_cons_self)).1.cell
    have c1 := (hbs _ (List.mem_cons_of_mem _ List.mem_cons_self)).1.cell
    dsimp only at c0 c1
    have hhas := has_at w0.heap.size sb mb (.slice a p.length cap) v' F' T' (0, (d : Int), 0) (FewF.wf ⟨by dsimp only; omega, by dsimp only; omega, hx0, by dsimp only; omega, by dsimp only; omega, by dsimp only; omega⟩) W hA.st
    gi_wp2_with fail
    refine ⟨trivial, ?_⟩
    refine (callsIn_wide.2 hhas).mono ?_
    rintro e W1 ⟨rfl, hbW⟩
    have hbs0 := hbs
    have HMD : Hid (((0, (d : Int), 0) : Fd) ∈ F' → Rd p false d 0) := fun hm => by
      rcases hN _ hm with h | h | ⟨_, _, _, _, _, h⟩
      · have := ((HFS.out _ h).made rfl).2; simpa using this
      · have := (h.made rfl).2; simpa using this
      · simp at h
    have HFIN : Hid (∀ W3 v3 F3 T3, Adds w0.heap.size sb mb (.slice a p.length cap) W v' F' T' (fun g => ∃ s : Nat, selF p (d : Int) n = (s : Int) ∧ g = (1, (s : Int), n) ∧ ((0, (d : Int), 0) : Fd) ∈ F') W3 v3 F3 T3 → (∀ s : Nat, ((0, (d : Int), 0) : Fd) ∈ F' → selF p (d : Int) n = (s : Int) → ((1, (s : Int), n) : Fd) ∈ F3) →
        KeepsFrom W2.heap.size W W3 ∧ Kp w0.heap.size [w1.heap.size + 1, w1.heap.size] W W3 ∧ Rng w0.heap.size sb mb (.slice a p.length cap) w v F T [(A, 48, .pointer (some ⟨sb, 0, none⟩)), (A + 1, 2, .int .i64 n), (w1.heap.size, 30, .slice a p.length cap), (w1.heap.size + 1, 2, .int .i64 (c : Int))] (fun F' => NewE p n F (vals (pre ++ [⟨(d : Int), hx0, hx1⟩])) F' ∧ (∀ f ∈ F1, f ∈ F') ∧ ∀ d' s : Nat, (d' : Int) ∈ vals (pre ++ [⟨(d : Int), hx0, hx1⟩]) → ((0, (d' : Int), 0) : Fd) ∈ F → selF p (d' : Int) n = (s : Int) → ((1, (s : Int), n) : Fd) ∈ F') W3) := fun W3 v3 F3 T3 h3 hm3 => by
      refine ⟨hA.st.keeps h3.fr (by omega) (by omega), ⟨h3.fr.below hA.st, fun b hb _ => ?_⟩, v3, F3, T3, hA.trans (h3.imp fun _ _ => trivial), boxes_next hbs0 h3.fr, fun g hg => ?_, fun f hf => h3.ext.up f (hF1 f hf), fun d' s hd' hdF hs => ?_⟩
      · simp only [List.mem_cons, List.not_mem_nil, or_false] at hb
        rcases hb with rfl | rfl
        · exact ((hbs0 _ (List.mem_cons_of_mem _ (List.mem_cons_of_mem _ (List.mem_cons_of_mem _ List.mem_cons_self)))).2.next h3.fr).2
        · exact ((hbs0 _ (List.mem_cons_of_mem _ (List.mem_cons_of_mem _ List.mem_cons_self))).2.next h3.fr).2
      · rcases h3.new g hg with h | ⟨s, hs, rfl, hm⟩
        · rcases hN g h with k | k | ⟨d', s', k1, k2, k3, k4⟩
          · exact .inl k
          · exact .inr (.inl k)
          · exact .inr (.inr ⟨d', s', by rw [HV]; exact List.mem_append_left _ k1, k2, k3, k4⟩)
        · exact .inr (.inr ⟨d, s, by rw [HV]; simp, HMD.out hm, hs, rfl⟩)
      · rw [HV] at hd'
        rcases List.mem_append.1 hd' with h | h
        · exact h3.ext.up _ (hQ d' s h hdF hs)
        · have e : (d' : Int) = (d : Int) := List.mem_singleton.1 h
          rw [e] at hdF hs
          exact hm3 s (hA.ext.up _ hdF) hs
    have HA1' : Hid (Adds w0.heap.size sb mb (.slice a p.length cap) w v F T (fun _ => True) W1 v' F' T') := hA.on hbW
    have HW1 : Hid (Adds w0.heap.size sb mb (.slice a p.length cap) W v' F' T' (fun g => ∃ s : Nat, selF p (d : Int) n = (s : Int) ∧ g = (1, (s : Int), n) ∧ ((0, (d : Int), 0) : Fd) ∈ F') W1 v' F' T') := Adds.start hA.st hbW
    have hbs1 := boxes_next hbs (Frs.of v' hbW)
    have d0 := (hbs1 _ (List.mem_cons_self)).1.cell
    have d1 := (hbs1 _ (List.mem_cons_of_mem _ List.mem_cons_self)).1.cell
    dsimp only at d0 d1
    have hbW1 : Below w0.heap.size w0 W1 := hb0.trans (HA1'.out.below hS)
    clear hbs hbs0 hbs1 hhas c0 c1 hN hQ hF1 HBX
    by_cases hm : ((0, (d : Int), 0) : Fd) ∈ F'
    · rw [decide_eq_true hm]
      have hsel := selectsE_at Bp p hok hsp w0.heap.size sb mb cap a v' F' T' d hdp n W1 hbW1.size HA1'.out.st (SK.on HSK.out (Keep.of hbW1)) hn
      gi_wp2_with fail
      refine ⟨trivial, ?_⟩
      refine (callsIn_wide.2 hsel).mono ?_
      rintro e W3 ⟨rfl, v3, F3, T3, hA3, hm3⟩
      have hfin := HFIN.out W3 v3 F3 T3 (HW1.out.trans (hA3.imp fun g hg => by obtain ⟨s, h1, h2⟩ := hg; exact ⟨s, h1, h2, hm⟩)) (fun s _ hs => hm3 s hs)
      clear hsel hA3 hm3 HW1 HA1' HFIN HMD d0 d1
      gi_wp2
      exact hfin
    · rw [decide_eq_false hm]
      have hfin := HFIN.out W1 v' F' T' HW1.out (fun s h _ => absurd h hm)
      clear HW1 HA1' HFIN HMD d0 d1
      gi_wp2
      exact hfin
  case done =>
    rintro D ys W hD hys ⟨v', F', T', hA, hbs, hN, hF1, hQ⟩ hK
    have hpo : Adds w0.heap.size sb mb (.slice a p.length cap) w v F T (SndF p) (W.putObj D (.deferred none)) v' F' T' := by
      have h := hA.grown (B := W2.heap.size) (grownBy_putObj' W D (.deferred none)) (by omega) (by omega) (by omega) (fun r e => by cases e; exact ⟨hD, _, hK, rfl⟩)
      refine ⟨h.st, h.ext, h.fr, fun g hg => ?_⟩
      rcases hN g hg with k | k | ⟨d', s', k1, k2, k3, k4⟩
      · exact .inl k
      · exact .inr k
      · rw [hys] at k1
        subst k4
        exact .inr (HP2.out d' s' k2 (List.mem_filter.1 k1).2 k3)
    have hq : Hid ((∀ s : Nat, selF p (c : Int) n = (s : Int) → ((1, (s : Int), n) : Fd) ∈ F') ∧ ∀ d s : Nat, ((0, (d : Int), 0) : Fd) ∈ F → undB p (d : Int) (c : Int) = true → selF p (d : Int) n = (s : Int) → ((1, (s : Int), n) : Fd) ∈ F') := by
      refine ⟨fun s hs => hF1 _ (HM1.out s hs), fun d s hd hu hs => hQ d s ?_ hd hs⟩
      rw [hys]
      have hlt := (rd_there hok (by have := ((HFS.out _ hd).made rfl).2; simpa using this : Rd p false d 0)).1 rfl
      unfold downL allC
      exact List.mem_filter.2 ⟨List.mem_map.2 ⟨d, List.mem_range.2 hlt, rfl⟩, hu⟩
    clear hbs hN hF1 hQ HBX
    gi_wp2
    refine ⟨by simp, .inl ⟨_, _, rfl, run_takeDeferred hK, ?_⟩⟩
    first
      | exact ⟨_, results_none rfl _ _ _, rfl, v', F', T', hpo, hq⟩
      | (trace_state; sorry)
  case stop =>
    rintro D c pre W _ _ h _
    exact h.elim
end Pg
end Go.Proofs.YtinanjjhkddikaaGreat

/- The search goes on: a made class meets the calls of those above it. -/
namespace Go.Proofs.YtinanjjhkddikaaGreat
namespace Pg
open Go.ChangeShapes Go.WideShapes Go.ChangeAt Go.RowKit Go.Shelf St Wd
attribute [local go_sem] Oper.semAt_some
/-- What the calls that have been met may have brought. -/
def NewU (p : Prg) (c : Nat) (F : List Fd) (As : List Int) (F' : List Fd) : Prop := ∀ g ∈ F', g ∈ F ∨ SndF p g ∨ ∃ (A s : Nat) (B : Int), (A : Int) ∈ As ∧ SndF p (2, (A : Int), B) ∧ selF p (c : Int) B = (s : Int) ∧ g = (1, (s : Int), B)
theorem mixed_orders : Tryz.prog.follows .mixedOrders = true := by kernel_rfl
set_option maxRecDepth 100000 in
set_option maxHeartbeats 1000000 in
theorem followMade_at (Bp : Nat) (p : Prg) (hok : okP p = true) (hsp : SmallP p) (w0 : World) (sb mb cap : Nat) (a : Option Addr) (hsk : SK front Bp w0 (.slice a p.length cap) p) (v : Value) (F T : List Fd) (c : Nat) (hc : c < p.length) (w : World) (hb0 : Below w0.heap.size w0 w) (hS : Srch w0.heap.size sb mb (.slice a p.length cap) w v F T)
    (hFS : ∀ f ∈ F, SndF p f) (hP2 : ∀ (A s : Nat) (B : Int), SndF p (2, (A : Int), B) → undB p (c : Int) (A : Int) = true → selF p (c : Int) B = (s : Int) → SndF p (1, (s : Int), B)) :
    Calls Tryz.prog 79 #[.pointer (some ⟨sb, 0, none⟩), .int .i64 (c : Int)] w fun e w' => e = .returned (.tuple #[]) ∧ ∃ v' F' T', Adds w0.heap.size sb mb (.slice a p.length cap) w v F T (SndF p) w' v' F' T' ∧ Hid (∀ (A s : Nat) (B : Int), ((2, (A : Int), B) : Fd) ∈ F → undB p (c : Int) (A : Int) = true → selF p (c : Int) B = (s : Int) → ((1, (s : Int), B) : Fd) ∈ F') := by
  have h6 := (okP_len hok).2
  have HSU : Hid (SupOk p p.length) := okP_sup hok
  have HSK : Hid (SK front Bp w0 (.slice a p.length cap) p) := hsk
  have HP2 : Hid (∀ (A s : Nat) (B : Int), SndF p (2, (A : Int), B) → undB p (c : Int) (A : Int) = true → selF p (c : Int) B = (s : Int) → SndF p (1, (s : Int), B)) := hP2
  have HFS : Hid (∀ f ∈ F, SndF p f) := hFS
  obtain ⟨A, hA⟩ : ∃ A, w.heap.size = A := ⟨_, rfl⟩
  obtain ⟨V, hV⟩ : ∃ V, V = (w.alloc (.cells #[.pointer (some ⟨sb, 0, none⟩)] 48)).alloc (.cells #[.int .i64 (c : Int)] 2) := ⟨_, rfl⟩
  have hwV : Below w.heap.size w V := by rw [hV]; exact ((Below.refl _ _).alloc (Nat.le_refl _) _).alloc (by simp) _
  have XA : Hid (Boxed V A 48 (.pointer (some ⟨sb, 0, none⟩))) := by rw [hV, ← hA]; exact (Boxed.new w _ _).alloc _
  have XN : Hid (Boxed V (A + 1) 2 (.int .i64 (c : Int))) := by
    have h := Boxed.new (w.alloc (.cells #[.pointer (some ⟨sb, 0, none⟩)] 48)) 2 (.int .i64 (c : Int))
    simp only [World.size_alloc] at h
    rw [hV, ← hA]; exact h
  have hBw : w0.heap.size ≤ w.heap.size := hb0.size
  have HAV : Hid (Adds w0.heap.size sb mb (.slice a p.length cap) w v F T (SndF p) V v F T) := Adds.start hS hwV
  have FA : Hid (FarS sb mb V v A) := hS.far (by omega) XA.out.lt
  have FN : Hid (FarS sb mb V v (A + 1)) := hS.far (by omega) XN.out.lt
  clear hsk hP2 hFS
  have xa := XA.out.cell
  have xn := XN.out.cell
  have s0 := HAV.out.st.cells.g0.1
  have hmx := mixed_orders
  refine (callsIn_wide (n := 4)).1 ?_
  refine callsIn_of_wp_marks Tryz.func79 rfl trivial ?_ rfl
  simp only [Tryz.ntmps79, List.size_toArray, List.length_cons, List.length_nil, Nat.reduceAdd, Nat.reduceSub, Array.replicate_succ, Array.replicate_zero, List.push_toArray, List.append_toArray, List.nil_append, List.cons_append]
  gi_wp2_with fail
  try rw [hA]
  rw [← hV]
  clear hV
  have HK : Hid (∀ X, Below V.heap.size V X → Below V.heap.size V X ∧ X.cell? ⟨A, 0, none⟩ = some (.pointer (some ⟨sb, 0, none⟩)) ∧ X.cell? ⟨A + 1, 0, none⟩ = some (.int .i64 (c : Int)) ∧ X.cell? ⟨sb, 0, none⟩ = some (.slice a p.length cap)) := fun X hX =>
    ⟨hX, (hX.cell (cell_lt xa)).trans xa, (hX.cell (cell_lt xn)).trans xn, (hX.cell (cell_lt s0)).trans s0⟩
  have KD := HK.out _ (Below.refl V.heap.size V).drew
  have HUP : Hid (∀ X, X = V.drew → Calls Tryz.prog 91 #[.agg #[.slice a p.length cap], .int .i64 (c : Int)] X fun e w' => e = .returned (.func (.func 103) #[] #[.pointer (some ⟨V.heap.size + 1, 0, none⟩), .pointer (some ⟨V.heap.size, 0, none⟩)]) ∧ Below V.heap.size V w' ∧ Boxed w' V.heap.size 30 (.slice a p.length cap) ∧ Boxed w' (V.heap.size + 1) 2 (.int .i64 (c : Int)) ∧ w'.heap.size = V.heap.size + 1 + 1) := fun X hX => by
    subst hX
    refine (callsIn_wide.1 (upFrom_in 4 a p.length cap (c : Int) V.drew)).mono ?_
    rintro e w' ⟨rfl, rfl⟩
    have b3 := Boxed.new V.drew 30 (.slice a p.length cap)
    have b4 := Boxed.new (V.drew.alloc (.cells #[.slice a p.length cap] 30)) 2 (.int .i64 (c : Int))
    simp only [World.size_alloc] at b4
    exact ⟨rfl, ((Below.refl _ _).drew.alloc (Nat.le_refl _) _).alloc (by simp) _, b3.alloc _, b4, by simp⟩
  refine wpIn_wide.2 ?_
  go_region_held3 (fun X => Below V.heap.size V X ∧ X.cell? ⟨A, 0, none⟩ = some (.pointer (some ⟨sb, 0, none⟩)) ∧ X.cell? ⟨A + 1, 0, none⟩ = some (.int .i64 (c : Int)) ∧ X.cell? ⟨sb, 0, none⟩ = some (.slice a p.length cap))
    (first | exact KD | assumption)
    (first
      | (go_at_call 91; refine (HUP.out _ rfl).mono ?_; rintro e W2 ⟨rfl, hb2, B3, B4, hz2⟩; have KU := HK.out _ hb2))
  clear KD KU HK HUP xa xn s0
  gi_wp2_with fail
  have HA2 : Hid (Adds w0.heap.size sb mb (.slice a p.length cap) w v F T (SndF p) W2 v F T) := HAV.out.on hb2
  have hsb : sb < w.heap.size := by have := cell_lt hS.cells.g0.1; exact this
  have hmb : mb < w.heap.size := hS.map.lt
  have hwz := hwV.size
  have hbV : Below w0.heap.size w0 V := hb0.trans (HAV.out.below hS)
  have hbW2 : Below w0.heap.size w0 W2 := hbV.trans (hb2.mono hbV.size)
  have HBX : Hid (∀ x ∈ ([(A, 48, .pointer (some ⟨sb, 0, none⟩)), (A + 1, 2, .int .i64 (c : Int)), (V.heap.size, 30, .slice a p.length cap), (V.heap.size + 1, 2, .int .i64 (c : Int))] : List (Nat × TypeId × Value)), Boxed W2 x.1 x.2.1 x.2.2 ∧ FarS sb mb W2 v x.1) := fun x hx => by
    simp only [List.mem_cons, List.not_mem_nil, or_false] at hx
    rcases hx with rfl | rfl | rfl | rfl
    · exact ⟨(hb2.block _ XA.out.lt).trans XA.out, FA.out.on hb2.size⟩
    · exact ⟨(hb2.block _ XN.out.lt).trans XN.out, FN.out.on hb2.size⟩
    · exact ⟨B3, HAV.out.st.far (Nat.le_refl _) (by dsimp only; omega)⟩
    · exact ⟨B4, HAV.out.st.far (by dsimp only; omega) (by dsimp only; omega)⟩
  refine wpIn_rangeFunc_ownG rfl (show 1 ≤ 4 by omega) (gf := 103) (lb := #[.pointer (some ⟨V.heap.size + 1, 0, none⟩), .pointer (some ⟨V.heap.size, 0, none⟩)]) rfl trivial (enters_of Tryz.func103 (by kernel_rfl) rfl)
    (up_stopsC _ (by omega) (V.heap.size + 1) V.heap.size Bp p a cap (c : Int) (by omega) (by omega) h6 HSU.out w0 _ HSK.out hbW2 B4.cell B3) kp_t (kp_b (by omega) (by simp; omega)) (Below.refl _ _) (fun _ => rfl)
    (fun pre W => Rng w0.heap.size sb mb (.slice a p.length cap) w v F T [(A, 48, .pointer (some ⟨sb, 0, none⟩)), (A + 1, 2, .int .i64 (c : Int)), (V.heap.size, 30, .slice a p.length cap), (V.heap.size + 1, 2, .int .i64 (c : Int))] (fun F' => NewU p c F (vals pre) F' ∧ ∀ (Ac s : Nat) (B : Int), (Ac : Int) ∈ vals pre → ((2, (Ac : Int), B) : Fd) ∈ F → selF p (c : Int) B = (s : Int) → ((1, (s : Int), B) : Fd) ∈ F') W)
    (fun _ _ _ => False)
    (fun pre X Y row hs hg hr => hs.grown hg (by omega) (by omega) (by omega) hr)
    (fun _ _ _ _ _ hs _ _ => hs)
    ⟨v, F, T, HA2.out.imp (fun _ _ => trivial), HBX.out, fun g hg => .inl hg, fun Ac s B hd => by simp [vals] at hd⟩
    (fun x => { tmps := #[.pointer (some ⟨sb, 0, none⟩), .int .i64 (c : Int), .pointer (some ⟨A, 0, none⟩), .pointer (some ⟨A + 1, 0, none⟩), .int .i64 x.1, undef, .pointer (some ⟨sb, 0, none⟩), .pointer (some ⟨sb, 0, none⟩), .pointer (some ⟨sb, 0, none⟩), .agg #[.slice a p.length cap], .int .i64 (c : Int), .func (.func 103) #[] #[.pointer (some ⟨V.heap.size + 1, 0, none⟩), .pointer (some ⟨V.heap.size, 0, none⟩)], .int .i64 x.1, undef, undef, undef, undef, undef, undef, undef, undef, undef, undef, undef, undef, undef], defers := [] }) ?assign ?body ?done ?stop
  case assign =>
    intro l x W K hK
    gi_wp2
    exact hK
  case body =>
    rintro l pre x W ⟨v', F', T', hA', hbs, hN, hQ⟩ _
    have HV : Hid (vals (pre ++ [x]) = vals pre ++ [x.1]) := vals_snoc pre x
    obtain ⟨xv, hx0, hx1⟩ := x
    obtain ⟨d, rfl⟩ := Int.eq_ofNat_of_zero_le hx0
    have hdp : d < p.length := by omega
    dsimp only at HV ⊢
    have HMD : Hid (∀ B, ((2, (d : Int), B) : Fd) ∈ F' → SndF p (2, (d : Int), B)) := fun B hm => by
      rcases hN _ hm with h | h | ⟨_, _, _, _, _, _, h⟩
      · exact HFS.out _ h
      · exact h
      · simp at h
    have HFIN : Hid (∀ W3 v3 F3 T3, Adds w0.heap.size sb mb (.slice a p.length cap) W v' F' T' (fun g => ∃ (s : Nat) (B : Int), SndF p (2, (d : Int), B) ∧ selF p (c : Int) B = (s : Int) ∧ g = (1, (s : Int), B)) W3 v3 F3 T3 → (∀ (s : Nat) (B : Int), 0 ≤ B → B < 20 → ((2, (d : Int), B) : Fd) ∈ F' → selF p (c : Int) B = (s : Int) → ((1, (s : Int), B) : Fd) ∈ F3) →
        KeepsFrom W2.heap.size W W3 ∧ Kp w0.heap.size [V.heap.size] W W3 ∧ Rng w0.heap.size sb mb (.slice a p.length cap) w v F T [(A, 48, .pointer (some ⟨sb, 0, none⟩)), (A + 1, 2, .int .i64 (c : Int)), (V.heap.size, 30, .slice a p.length cap), (V.heap.size + 1, 2, .int .i64 (c : Int))] (fun F' => NewU p c F (vals (pre ++ [⟨(d : Int), hx0, hx1⟩])) F' ∧ ∀ (Ac s : Nat) (B : Int), (Ac : Int) ∈ vals (pre ++ [⟨(d : Int), hx0, hx1⟩]) → ((2, (Ac : Int), B) : Fd) ∈ F → selF p (c : Int) B = (s : Int) → ((1, (s : Int), B) : Fd) ∈ F') W3) := fun W3 v3 F3 T3 h3 hm3 => by
      refine ⟨hA'.st.keeps h3.fr (by omega) (by omega), ⟨h3.fr.below hA'.st, fun b hb _ => ?_⟩, v3, F3, T3, hA'.trans (h3.imp fun _ _ => trivial), boxes_next hbs h3.fr, fun g hg => ?_, fun Ac s B hd' hdF hs => ?_⟩
      · simp only [List.mem_cons, List.not_mem_nil, or_false] at hb
        subst hb
        exact ((hbs _ (List.mem_cons_of_mem _ (List.mem_cons_of_mem _ List.mem_cons_self))).2.next h3.fr).2
      · rcases h3.new g hg with h | ⟨s, B, hs1, hs2, rfl⟩
        · rcases hN g h with k | k | ⟨A', s', B', k1, k2, k3, k4⟩
          · exact .inl k
          · exact .inr (.inl k)
          · exact .inr (.inr ⟨A', s', B', by rw [HV.out]; exact List.mem_append_left _ k1, k2, k3, k4⟩)
        · exact .inr (.inr ⟨d, s, B, by rw [HV.out]; simp, hs1, hs2, rfl⟩)
      · rw [HV.out] at hd'
        have hfw := hS.few _ hdF
        rcases List.mem_append.1 hd' with h | h
        · exact h3.ext.up _ (hQ Ac s B h hdF hs)
        · have e : (Ac : Int) = (d : Int) := List.mem_singleton.1 h
          rw [e] at hdF
          exact hm3 s B hfw.c0 hfw.c1 (hA'.ext.up _ hdF) hs
    have HBS : Hid (∀ x ∈ ([(A, 48, .pointer (some ⟨sb, 0, none⟩)), (A + 1, 2, .int .i64 (c : Int)), (V.heap.size, 30, .slice a p.length cap), (V.heap.size + 1, 2, .int .i64 (c : Int))] : List (Nat × TypeId × Value)), Boxed W x.1 x.2.1 x.2.2 ∧ FarS sb mb W v' x.1) := hbs
    have HAW : Hid (Adds w0.heap.size sb mb (.slice a p.length cap) w v F T (fun _ => True) W v' F' T') := hA'
    have HST : Hid (Adds w0.heap.size sb mb (.slice a p.length cap) W v' F' T' (fun g => ∃ (s : Nat) (B : Int), SndF p (2, (d : Int), B) ∧ selF p (c : Int) B = (s : Int) ∧ g = (1, (s : Int), B)) W v' F' T') := Adds.start hA'.st (Below.refl _ _)
    have hbW : Below w0.heap.size w0 W := hb0.trans (hA'.below hS)
    clear hN hQ hbs hA' HBX
    gi_wp2
    gi_loopw [13] (fun y wr => ∃ (k : Nat) (v3 : Value) (F3 T3 : List Fd), k ≤ 20 ∧ y = .int .i64 (k : Int) ∧ Hid (Adds w0.heap.size sb mb (.slice a p.length cap) W v' F' T' (fun g => ∃ (s : Nat) (B : Int), SndF p (2, (d : Int), B) ∧ selF p (c : Int) B = (s : Int) ∧ g = (1, (s : Int), B)) wr v3 F3 T3) ∧ Hid (∀ (s : Nat) (B : Int), 0 ≤ B → B < (k : Int) → ((2, (d : Int), B) : Fd) ∈ F' → selF p (c : Int) B = (s : Int) → ((1, (s : Int), B) : Fd) ∈ F3)) (fun y _ => 20 - (intOf y).toNat)
    case atStart => exact ⟨0, v', F', T', by omega, rfl, HST.out, fun s B h0 h1 => by omega⟩
    case round =>
      clear HST
      obtain ⟨k, v3, F3, T3, hk, rfl, h3, hm3⟩ := hrel
      by_cases hlt : k < 20
      · have hki : (k : Int) < 20 := by omega
        have hbr : Below w0.heap.size w0 wr := hbW.trans (h3.out.below HAW.out.st)
        have hbs3 := boxes_next HBS.out h3.out.fr
        have c0 := (hbs3 _ (List.mem_cons_self)).1.cell
        dsimp only at c0
        have hhas := has_at w0.heap.size sb mb (.slice a p.length cap) v3 F3 T3 (2, (d : Int), (k : Int)) (FewF.wf ⟨by dsimp only; omega, by dsimp only; omega, hx0, by dsimp only; omega, by dsimp only; omega, by dsimp only; omega⟩) wr h3.out.st
        gi_wp2_with fail
        refine ⟨trivial, ?_⟩
        refine (callsIn_wide.2 hhas).mono ?_
        rintro e w4 ⟨rfl, hb4⟩
        have H4 : Hid (Adds w0.heap.size sb mb (.slice a p.length cap) W v' F' T' (fun g => ∃ (s : Nat) (B : Int), SndF p (2, (d : Int), B) ∧ selF p (c : Int) B = (s : Int) ∧ g = (1, (s : Int), B)) w4 v3 F3 T3) := h3.out.on hb4
        have hbs4 := boxes_next HBS.out H4.out.fr
        have d0 := (hbs4 _ (List.mem_cons_self)).1.cell
        have d1 := (hbs4 _ (List.mem_cons_of_mem _ List.mem_cons_self)).1.cell
        dsimp only at d0 d1
        have hbr4 : Below w0.heap.size w0 w4 := hbW.trans (H4.out.below HAW.out.st)
        clear hhas hbs3 hbs4 c0 hb4 h3
        by_cases hm : ((2, (d : Int), (k : Int)) : Fd) ∈ F3
        · rw [decide_eq_true hm]
          have hsnd : SndF p (2, (d : Int), (k : Int)) := by
            rcases H4.out.new _ hm with h | ⟨_, _, _, _, h⟩
            · exact HMD.out _ h
            · simp at h
          have hsel := selectsE_at Bp p hok hsp w0.heap.size sb mb cap a v3 F3 T3 c hc (k : Int) w4 hbr4.size H4.out.st (SK.on HSK.out (Keep.of hbr4)) ⟨by omega, by omega⟩
          gi_wp2_with fail
          refine ⟨trivial, ?_⟩
          refine (callsIn_wide.2 hsel).mono ?_
          rintro e w5 ⟨rfl, v5, F5, T5, h5, hm5⟩
          have H5 : Hid (Adds w0.heap.size sb mb (.slice a p.length cap) W v' F' T' (fun g => ∃ (s : Nat) (B : Int), SndF p (2, (d : Int), B) ∧ selF p (c : Int) B = (s : Int) ∧ g = (1, (s : Int), B)) w5 v5 F5 T5) := H4.out.trans (h5.imp fun g hg => by obtain ⟨s, h1, h2⟩ := hg; exact ⟨s, (k : Int), hsnd, h1, h2⟩)
          have HM5 : Hid (∀ (s : Nat) (B : Int), 0 ≤ B → B < ((k + 1 : Nat) : Int) → ((2, (d : Int), B) : Fd) ∈ F' → selF p (c : Int) B = (s : Int) → ((1, (s : Int), B) : Fd) ∈ F5) := fun s B h0 h1 hB hs => by
            by_cases e : B = (k : Int)
            · subst e; exact hm5 s hs
            · exact h5.ext.up _ (hm3.out s B h0 (by omega) hB hs)
          clear hsel h5 hm5 H4 hm3 d0 d1
          gi_wp2
          go_roundw
          case rel => exact ⟨k + 1, v5, F5, T5, by omega, by go_num, H5.out, HM5.out⟩
          case measure => simp [intOf]; omega
        · rw [decide_eq_false hm]
          have HM5 : Hid (∀ (s : Nat) (B : Int), 0 ≤ B → B < ((k + 1 : Nat) : Int) → ((2, (d : Int), B) : Fd) ∈ F' → selF p (c : Int) B = (s : Int) → ((1, (s : Int), B) : Fd) ∈ F3) := fun s B h0 h1 hB hs => by
            by_cases e : B = (k : Int)
            · subst e; exact absurd (H4.out.ext.up _ hB) hm
            · exact hm3.out s B h0 (by omega) hB hs
          clear hm3 d0 d1
          gi_wp2
          go_roundw
          case rel => exact ⟨k + 1, v3, F3, T3, by omega, by go_num, H4.out, HM5.out⟩
          case measure => simp [intOf]; omega
      · have hki : ¬ (k : Int) < 20 := by omega
        have hfin := HFIN.out wr v3 F3 T3 h3.out (fun s B h0 h1 hB hs => hm3.out s B h0 (by omega) hB hs)
        clear HFIN h3 hm3 HBS HAW
        rw [hz2] at hfin
        gi_wp2
        exact hfin
  case done =>
    rintro D ys W hD hys ⟨v', F', T', hA', hbs, hN, hQ⟩ hK
    have hpo : Adds w0.heap.size sb mb (.slice a p.length cap) w v F T (SndF p) (W.putObj D (.deferred none)) v' F' T' := by
      have h := hA'.grown (B := W2.heap.size) (grownBy_putObj' W D (.deferred none)) (by omega) (by omega) (by omega) (fun r e => by cases e; exact ⟨hD, _, hK, rfl⟩)
      refine ⟨h.st, h.ext, h.fr, fun g hg => ?_⟩
      rcases hN g hg with k | k | ⟨A', s', B', k1, k2, k3, k4⟩
      · exact .inl k
      · exact .inr k
      · rw [hys] at k1
        subst k4
        exact .inr (HP2.out A' s' B' k2 (by unfold undB; exact decide_eq_true k1) k3)
    have hq : Hid (∀ (A s : Nat) (B : Int), ((2, (A : Int), B) : Fd) ∈ F → undB p (c : Int) (A : Int) = true → selF p (c : Int) B = (s : Int) → ((1, (s : Int), B) : Fd) ∈ F') := fun Ac s B hd hu hs => by
      refine hQ Ac s B ?_ hd hs
      rw [hys]
      unfold undB at hu
      exact of_decide_eq_true hu
    clear hbs hN hQ HBX
    gi_wp2
    refine ⟨by simp, .inl ⟨_, _, rfl, run_takeDeferred hK, ?_⟩⟩
    exact ⟨_, results_none rfl _ _ _, rfl, v', F', T', hpo, hq⟩
  case stop =>
    rintro D c pre W _ _ h _
    exact h.elim
end Pg
end Go.Proofs.YtinanjjhkddikaaGreat

/- One sweep over what is reached, plainly: rows only grow; where they are as long at its end as ahead of it, all that it asked for was there. -/
namespace Go.Proofs.YtinanjjhkddikaaGreat
namespace Pg
open Go.ChangeShapes Go.WideShapes Go.ChangeAt Go.RowKit St Wd

structure SndR (p : Prg) (M L : List Int) : Prop where
  rm : Rise M
  rl : Rise L
  m0 : (0 : Int) ∈ M
  l0 : (0 : Int) ∈ L
  sm : ∀ x ∈ M, ∃ c : Nat, x = (c : Int) ∧ Rd p false c 0
  sl : ∀ x ∈ L, ∃ (c : Nat) (n : Int), x = (c : Int) * 20 + n ∧ Rd p true c n
theorem SndR.start (p : Prg) : SndR p [0] [0] :=
  ⟨by simp, by simp, by simp, by simp, fun x hx => ⟨0, by simpa using hx, .made⟩, fun x hx => ⟨0, 0, by simpa using hx, .main⟩⟩
theorem SndR.putM {p : Prg} {M L : List Int} (h : SndR p M L) {A : Nat} (hA : Rd p false A 0) : SndR p (putL M (A : Int)) L :=
  ⟨putL_rise h.rm _, h.rl, mem_putL.2 (.inl h.m0), h.l0, fun x hx => (mem_putL.1 hx).elim (h.sm x) fun e => ⟨A, e, hA⟩, h.sl⟩
theorem SndR.putL {p : Prg} {M L : List Int} (h : SndR p M L) {c : Nat} {n : Int} (hA : Rd p true c n) : SndR p M (putL L ((c : Int) * 20 + n)) :=
  ⟨h.rm, putL_rise h.rl _, h.m0, mem_putL.2 (.inl h.l0), h.sm, fun x hx => (mem_putL.1 hx).elim (h.sl x) fun e => ⟨c, n, e, hA⟩⟩
theorem rise_fits {n : Nat} {l : List Int} (h : Rise l) (hb : ∀ x ∈ l, 0 ≤ x ∧ x < (n : Int)) : l.length ≤ n := by
  have := rise_le h (risL_rise (fun _ => true) n) fun x hx => by
    obtain ⟨h0, h1⟩ := hb x hx
    obtain ⟨k, rfl⟩ := Int.eq_ofNat_of_zero_le h0
    exact risL_mem.2 ⟨k, by omega, rfl, rfl⟩
  have hl : (risL (fun _ => true) n).length = n := by unfold risL; rw [List.length_map, List.filter_eq_self.2 (fun _ _ => rfl), List.length_range]
  omega
theorem SndR.lenM {p : Prg} (hok : okP p = true) {M L : List Int} (h : SndR p M L) : M.length ≤ 6 := by
  have h6 := (okP_len hok).2
  refine rise_fits h.rm fun x hx => ?_
  obtain ⟨c, rfl, hr⟩ := h.sm x hx
  have := (rd_there hok hr).1 rfl
  omega
theorem SndR.atL {p : Prg} (hok : okP p = true) {M L : List Int} (h : SndR p M L) {x : Int} (hx : x ∈ L) : ∃ (c : Nat) (n : Nat), x = (c : Int) * 20 + (n : Int) ∧ n < 20 ∧ c < p.length ∧ Rd p true c (n : Int) ∧ ∃ cl own, p[c]? = some cl ∧ ownF cl (n : Int) = some own := by
  obtain ⟨c, n, rfl, hr⟩ := h.sl x hx
  have hn := rd_name hok hr
  obtain ⟨k, rfl⟩ := Int.eq_ofNat_of_zero_le hn.1
  obtain ⟨cl, own, h1, h2⟩ := (rd_there hok hr).2 rfl
  exact ⟨c, k, rfl, by omega, (List.getElem?_eq_some_iff.1 h1).1, hr, cl, own, h1, h2⟩
theorem SndR.lenL {p : Prg} (hok : okP p = true) {M L : List Int} (h : SndR p M L) : L.length ≤ 120 := by
  have h6 := (okP_len hok).2
  refine rise_fits h.rl fun x hx => ?_
  obtain ⟨c, n, rfl, hn, hc, _⟩ := h.atL hok hx
  omega
/-- Where a sweep stands: Q is what has been asked for, and was there if nothing has been put. -/
structure Swe (p : Prg) (M0 L0 M L : List Int) (Q : Prop) : Prop where
  snd : SndR p M L
  subM : ∀ x ∈ M0, x ∈ M
  subL : ∀ x ∈ L0, x ∈ L
  leM : M0.length ≤ M.length
  leL : L0.length ≤ L.length
  asks : M.length + L.length = M0.length + L0.length → Q
theorem Swe.start {p : Prg} {M L : List Int} (h : SndR p M L) {Q : Prop} (hQ : Q) : Swe p M L M L Q := ⟨h, fun _ h => h, fun _ h => h, Nat.le_refl _, Nat.le_refl _, fun _ => hQ⟩
theorem Swe.weak {p : Prg} {M0 L0 M L : List Int} {Q Q' : Prop} (h : Swe p M0 L0 M L Q) (hQ : Q → Q') : Swe p M0 L0 M L Q' := ⟨h.snd, h.subM, h.subL, h.leM, h.leL, fun e => hQ (h.asks e)⟩
theorem Swe.same {p : Prg} {M0 L0 M L : List Int} {Q : Prop} (h0 : SndR p M0 L0) (h : Swe p M0 L0 M L Q) (e : M.length + L.length = M0.length + L0.length) : M = M0 ∧ L = L0 ∧ Q := by
  have h1 := h.leM
  have h2 := h.leL
  exact ⟨(rise_same h0.rm h.snd.rm h.subM (by omega)).symm, (rise_same h0.rl h.snd.rl h.subL (by omega)).symm, h.asks e⟩
theorem Swe.putM {p : Prg} {M0 L0 M L : List Int} {Q : Prop} (h0 : SndR p M0 L0) (h : Swe p M0 L0 M L Q) {A : Nat} (hA : Rd p false A 0) : Swe p M0 L0 (Pg.putL M (A : Int)) L (Q ∧ (A : Int) ∈ M0) := by
  have hl := putL_ge (A : Int) M
  refine ⟨h.snd.putM hA, fun x hx => mem_putL.2 (.inl (h.subM x hx)), h.subL, Nat.le_trans h.leM hl, h.leL, fun e => ?_⟩
  have h1 := h.leM
  have h2 := h.leL
  have hQ := h.asks (by omega)
  have e2 := rise_same h0.rm (h.snd.putM hA).rm (fun x hx => mem_putL.2 (.inl (h.subM x hx))) (by omega)
  exact ⟨hQ, by rw [e2]; exact mem_putL.2 (.inr rfl)⟩
theorem Swe.putL {p : Prg} {M0 L0 M L : List Int} {Q : Prop} (h0 : SndR p M0 L0) (h : Swe p M0 L0 M L Q) {c : Nat} {n : Int} (hA : Rd p true c n) : Swe p M0 L0 M (Pg.putL L ((c : Int) * 20 + n)) (Q ∧ (c : Int) * 20 + n ∈ L0) := by
  have hl := putL_ge ((c : Int) * 20 + n) L
  refine ⟨h.snd.putL hA, h.subM, fun x hx => mem_putL.2 (.inl (h.subL x hx)), h.leM, Nat.le_trans h.leL hl, fun e => ?_⟩
  have h1 := h.leM
  have h2 := h.leL
  have hQ := h.asks (by omega)
  have e2 := rise_same h0.rl (h.snd.putL hA).rl (fun x hx => mem_putL.2 (.inl (h.subL x hx))) (by omega)
  exact ⟨hQ, by rw [e2]; exact mem_putL.2 (.inr rfl)⟩
/-- All reached steps of the first k methods have been asked about. -/
def AskK (p : Prg) (M0 L0 : List Int) (k : Nat) : Prop := ∀ j, j < k → ∀ x, L0[j]? = some x → ∀ (c : Nat) n i, x = (c : Int) * 20 + n → Rd p true c n → Runs p c n i → Stp p M0 L0 i
/-- A sweep that has put nothing: the rows are the answers. -/
theorem Swe.ends {p : Prg} (hok : okP p = true) {M0 L0 M L : List Int} (h0 : SndR p M0 L0) (h : Swe p M0 L0 M L (AskK p M0 L0 L0.length)) (e : M.length + L.length = M0.length + L0.length) : M = risL (madB p) 6 ∧ L = risL (livB p) 120 := by
  obtain ⟨rfl, rfl, hQ⟩ := h.same h0 e
  refine reach_lists hok h0.rm h0.rl h0.m0 h0.l0 h0.sm h0.sl fun c n i hx hr hi => ?_
  obtain ⟨j, hj, hjx⟩ := List.getElem_of_mem hx
  exact hQ j hj _ (by rw [List.getElem?_eq_getElem hj, hjx]) c n i rfl hr hi
end Pg
end Go.Proofs.YtinanjjhkddikaaGreat

/- The search goes on: what a method that is reached brings. -/
namespace Go.Proofs.YtinanjjhkddikaaGreat
namespace Pg
open Go.ChangeShapes Go.WideShapes Go.ChangeAt Go.RowKit St Wd
theorem sndF_need {p : Prg} {t : Int} (h0 : 0 ≤ t) (h1 : t < (p.length : Int)) (hn : Nd p t.toNat) : SndF p (3, t, 0) := by
  refine ⟨⟨t.toNat, ?_, ?_⟩, .inr (.inr (.inr rfl)), fun e => ?_, fun e => ?_, fun e => ?_, fun _ => ⟨rfl, hn⟩⟩
  · dsimp only; omega
  · omega
  all_goals simp at e
theorem sndF_live {p : Prg} {s : Nat} {n : Int} (h : Rd p true s n) (hl : s < p.length) : SndF p (1, (s : Int), n) := by
  refine ⟨⟨s, rfl, hl⟩, .inr (.inl rfl), fun e => ?_, fun _ => ?_, fun e => ?_, fun e => ?_⟩
  · simp at e
  · dsimp only; rwa [Int.toNat_natCast]
  all_goals simp at e
theorem insP_of {p : Prg} {c : Nat} {n : Int} {i : Tx.Ins} (hr : Rd p true c n) (hi : Runs p c n i) : InsP p i := by
  have key : ∀ A : Int, 0 ≤ A → A < (p.length : Int) → ∃ k : Nat, A = (k : Int) ∧ k < p.length := fun A h0 h1 => ⟨A.toNat, by omega, by omega⟩
  refine ⟨fun e h0 h1 => ?_, fun e h0 h1 => ?_, fun e h0 h1 => ?_⟩
  · obtain ⟨k, hk, hl⟩ := key _ h0 h1
    rw [hk]
    refine ⟨⟨k, rfl, hl⟩, .inl rfl, fun _ => ⟨rfl, ?_⟩, fun e => ?_, fun e => ?_, fun e => ?_⟩
    · dsimp only; rw [Int.toNat_natCast]; exact .new hr hi e hk hl
    all_goals simp at e
  · obtain ⟨k, hk, hl⟩ := key _ h0 h1
    refine sndF_need h0 h1 ?_
    rw [hk, Int.toNat_natCast]
    exact .step hr hi (e.elim .inl (fun h => .inr (.inl h))) hk hl
  · obtain ⟨k, hk, hl⟩ := key _ h0 h1
    refine ⟨⟨k, hk, hl⟩, .inr (.inr (.inl rfl)), fun e => ?_, fun e => ?_, fun _ => ⟨c, n, i, hr, hi, e, rfl, rfl⟩, fun e => ?_⟩
    all_goals simp at e
/-- What a method must have brought. -/
structure MthQ (p : Prg) (F : List Fd) (own : Meth) : Prop where
  gives : 0 ≤ own.gives → own.gives < (p.length : Int) → ((3, own.gives, 0) : Fd) ∈ F
  args : ∀ t ∈ own.args, 0 ≤ t → t < (p.length : Int) → ((3, t, 0) : Fd) ∈ F
  steps : ∀ t : Nat, t < own.code.length → rchB own.code t = true → InsQ p F (insF own.code t)
theorem Cells.heap {u w : World} {k : Nat} {vs : List Value} (h : Cells u k vs) (e : w.heap[k]? = u.heap[k]?) : Cells w k vs := fun i x hx => by
  obtain ⟨h1, h2⟩ := h i x hx
  exact ⟨(World.cell?_of_block (w := u) e).trans h1, (World.frozen?_of_block (w := u) e).trans h2⟩
theorem FarS.low {B0 sb mb : Nat} {pv : Value} {w : World} {v : Value} {F T : List Fd} (h : Srch B0 sb mb pv w v F T) {k : Nat} (hk : k < B0) : FarS sb mb w v k := by
  have h1 := h.b1
  have h2 := h.b2
  have h3 := h.map.lt
  exact ⟨by omega, by omega, fun e => by have := (h.row.lt k e).1; omega, by omega⟩
set_option maxRecDepth 100000 in
set_option maxHeartbeats 1000000 in
theorem followMethod_at (Bp : Nat) (p : Prg) (hok : okP p = true) (hsp : SmallP p) (w0 : World) (sb mb cap : Nat) (a : Option Addr) (hsk : SK front Bp w0 (.slice a p.length cap) p) (v : Value) (F T : List Fd) (c : Nat) (hc : c < p.length) (n : Int) (own : Meth) (ho : ownF p[c] n = some own) (hr : Rd p true c n) (w : World) (hb0 : Below w0.heap.size w0 w) (hS : Srch w0.heap.size sb mb (.slice a p.length cap) w v F T) :
    Calls Tryz.prog 80 #[.pointer (some ⟨sb, 0, none⟩), .int .i64 (c : Int), .int .i64 n] w fun e w' => e = .returned (.tuple #[]) ∧ ∃ v' F' T', Adds w0.heap.size sb mb (.slice a p.length cap) w v F T (SndF p) w' v' F' T' ∧ MthQ p F' own := by
  have hci : (c : Int) < (p.length : Int) := by omega
  have hcl2 : p[c]? = some p[c] := List.getElem?_eq_getElem hc
  have HCD : Hid (Lay.codeOk own.code = true) := own_code hok hcl2 ho
  have h40 := (Lay.ok_len HCD.out).2
  have HNG : Hid (0 ≤ own.gives → own.gives < (p.length : Int) → SndF p (3, own.gives, 0)) := fun h0 h1 => sndF_need h0 h1 (.gives hr hcl2 ho (t := own.gives.toNat) (by omega) (by omega))
  have HNA : Hid (∀ t ∈ own.args, 0 ≤ t → t < (p.length : Int) → SndF p (3, t, 0)) := fun t ht h0 h1 => sndF_need h0 h1 (.args hr hcl2 ho (t := t.toNat) (by rw [show ((t.toNat : Nat) : Int) = t by omega]; exact ht) (by omega))
  have HNI : Hid (∀ t : Nat, t < own.code.length → rchB own.code t = true → InsP p (insF own.code t)) := fun t h1 h2 => insP_of hr ⟨p[c], own, t, hcl2, ho, h1, h2, rfl⟩
  have hsc := hsp.2 _ (List.getElem_mem hc)
  have hsl := hsc.2.1
  have hal : own.args.length ≤ 1048576 := (hsc.2.2 own (own_mem ho)).1
  obtain ⟨b, o, rfl, _, vf, vm, d0, d1, d2, hcv⟩ := hsk.get hc
  obtain ⟨z1, t1, rfl⟩ := hcv.1.form
  obtain ⟨z2, t2, rfl⟩ := hcv.2.form
  have HSM : Hid (SM front Bp w0 (.slice z2 p[c].meths.length t2) p[c].meths) := hcv.2
  have l0 : b < w0.heap.size := cell_lt d0
  have c0 := (hb0.cell l0).trans d0
  have c1 := (hb0.cell l0).trans d1
  have c2 := (hb0.cell l0).trans d2
  have s0 := hS.cells.g0.1
  have HO : Hid (ownF p[c] n = some own) := ho
  clear d0 d1 d2 hcv hsc hcl2 hsk ho
  generalize p[c] = cl at *
  have hown := ownMethod Bp cl z1 z2 t2 cl.fields.length t1 n hsl w0 w hb0 HSM.out
  go_enter Tryz.func80, Tryz.ntmps80
  go_wp2_with fail
  refine hown.mono ?_
  rintro e w1 ⟨h, hb1⟩
  rcases h with ⟨m, va, vc, hm, _, rfl, hmv⟩ | ⟨hm, _⟩
  case inr => rw [HO.out] at hm; simp at hm
  rw [HO.out] at hm
  injection hm with hm
  subst hm
  obtain ⟨za, ta, rfl⟩ := hmv.1.form
  obtain ⟨gc, cc, rfl, _, hgc, hrow, _⟩ := hmv.2
  obtain ⟨V, hV⟩ : ∃ V, V = w1.alloc (.cells #[.int .i64 own.name, .slice za own.args.length ta, .int .i64 own.gives, .slice (some ⟨gc, 0, none⟩) own.code.length cc] 55) := ⟨_, rfl⟩
  have h1V : Below w1.heap.size w1 V := by rw [hV]; exact (Below.refl _ _).alloc (Nat.le_refl _) _
  have hwV : Below w.heap.size w V := below_over hb1 h1V
  have MC : Hid (Cells V w1.heap.size [.int .i64 own.name, .slice za own.args.length ta, .int .i64 own.gives, .slice (some ⟨gc, 0, none⟩) own.code.length cc]) := by show Cells _ _ _; rw [hV]; exact Cells.new w1 _ rfl _ _
  have hVz : V.heap.size = w1.heap.size + 1 := by rw [hV]; simp
  have HROW : Hid (Row w0 gc 0 own.code) := hrow
  have HARG : Hid (SI true Bp w0 (.slice za own.args.length ta) own.args) := hmv.1
  have HAV : Hid (Adds w0.heap.size sb mb (.slice (some ⟨b, o, none⟩) p.length cap) w v F T (SndF p) V v F T) := Adds.start hS hwV
  have hBw := hb0.size
  have hwz := hwV.size
  have hwz1 := hb1.size
  have FM0 : Hid (FarS sb mb V v w1.heap.size) := hS.far (by omega) (by omega)
  obtain ⟨M, hM⟩ : ∃ M, w1.heap.size = M := ⟨_, rfl⟩
  rw [hM] at MC hVz FM0
  have hnd := need_one p hok w0.heap.size sb mb cap (some ⟨b, o, none⟩) v F T own.gives V (by omega) HAV.out.st HNG.out 2
  rw [hVz] at hnd
  have g2 : (w1.alloc (.cells #[.int .i64 own.name, .slice za own.args.length ta, .int .i64 own.gives, .slice (some ⟨gc, 0, none⟩) own.code.length cc] 55)).cell? ⟨M, 2, none⟩ = some (.int .i64 own.gives) := by rw [← hV]; exact MC.out.g2.1
  have hcl := gc
  clear hown hrow hmv c0 c1 c2 s0 hgc hcl HSM HO
  go_wp2_with fail
  try simp only [hM]
  rw [← hV]
  clear hV g2
  refine hnd.mono ?_
  rintro e w2 ⟨rfl, v2, F2, T2, hA2, hm2⟩
  have HA2 : Hid (Adds w0.heap.size sb mb (.slice (some ⟨b, o, none⟩) p.length cap) w v F T (SndF p) w2 v2 F2 T2) := HAV.out.trans hA2
  have fm2 := FM0.out.next hA2.fr
  have MC2 : Hid (Cells w2 M [.int .i64 own.name, .slice za own.args.length ta, .int .i64 own.gives, .slice (some ⟨gc, 0, none⟩) own.code.length cc]) := MC.out.heap fm2.2
  have FM2 : Hid (FarS sb mb w2 v2 M) := fm2.1
  have HM2 : Hid (0 ≤ own.gives → own.gives < (p.length : Int) → ((3, own.gives, 0) : Fd) ∈ F2) := hm2
  have hb2 : Below w0.heap.size w0 w2 := hb0.trans (HA2.out.below hS)
  clear hnd hA2 hm2 fm2 HAV MC FM0
  have hna := need_at p hok w0.heap.size sb mb cap (some ⟨b, o, none⟩) v2 F2 T2 own.args za ta hal w2 hb2.size HA2.out.st (fun h => by
    obtain ⟨bb, oo, e, hi⟩ := HARG.out.rows h
    have hlt : bb < w0.heap.size := cell_lt (hi 0 _ (List.getElem?_eq_getElem h))
    exact ⟨bb, oo, e, hi.below hb2 hlt, FarS.low HA2.out.st hlt⟩) HNA.out
  obtain ⟨m1, _⟩ := MC2.out.g1
  go_wp2_with fail
  refine hna.mono ?_
  rintro e w3 ⟨rfl, v3, F3, T3, hA3, hm3⟩
  have HA3 : Hid (Adds w0.heap.size sb mb (.slice (some ⟨b, o, none⟩) p.length cap) w v F T (SndF p) w3 v3 F3 T3) := HA2.out.trans hA3
  have fm3 := FM2.out.next hA3.fr
  have MC3 : Hid (Cells w3 M [.int .i64 own.name, .slice za own.args.length ta, .int .i64 own.gives, .slice (some ⟨gc, 0, none⟩) own.code.length cc]) := MC2.out.heap fm3.2
  have FM3 : Hid (FarS sb mb w3 v3 M) := fm3.1
  have HM3 : Hid ((0 ≤ own.gives → own.gives < (p.length : Int) → ((3, own.gives, 0) : Fd) ∈ F3) ∧ ∀ t ∈ own.args, 0 ≤ t → t < (p.length : Int) → ((3, t, 0) : Fd) ∈ F3) := ⟨fun h0 h1 => hA3.ext.up _ (HM2.out h0 h1), hm3⟩
  have hb3 : Below w0.heap.size w0 w3 := hb0.trans (HA3.out.below hS)
  clear hna hA3 hm3 fm3 HA2 MC2 FM2 HM2 m1
  obtain ⟨m3, _⟩ := MC3.out.g3
  go_wp2_with fail
  refine (reachedIn_at gc cc own.code HCD.out w3 (HROW.out.on hb3)).mono ?_
  rintro e w4 ⟨rfl, hb4⟩
  go_wp2_with fail
  refine (rising_at (rchB own.code) w4).mono ?_
  rintro e w5 ⟨x5, rfl, hg5, hb5⟩
  obtain ⟨g5, c5, rfl, hg51, hg52, hi5, _⟩ := hg5.gint
  have hb35 : Below w3.heap.size w3 w5 := below_over hb4 hb5
  have HA5 : Hid (Adds w0.heap.size sb mb (.slice (some ⟨b, o, none⟩) p.length cap) w v F T (SndF p) w5 v3 F3 T3) := HA3.out.on hb35
  have MC5 : Hid (Cells w5 M [.int .i64 own.name, .slice za own.args.length ta, .int .i64 own.gives, .slice (some ⟨gc, 0, none⟩) own.code.length cc]) := MC3.out.on hb35
  have FM5 : Hid (FarS sb mb w5 v3 M) := FM3.out.on hb35.size
  have FG5 : Hid (FarS sb mb w5 v3 g5) := HA3.out.st.far (by have := hb4.size; omega) hg52
  have HI5 : Hid (IRow w5 g5 0 (risL (rchB own.code) 40)) := hi5
  have hr40 : (risL (rchB own.code) 40).length ≤ 40 := rise_fits (risL_rise _ _) fun x hx => by obtain ⟨j, hj, _, rfl⟩ := risL_mem.1 hx; omega
  have HAT : Hid (∀ j x, (risL (rchB own.code) 40)[j]? = some x → ∃ t : Nat, x = (t : Int) ∧ t < own.code.length ∧ rchB own.code t = true) := fun j x hx => by
    obtain ⟨t, _, h2, rfl⟩ := risL_mem.1 (List.mem_of_getElem? hx)
    exact ⟨t, rfl, (rchB_iff.1 h2).lt (Lay.ok_len HCD.out).1, h2⟩
  have HALL : Hid (∀ t : Nat, t < own.code.length → rchB own.code t = true → ((t : Nat) : Int) ∈ risL (rchB own.code) 40) := fun t h1 h2 => risL_mem.2 ⟨t, by omega, h2, rfl⟩
  have HST5 : Hid (Adds w0.heap.size sb mb (.slice (some ⟨b, o, none⟩) p.length cap) w5 v3 F3 T3 (SndF p) w5 v3 F3 T3) := Adds.start HA5.out.st (Below.refl _ _)
  clear hg5 hg51 hg52 hi5 hb4 hb5 hb35 HA3 MC3 FM3 m3
  generalize risL (rchB own.code) 40 = rs at *
  go_wp2
  go_loopw [37] (fun y wr => ∃ (k : Nat) (v' : Value) (F' T' : List Fd), k ≤ rs.length ∧ y = .int .i64 (k : Int) ∧ Hid (Adds w0.heap.size sb mb (.slice (some ⟨b, o, none⟩) p.length cap) w5 v3 F3 T3 (SndF p) wr v' F' T') ∧ Hid (∀ t ∈ rs.take k, InsQ p F' (insF own.code t.toNat))) (fun y _ => rs.length - (intOf y).toNat)
  case atStart => exact ⟨0, v3, F3, T3, Nat.zero_le _, rfl, HST5.out, fun t ht => by simp at ht⟩
  case round =>
    clear HST5
    obtain ⟨k, v', F', T', hk, rfl, hA, hQ⟩ := hrel
    by_cases hlt : k < rs.length
    · have hki : (k : Int) < (rs.length : Int) := by omega
      have hrk : rs[k]? = some rs[k] := List.getElem?_eq_getElem hlt
      have HT1 : Hid (∀ t ∈ rs.take (k + 1), t ∈ rs.take k ∨ t = rs[k]) := fun t ht => by
        rw [List.take_succ_eq_append_getElem hlt] at ht
        rcases List.mem_append.1 ht with h | h
        · exact .inl h
        · exact .inr (List.mem_singleton.1 h)
      have q0 := FG5.out.cell hA.out.fr (HI5.out k _ hrk)
      rw [Nat.zero_add] at q0
      obtain ⟨t, ht, htl, htr⟩ := HAT.out k _ hrk
      rw [ht] at q0 HT1
      have htli : (t : Int) < (own.code.length : Int) := by omega
      have q3 := FM5.out.cell hA.out.fr MC5.out.g3.1
      have hbr : Below w0.heap.size w0 wr := hb0.trans ((HA5.out.trans hA.out).below hS)
      obtain ⟨i0, i1, i2⟩ := (HROW.out.on hbr) t _ (ins_is htl)
      have hfi := followInsn_at p hok w0.heap.size sb mb cap (some ⟨b, o, none⟩) v' F' T' (insF own.code t) wr hbr.size hA.out.st (HNI.out t htl htr)
      have HII : Hid (insF own.code ((t : Int).toNat) = insF own.code t) := by show _ = _; rw [Int.toNat_natCast]
      clear hrk ht htl htr
      generalize insF own.code t = ii at *
      obtain ⟨op, A, B⟩ := ii
      simp only [Nat.zero_add] at i0 i1 i2
      go_wp2_with fail
      refine hfi.mono ?_
      rintro e w7 ⟨rfl, v7, F7, T7, h7, hq7⟩
      have H7 : Hid (Adds w0.heap.size sb mb (.slice (some ⟨b, o, none⟩) p.length cap) w5 v3 F3 T3 (SndF p) w7 v7 F7 T7) := hA.out.trans h7
      have HQ7 : Hid (∀ t ∈ rs.take (k + 1), InsQ p F7 (insF own.code t.toNat)) := fun s hs => by
        rcases HT1.out s hs with h | h
        · exact (hQ.out s h).up h7.ext.up
        · subst h; rw [HII.out]; exact hq7
      clear hfi h7 hq7 hA hQ HT1 HII q0 q3 i0 i1 i2
      go_wp2
      go_roundw
      case rel => exact ⟨k + 1, v7, F7, T7, by omega, by go_num, H7.out, HQ7.out⟩
      case measure => simp [intOf]; omega
    · have hki : ¬ (k : Int) < (rs.length : Int) := by omega
      have HFIN : Hid (Adds w0.heap.size sb mb (.slice (some ⟨b, o, none⟩) p.length cap) w v F T (SndF p) wr v' F' T' ∧ MthQ p F' own) := by
        refine ⟨HA5.out.trans hA.out, fun h0 h1 => hA.out.ext.up _ (HM3.out.1 h0 h1), fun t ht h0 h1 => hA.out.ext.up _ (HM3.out.2 t ht h0 h1), fun t h1 h2 => ?_⟩
        have := hQ.out ((t : Nat) : Int) (by rw [List.take_of_length_le (by omega)]; exact HALL.out t h1 h2)
        rwa [Int.toNat_natCast] at this
      clear hA hQ
      go_wp2
      go_end0
      exact ⟨rfl, v', F', ⟨T', HFIN.out.1⟩, HFIN.out.2⟩
end Pg
end Go.Proofs.YtinanjjhkddikaaGreat
