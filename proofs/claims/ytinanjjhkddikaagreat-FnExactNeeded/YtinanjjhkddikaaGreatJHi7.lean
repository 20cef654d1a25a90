/- The program's iterator over the classes below, and the list of them. -/
import Derived.Test.YtinanjjhkddikaaGreatJHi6
import Derived.Maps.OwnIn
namespace Go.Proofs.YtinanjjhkddikaaGreat
namespace Pg
open Go.ChangeShapes Go.WideShapes Go.ChangeAt Go.RowKit Go.Shelf St
attribute [local go_sem] Oper.semAt_some

theorem abide {β : Type} {n : Nat} {J : β → World → Prop} (hJ : AbidesFrom n J) {s : β} {W W' : World} (h : J s W) (hb : Below W.heap.size W W') : J s W' :=
  hJ s W W' none h ⟨hb.os, hb.tape, hb.output, hb.size, fun k hk _ => hb.block k hk⟩ (fun _ e => by cases e)
theorem filter_one {α : Type} (f : α → Bool) (x : α) : [x].filter f = if f x then [x] else [] := by cases h : f x <;> simp [h]
theorem allC_take {p : Prg} {k : Nat} (hk : k < p.length) : (allC p).take (k + 1) = (allC p).take k ++ [(k : Int)] := by
  unfold allC
  rw [← List.map_take, ← List.map_take, List.take_range, List.take_range, Nat.min_eq_left (by omega), Nat.min_eq_left (by omega), List.range_succ]
  simp
theorem downL_low {p : Prg} (hs : SupOk p p.length) {c : Nat} (hc : c ≤ p.length) : ((allC p).take c).filter (fun i => undB p i (c : Int)) = [] := by
  rw [List.filter_eq_nil_iff]
  intro i hi
  unfold allC at hi
  rw [← List.map_take, List.take_range, Nat.min_eq_left hc] at hi
  obtain ⟨k, hk, rfl⟩ := List.mem_map.1 hi
  have hk' := List.mem_range.1 hk
  simp only [undB, decide_eq_true_eq]
  intro hm
  have := upL_le hs hm
  omega
theorem downL_all (p : Prg) (c : Int) : ((allC p).take p.length).filter (fun i => undB p i c) = downL p c := by
  have : (allC p).take p.length = allC p := List.take_of_length_le (by simp [allC])
  rw [this]; rfl
theorem downL_pre (p : Prg) (c : Int) (k : Nat) : ((allC p).take k).filter (fun i => undB p i c) <+: downL p c := by
  obtain ⟨r, hr⟩ := List.take_prefix k (allC p)
  refine ⟨r.filter (fun i => undB p i c), ?_⟩
  rw [← List.filter_append, hr]; rfl

set_option maxHeartbeats 400000 in
theorem downFrom_in (n : Nat) (a : Option Addr) (len cap : Nat) (c : Int) (w : World) :
    CallsIn Fence.wide n Tryz.prog 96 #[.agg #[.slice a len cap], .int .i64 c] w fun e w' => e = .returned (.func (.func 107) #[] #[.pointer (some ⟨w.heap.size + 1, 0, none⟩), .pointer (some ⟨w.heap.size, 0, none⟩)]) ∧ w' = (w.alloc (.cells #[.slice a len cap] 30)).alloc (.cells #[.int .i64 c] 2) := by
  refine callsIn_of_wp Tryz.func96 rfl trivial ?_ rfl
  simp only [Tryz.ntmps96, List.size_toArray, List.length_cons, List.length_nil, Nat.reduceAdd, Nat.reduceSub, Array.replicate_succ, Array.replicate_zero, List.push_toArray, List.append_toArray, List.nil_append, List.cons_append]
  gi_wp2
  go_ret
  exact ⟨rfl, rfl⟩

set_option maxRecDepth 100000 in
set_option maxHeartbeats 2000000 in
theorem down1_in {α : Type} (n : Nat) (hn : 1 ≤ n) (l bc bp B : Nat) (p : Prg) (a : Option Addr) (cap : Nat) (c : Nat) (hc : c < p.length) (h6 : p.length ≤ 6) (hsup : SupOk p p.length) (w0 : World) (hp : SK front B w0 (.slice a p.length cap) p) (en : α → Int) (mk : ∀ j : Nat, j < p.length → α) (hen : ∀ j hj, en (mk j hj) = (j : Int)) (J Jx : List α → World → Prop) (N : Nat) (hJ : AbidesFrom N J)
    (hY : ∀ pre x W, J pre W → pre.length < 6 → YieldAt Fence.wide (n - 1) Tryz.prog l #[.int .i64 (en x)] W fun e W' =>
      (e = .returned (.bool true) ∧ J (pre ++ [x]) W' ∧ Kp w0.heap.size [bc, bp] W W') ∨ (e = .returned (.bool false) ∧ Jx (pre ++ [x]) W'))
    (W : World) (hW : Below w0.heap.size w0 W) (hbc : Boxed W bc 2 (.int .i64 (c : Int))) (hbp : Boxed W bp 30 (.slice a p.length cap)) (h0 : J [] W) :
    CallsIn Fence.wide n Tryz.prog 107 #[.func (.yield l) #[] #[], .pointer (some ⟨bc, 0, none⟩), .pointer (some ⟨bp, 0, none⟩)] W fun e W' => (∃ v, e = .returned v) ∧
      ((∃ ys, ys.map en = downL p (c : Int) ∧ J ys W') ∨ (∃ pre, pre.map en <+: downL p (c : Int) ∧ Jx pre W')) := by
  have HP : Hid (SK front B w0 (.slice a p.length cap) p) := hp
  have HSUP : Hid (SupOk p p.length) := hsup
  have HJ : Hid (AbidesFrom N J) := hJ
  have HLOW : Hid (((allC p).take c).filter (fun i => undB p i (c : Int)) = []) := downL_low hsup (by omega)
  clear hp hsup hJ
  have hcc := hbc.cell
  refine callsIn_of_wp Tryz.func107 rfl trivial ?_ rfl
  simp only [Tryz.ntmps107, List.size_toArray, List.length_cons, List.length_nil, Nat.reduceAdd, Nat.reduceSub, Array.replicate_succ, Array.replicate_zero, List.push_toArray, List.append_toArray, List.nil_append, List.cons_append]
  gi_wp2
  gi_loopw [4] (fun v wr => ∃ (pre : List α) (k : Nat), v = .int .i64 (k : Int) ∧ k ≤ p.length ∧ Hid (pre.map en = ((allC p).take k).filter (fun i => undB p i (c : Int))) ∧ J pre wr ∧ Below w0.heap.size w0 wr ∧ Boxed wr bc 2 (.int .i64 (c : Int)) ∧ Boxed wr bp 30 (.slice a p.length cap)) (fun v _ => p.length - (intOf v).toNat)
  case atStart => exact ⟨[], c, rfl, by omega, HLOW.out.symm, h0, hW, hbc, hbp⟩
  case round =>
    clear hcc hbc hbp h0 hW HLOW
    obtain ⟨pre, k, rfl, hk, hx, hJ0, hb, hbc, hbp⟩ := hrel
    have p0 := hbp.cell
    have HJ0 : Hid (J pre wr) := hJ0
    clear hJ0
    gi_wp2_with fail
    refine ⟨trivial, ?_⟩
    refine (callsIn_wide.2 (hasClass a p.length cap (k : Int) wr)).mono ?_
    rintro e w1 ⟨rfl, hb1⟩
    have HJ1 : Hid (J pre w1) := abide HJ.out HJ0.out hb1
    have hw1 : Below w0.heap.size w0 w1 := below_over hb hb1
    have hbc1 : Boxed w1 bc 2 (.int .i64 (c : Int)) := (hb1.block _ hbc.lt).trans hbc
    have hbp1 : Boxed w1 bp 30 (.slice a p.length cap) := (hb1.block _ hbp.lt).trans hbp
    have p1 := hbp1.cell
    have c1 := hbc1.cell
    clear hb1 hb hbc hbp p0 HJ0
    by_cases hlt : k < p.length
    · have HQ : (decide (0 ≤ (k : Int)) && decide ((k : Int) < (p.length : Int))) = true := by simp; omega
      rw [HQ]
      clear HQ
      gi_wp2_with fail
      refine ⟨trivial, ?_⟩
      refine (callsIn_wide.2 (isUnder B p a cap (k : Int) (c : Int) (by omega) (by omega) h6 HSUP.out w1 (SK.on HP.out (Keep.of hw1)))).mono ?_
      rintro e w2 ⟨rfl, hb2⟩
      have hJ2 : J pre w2 := abide HJ.out HJ1.out hb2
      have hw2 : Below w0.heap.size w0 w2 := below_over hw1 hb2
      have hbc2 : Boxed w2 bc 2 (.int .i64 (c : Int)) := (hb2.block _ hbc1.lt).trans hbc1
      have hbp2 : Boxed w2 bp 30 (.slice a p.length cap) := (hb2.block _ hbp1.lt).trans hbp1
      clear hb2 hw1 hbc1 hbp1 p1 c1 HJ1
      have HST : Hid (((allC p).take (k + 1)).filter (fun i => undB p i (c : Int)) = pre.map en ++ (if undB p (k : Int) (c : Int) then [(k : Int)] else [])) := by
        show _ = _
        rw [allC_take hlt, List.filter_append, hx.out, filter_one]
      cases hq : undB p (k : Int) (c : Int)
      · have HX : Hid (pre.map en = ((allC p).take (k + 1)).filter (fun i => undB p i (c : Int))) := by
          show _ = _
          rw [HST.out, hq]; simp
        clear HST hx
        gi_wp2
        refine ⟨fun _ h => (by cases h), ?_⟩
        gi_wp2
        go_roundw
        case rel => exact ⟨pre, k + 1, by go_num, by omega, HX.out, hJ2, hw2, hbc2, hbp2⟩
        case measure => simp [intOf]; omega
      · have HX : Hid ((pre ++ [mk k hlt]).map en = ((allC p).take (k + 1)).filter (fun i => undB p i (c : Int))) := by
          show _ = _
          rw [HST.out, hq]; simp [hen]
        have hlen : pre.length < 6 := by
          have h1 := downL_len p (c : Int) h6
          have h2 := (downL_pre p (c : Int) (k + 1)).length_le
          rw [← HX.out] at h2
          simp at h2
          omega
        have HPRE : Hid ((pre ++ [mk k hlt]).map en <+: downL p (c : Int)) := by show _ <+: _; rw [HX.out]; exact downL_pre p (c : Int) (k + 1)
        obtain ⟨fn, tmps, assign, body, hy, hR⟩ := hY pre (mk k hlt) w2 hJ2 hlen
        rw [hen] at hy
        generalize mk k hlt = xj at *
        clear HST hx
        gi_wp2
        refine hR.mono ?_
        rintro e W3 (⟨rfl, hJ3, hk3⟩ | ⟨rfl, hJx3⟩)
        · have hb3 : Below w0.heap.size w0 W3 := hw2.trans hk3.1
          have hbc3 := hk3.boxed (b := bc) (by simp) hbc2
          have hbp3 := hk3.boxed (b := bp) (by simp) hbp2
          gi_wp2
          go_roundw
          case rel => exact ⟨pre ++ [xj], k + 1, by go_num, by omega, HX.out, hJ3, hb3, hbc3, hbp3⟩
          case measure => simp [intOf]; omega
        · gi_wp2
          refine bodyPost_ret (results_none rfl _ _ _) rfl ?_
          exact ⟨⟨_, rfl⟩, .inr ⟨pre ++ [xj], HPRE.out, hJx3⟩⟩
    · have hkk : k = p.length := by omega
      have HE : Hid (pre.map en = downL p (c : Int)) := by
        show _ = _
        rw [hx.out, hkk, downL_all]
      have HQ : (decide (0 ≤ (k : Int)) && decide ((k : Int) < (p.length : Int))) = false := by simp; omega
      rw [HQ]
      clear HQ hx hkk
      gi_wp2
      go_end0
      exact ⟨⟨_, rfl⟩, .inl ⟨pre, HE.out, HJ1.out⟩⟩

/-- What the iterator over those below hands out. -/
theorem down_stops (n : Nat) (hn : 1 ≤ n) (bc bp B : Nat) (p : Prg) (a : Option Addr) (cap : Nat) (c : Nat) (hc : c < p.length) (h6 : p.length ≤ 6) (hsup : SupOk p p.length) (w0 w : World) (hp : SK front B w0 (.slice a p.length cap) p) (hw : Below w0.heap.size w0 w) (hbc : Boxed w bc 2 (.int .i64 (c : Int))) (hbp : Boxed w bp 30 (.slice a p.length cap)) :
    SeqStopsK Fence.wide n Tryz.prog 107 #[.pointer (some ⟨bc, 0, none⟩), .pointer (some ⟨bp, 0, none⟩)] (fun x : Cl p.length => #[Value.int .i64 x.1]) (Kp w0.heap.size [bc, bp]) (fun ys => vals ys = downL p (c : Int)) (fun pre => vals pre <+: downL p (c : Int)) 6 w := fun l J Jx W hW hJ _ hY h0 =>
  down1_in n hn l bc bp B p a cap c hc h6 hsup w0 hp (fun x : Cl p.length => x.1) (fun j hj => ⟨(j : Int), by omega, by omega⟩) (fun _ _ => rfl) J Jx _ hJ hY W (hw.trans (hW.mono hw.size)) ((hW.block bc hbc.lt).trans hbc) ((hW.block bp hbp.lt).trans hbp) h0

/-- A list of the caller's own, in a box, its row none of these blocks. -/
def BoxN (n₀ b : Nat) (bs : List Nat) (W : World) (l : List Int) : Prop := ∃ v, Boxed W b 26 v ∧ Grow n₀ W v l ∧ ∀ y ∈ bs, some y ≠ v.ownBlock
theorem boxN_own {β : Type} (n₀ b : Nat) (bs : List Nat) (f : β → List Int) : Own (fun (s : β) W => BoxN n₀ b bs W (f s)) := fun s X Y row hs hg hr => by
  obtain ⟨v, h1, ⟨h2, h3⟩, h4⟩ := hs
  obtain ⟨v', k1, k2, k3, k4⟩ := holdsRow_own (β := Unit) n₀ b 26 2 1 (fun _ => (f s).length) (fun _ => nums (f s)) (fun _ v => v ≠ .slice none 0 0 ∧ ∀ y ∈ bs, some y ≠ v.ownBlock) () X Y row ⟨v, h1, h2, h3, h4⟩ hg hr
  exact ⟨v', k1, ⟨k2, k3⟩, k4⟩
theorem BoxN.below {n₀ b : Nat} {bs : List Nat} {W W' : World} {l : List Int} (h : BoxN n₀ b bs W l) (hb : Below W.heap.size W W') : BoxN n₀ b bs W' l := by
  obtain ⟨v, h1, h2, h3⟩ := h
  exact ⟨v, (hb.block b h1.lt).trans h1, h2.on hb, h3⟩
/-- An append onto it. -/
theorem boxN_app {W w1 : World} {n₀ bA : Nat} {bs : List Nat} {v v' : Value} {l : List Int} {x : Int} {tmp : Obj}
    (hv : Boxed W bA 26 v) (hg : Grow n₀ W v l) (hoff : ∀ y ∈ bs, some y ≠ v.ownBlock) (hbs : ∀ y ∈ bs, y ≠ bA ∧ y < W.heap.size) (hn₀ : n₀ ≤ W.heap.size) (hB : n₀ ≤ bA)
    (hown' : w1.ownsRow n₀ 2 1 v' (l.length + 1) (nums l ++ [.int .i64 x])) (hgrow : (W.alloc tmp).grownBy w1 v.ownBlock) (hvn : v' ≠ .slice none 0 0) (hat : v'.ownBlock = v.ownBlock ∨ v'.ownBlock = some (W.alloc tmp).heap.size) :
    (Boxed w1 bA 26 v) ∧ BoxN n₀ bA bs (w1.setCell ⟨bA, 0, none⟩ v') (l ++ [x]) ∧ Kp n₀ bs W (w1.setCell ⟨bA, 0, none⟩ v') ∧ KeepsOthers W (w1.setCell ⟨bA, 0, none⟩ v') ∧ Below n₀ W (w1.setCell ⟨bA, 0, none⟩ v') := by
  obtain ⟨hv1, hv2, hr2, hk2, hb2⟩ := hv.appended (by decide) hg.1 hn₀ hB hown' hgrow
  refine ⟨hv1, ⟨_, hv2, grow_next hr2 hvn, fun y hy => ?_⟩, kp_app hv hg.1 hn₀ hB hown' hgrow (fun b hb => ⟨(hbs b hb).1, (hbs b hb).2, hoff b hb⟩), hk2, hb2⟩
  rcases hat with h | h
  · rw [h]; exact hoff y hy
  · rw [h]
    intro e
    have h1 := (hbs y hy).2
    simp at e
    omega

end Pg
end Go.Proofs.YtinanjjhkddikaaGreat
