/- Three appends in one statement, whose order is drawn: what is kept on the way. -/
import Derived.Test.YtogbkdhejdcpeaaDoorSh5
import Derived.Test.YtogbkdhejdcpeaaDoorPs1
import Derived.Maps.AppendAt
namespace Go.Proofs.YtogbkdhejdcpeaaDoor
namespace Pg
open Go.ChangeShapes Go.WideShapes Go.ChangeAt Go.RowKit St

theorem stepGrowAt (w : World) {ops : Array Oper} {o : Oper} {a : Act} {K : Act → World → Prop} {Q : Exit → Act → World → Prop} {E : Prop} (hgd : o.guard = none) (s x : Operand)
    (ho : o.op = .call { callee := .builtin .append, args := #[s, x], argTypes := #[29, 29] })
    (B g cv : Nat) (l : List Int) (hs : a.eval s = .slice (some ⟨g, 0, none⟩) l.length cv) (hg : Grow B w (.slice (some ⟨g, 0, none⟩) l.length cv) l) (hB : B ≤ w.heap.size)
    (z : Option Addr) (c B' : Nat) (r : List Int) (hx : a.eval x = .slice z r.length c) (hr : SI true B' w (.slice z r.length c) r) (hlen : l.length + r.length ≤ 1000)
    (h : ∀ g' cv' w', Grow B w' (.slice (some ⟨g', 0, none⟩) (l ++ r).length cv') (l ++ r) → Kept B w w' → (∀ b, b ≠ g → b < w.heap.size → w'.heap[b]? = w.heap[b]?) → (g' = g ∨ g' = w.heap.size) → K (a.put o.dst (.slice (some ⟨g', 0, none⟩) (l ++ r).length cv')) w') : if Region.wanted o (yielded ops a.tmps) = true then Oper.wp Tryd.prog o a w K Q else E := by
  obtain ⟨i0, hif, hz0, hz1, hz2⟩ := info_parts infoN
  cases z with
  | none =>
    obtain ⟨rfl, hn, rfl⟩ := SI.none_nil hr rfl
    refine stepAppNone w hgd s x 29 ho B 2 i0 1 Tryd.underlying29 hif _ l.length (nums l) hs hg.1 hx ?_
    have := h g cv w (by rw [List.append_nil]; exact hg) (Kept.refl _ _) (fun _ _ _ => rfl) (.inl rfl)
    rw [List.append_nil] at this
    exact this
  | some ad =>
    have hw : Region.wanted o (yielded ops a.tmps) = true := by simp [Region.wanted, hgd]
    rw [if_pos hw]
    obtain ⟨v', w', hr', h2, h3, h4, h5⟩ := run_append_own_at (P := Tryd.prog) w B 29 o.type 2 i0 (.int .i64 0) 1 8 Tryd.underlying29 hif hz0 hz1 hz2 rfl (by decide) (.slice (some ⟨g, 0, none⟩) l.length cv) l.length (nums l) hg.1 ad r.length c (nums r) (by rw [nums_length, Nat.mul_one]) (SI.nums hr) (nums_one r) (by unfold maxLen; omega) (by omega) hB
    have hG : Grow B w' v' (l ++ r) := ⟨by rw [List.length_append, nums_app]; exact h2, fun e => hg.2 (h4.1 e).1⟩
    obtain ⟨g', cv', hv⟩ := growForm hG
    unfold Oper.wp
    simp [execOp, ho, resolve, invoke, builtin, hs, hx, hr', Result.andThen]
    have := h g' cv' w' (by rw [← hv]; exact hG) (kept_grown hB hg.1 h3) (fun b hb hl => h3.block b hl (by simpa [Value.ownBlock] using hb)) (by rw [hv] at h5; simpa [Value.ownBlock] using h5)
    rw [← hv] at this
    exact this

def BoxM (b : Nat) (t : TypeId) (vs : Array Value) (X : World) : Prop := BoxT X b t vs
theorem lit2_of {X : World} {gc : Nat} {x y : Int} (h : BoxT X gc 2 #[.int .i64 x, .int .i64 y]) : SI true 0 X (.slice (some ⟨gc, 0, none⟩) [x, y].length 2) [x, y] := by
  refine SI.row (Nat.zero_le _) h.lt (fun j z hj => ?_) (fun j hj => ?_)
  · rw [Nat.zero_add]
    match j, hj with
    | 0, hj => simp at hj; subst hj; exact h.cell (i := 0) rfl
    | 1, hj => simp at hj; subst hj; exact h.cell (i := 1) rfl
  · have h' : X.heap[gc]? = some (.cells #[.int .i64 x, .int .i64 y] 2 (0, 0)) := h
    match j, hj with
    | 0, _ => exact ⟨⟨_, h.cell (i := 0) rfl⟩, by simp [World.frozen?, h']⟩
    | 1, _ => exact ⟨⟨_, h.cell (i := 1) rfl⟩, by simp [World.frozen?, h']⟩
theorem grow_lt {B : Nat} {w : World} {g n cv : Nat} {l : List Int} (h : Grow B w (.slice (some ⟨g, 0, none⟩) n cv) l) : g < w.heap.size := by
  obtain ⟨g', c', he, _, hl, _⟩ := h.gint
  injection he with he _ _
  injection he with he
  injection he with he
  omega
/-- Where a list of numbers of one's own stands, on the way. -/
structure R14 (B g cv : Nat) (l : List Int) (WC X : World) : Prop where
  gr : Grow B X (.slice (some ⟨g, 0, none⟩) l.length cv) l
  kp : Kept B WC X
  sz : B ≤ X.heap.size
theorem R14.alloc {B g cv : Nat} {l : List Int} {WC X : World} (h : R14 B g cv l WC X) (o : Obj) : R14 B g cv l WC (X.alloc o) := ⟨growOn h.gr (allocBelow _ _), h.kp.trans (Kept.of (allocBelow _ _) h.sz), by have := h.sz; simp; omega⟩
theorem R14.ne {B g cv : Nat} {l : List Int} {WC X : World} (h : R14 B g cv l WC X) : X.heap.size ≠ g := by have := grow_lt h.gr; omega
theorem R14.app {B g cv g' cv' : Nat} {l l' : List Int} {WC X X' : World} (h : R14 B g cv l WC X) (hg : Grow B X' (.slice (some ⟨g', 0, none⟩) l'.length cv') l') (hk : Kept B X X') : R14 B g' cv' l' WC X' := ⟨hg, h.kp.trans hk, Nat.le_trans h.sz hk.below.size⟩
theorem litK {X X' : World} {gc g g' : Nat} {vs : Array Value} {t : TypeId} (h : BoxT X gc t vs) (hne : gc ≠ g) (hk : ∀ b, b ≠ g → b < X.heap.size → X'.heap[b]? = X.heap[b]?) (hg' : g' = g ∨ g' = X.heap.size) : BoxT X' gc t vs ∧ gc ≠ g' := by
  have hl := h.lt
  refine ⟨(hk gc hne hl).trans h, ?_⟩
  rcases hg' with rfl | rfl
  · exact hne
  · omega
end Pg
end Go.Proofs.YtogbkdhejdcpeaaDoor
