/- The contract of the other side's places. -/
import Derived.Test.YtnlanikjlokboaaLo6
namespace Go.Proofs.Ytnlanikjlokboaa
namespace St
open Go.ChangeShapes Go.WideShapes Go.ChangeAt Go.RowKit

theorem step_app {P : Program} (w : World) {ops : Array Oper} {o : Oper} {a : Act} {K : Act → World → Prop} {Q : Exit → Act → World → Prop} {E : Prop} (hgd : o.guard = none) (s x : Operand) (t : TypeId)
    (ho : o.op = .call { callee := .builtin .append, args := #[s, x], argTypes := #[t, t] })
    (base : Nat) (e : TypeId) (i : TypeInfo) (z : Value) (size bytes : Nat) (ht : P.underlying t = some (.slice e)) (hi : P.info? e = some i) (hz : i.zero = some z)
    (hsize : i.size = size) (hby : i.bytes = bytes) (hzs : z.cells.size = size) (hsz : 0 < size)
    (v : Value) (n : Nat) (xs : List Value) (hs : a.eval s = v) (hown : w.ownsRow base e size v n xs)
    (ad : Addr) (m c : Nat) (news : List Value) (hx : a.eval x = .slice (some ad) m c) (hl : news.length = m * size) (hnews : ∀ j u, news[j]? = some u → w.cell? (ad.add j) = some u) (h1 : ∀ u ∈ news, u.oneCell' = true)
    (h63 : n + m ≤ maxLen) (hbytes : (n + m) * bytes ≤ 140737488355328) (hbase : base ≤ w.heap.size)
    (h : ∀ v' w', w'.ownsRow base e size v' (n + m) (xs ++ news) → w.grownBy w' v.ownBlock → (v' = .slice none 0 0 ↔ v = .slice none 0 0 ∧ m = 0) → K (a.put o.dst v') w') :
    if Region.wanted o (yielded ops a.tmps) = true then Oper.wp P o a w K Q else E := by
  have hw : Region.wanted o (yielded ops a.tmps) = true := by simp [Region.wanted, hgd]
  rw [if_pos hw]
  exact wp_append_own w s x t ho base e i z size bytes ht hi hz hsize hby hzs hsz v n xs hs hown ad m c news hx hl hnews h1 h63 hbytes hbase h
theorem own_keep {u v : World} {B n q : Nat} {e : TypeId} {x : Value} {xs : List Value} (h : u.ownsRow B e q x n xs) (hb : Below u.heap.size u v) : v.ownsRow B e q x n xs :=
  h.kept (row := none) ⟨hb.os, hb.tape, hb.output, hb.size, fun k hk _ => hb.block k hk⟩ (by
    cases hx : x.ownBlock with
    | none => exact Or.inl rfl
    | some g => exact Or.inr (by simp))
def ints (l : List Int) : List Value := l.map (Value.int .i64)
theorem ints_at {l : List Int} {j : Nat} {x : Int} (h : l[j]? = some x) : (ints l)[j]? = some (.int .i64 x) := by simp [ints, h]
/-- A row that the call owns. -/
theorem igot_of {w : World} {B : Nat} {e : TypeId} {v : Value} {l : List Int} (h : w.ownsRow B e 1 v l.length (ints l)) (hv : v ≠ .slice none 0 0) : IGot B w v l := by
  have hcells := @World.ownsRow.cells w B e 1 v l.length (ints l) h
  have hlt := @World.ownsRow.lt w B e 1 v l.length (ints l) h
  obtain ⟨_, ⟨h, _⟩ | ⟨g, cap, cur, rfl, hB, hblk, hcap, hmax, hsz, _⟩⟩ := h
  · exact absurd h hv
  · refine ⟨g, cap, rfl, hB, (hlt g rfl).2, fun j x hj => ?_, fun i hi => ?_⟩
    · have := hcells (g := g) rfl j _ (ints_at hj)
      simp only [Go.WideShapes.add_plain] at this
      exact this
    · have hc : i < cur.size := by omega
      exact ⟨⟨cur[i], by simp [World.cell?, hblk, hc]⟩, by simp [World.frozen?, hblk]⟩
/-- The row has an address, where it is not nil. -/
theorem own_at {w : World} {B : Nat} {e : TypeId} {v : Value} {n : Nat} {xs : List Value} (h : w.ownsRow B e 1 v n xs) (hv : v ≠ .slice none 0 0) : ∃ g cap, v = .slice (some ⟨g, 0, none⟩) n cap := by
  obtain ⟨_, ⟨h, _⟩ | ⟨g, cap, cur, rfl, _⟩⟩ := h
  · exact absurd h hv
  · exact ⟨g, cap, rfl⟩
theorem ints_take {l : List Tx.Ins} {v : List Int} {k : Nat} (hk : k < l.length) : ints ((Lay.places l v).take (k + 1 + 1)) = ints ((Lay.places l v).take (k + 1)) ++ [.int .i64 (Lay.pl l v (k + 1))] := by
  have hl : k + 1 < (Lay.places l v).length := by rw [Lay.places_len]; omega
  unfold ints
  rw [List.take_succ_eq_append_getElem hl, List.map_append, places_take (v := v) (show k + 1 ≤ l.length by omega)]
  rfl

theorem pl_nextS {l : List Tx.Ins} {v : List Int} {k : Nat} (hw : Lay.Wide l v) (hk : k < l.length) (hv : k < v.length) : Lay.pl l v (k + 1) = Lay.pl l v k + sizeF l[k].1 l[k].2.1 v[k] := by
  rw [pl_next hk hv]
  have h := hw.2 k
  rw [wd_at hv, ins_at hk] at h
  unfold sizeF
  rcases h with e | ⟨_, e⟩
  · rw [e]; split <;> omega
  · rw [e]; simp; omega

set_option maxRecDepth 100000 in
set_option maxHeartbeats 2000000 in
theorem l3Places (g cap g' cap' : Nat) (l : List Tx.Ins) (v : List Int) (hl : l.length ≤ 40) (hw : Lay.Wide l v) (w : World) (hr : Row w g 0 l) (hi : IRow w g' 0 v) :
    Calls Try.prog 38 #[.slice (some ⟨g, 0, none⟩) l.length cap, .slice (some ⟨g', 0, none⟩) l.length cap'] w fun e w' => ∃ x, e = .returned x ∧ IGot w.heap.size w' x (Lay.places l v) ∧ Below w.heap.size w w' := by
  obtain ⟨i0, hif, hz0, hz1, hz2⟩ := info_parts infoN
  have HR : Hid (Row w g 0 l) := hr
  have HI : Hid (IRow w g' 0 v) := hi
  have HW : Hid (Lay.Wide l v) := hw
  have HPL : Hid ((Lay.places l v).length = l.length + 1) := Lay.places_len l v
  have HL : Hid (v.length = l.length) := hw.1
  clear hr hi hw
  go_enter Try.func38, Try.ntmps38
  go_wp2
  have HO0 : Hid ((w.alloc (.cells #[.int .i64 0] 2)).ownsRow w.heap.size 2 1 (.slice (some ⟨w.heap.size, 0, none⟩) 1 1) 1 (ints ((Lay.places l v).take (0 + 1)))) := by
    show World.ownsRow _ _ _ _ _ _ _
    have e : ints ((Lay.places l v).take (0 + 1)) = [.int .i64 0] := by
      have hl : 0 < (Lay.places l v).length := by rw [Lay.places_len]; omega
      rw [List.take_succ_eq_append_getElem hl, places_take (v := v) (Nat.zero_le _)]
      rfl
    rw [e]
    exact ⟨by simp, .inr ⟨w.heap.size, 1, #[.int .i64 0], rfl, Nat.le_refl _, heap_alloc_new w _, Nat.le_refl _, by decide, by simp, by simp⟩⟩
  go_loopw [5, 6] (fun y i wr => ∃ (k : Nat) (v0 : Value), k ≤ l.length ∧ i = .int .i64 k ∧ v0 = y ∧ Hid (wr.ownsRow w.heap.size 2 1 v0 (k + 1) (ints ((Lay.places l v).take (k + 1)))) ∧ Hid (v0 ≠ .slice none 0 0) ∧ Below w.heap.size w wr) (fun _ i _ => l.length - (intOf i).toNat)
  case atStart => exact ⟨0, _, Nat.zero_le _, rfl, rfl, HO0.out, by show _ ≠ _; simp, (Below.refl _ _).alloc (Nat.le_refl _) _⟩
  case round =>
    obtain ⟨k, v0, hk, rfl, rfl, hown, hvn, hb⟩ := hrel
    by_cases hlt : k < l.length
    · have hlv : k < v.length := by rw [HL.out]; exact hlt
      obtain ⟨gp, cp, rfl⟩ := own_at hown.out hvn.out
      obtain ⟨d0, d1, d2⟩ := HR.out.on hb k _ (List.getElem?_eq_getElem hlt)
      have i1 := HI.out.on hb k _ (List.getElem?_eq_getElem hlv)
      have p0 : wr.cell? ⟨gp, 0 + k, none⟩ = some (.int .i64 (Lay.pl l v k)) := by
        have := World.ownsRow.cells hown.out (g := gp) rfl k _ (ints_at (l := (Lay.places l v).take (k + 1)) (by rw [List.getElem?_take, if_pos (by omega)]; exact Lay.places_at hk))
        simp only [Go.WideShapes.add_plain] at this
        exact this
      have hpb := Lay.pl_bd (l := l) HW.out.bit k
      have hpb1 := Lay.pl_bd (l := l) HW.out.bit (k + 1)
      have hnb := HW.out.bit k
      have HNX : Hid (Lay.pl l v (k + 1) = Lay.pl l v k + sizeF l[k].1 l[k].2.1 v[k]) := pl_nextS HW.out hlt hlv
      have HT : Hid (ints ((Lay.places l v).take (k + 1 + 1)) = ints ((Lay.places l v).take (k + 1)) ++ [.int .i64 (Lay.pl l v (k + 1))]) := ints_take hlt
      rw [wd_at hlv] at hnb
      rw [HNX.out] at hpb1
      generalize l[k] = x at *
      generalize v[k] = n at *
      generalize hpk : Lay.pl l v k = pk at *
      clear hpk hlv
      obtain ⟨op, a, b⟩ := x
      simp only [Nat.zero_add] at d0 d1 d2 i1 p0
      have hki : (k : Int) < (l.length : Int) := by omega
      have hk1 : (0 : Int) ≤ (k : Int) := by omega
      have hk2 : (k : Int) < (k : Int) + 1 := by omega
      have hws1 : IntKind.i64.wrap (pk + sizeF op a n) = pk + sizeF op a n := by
        have h1 := hpb1.1
        have h2 := hpb1.2
        simp only [] at h1 h2
        simp [IntKind.wrap, IntKind.signed, IntKind.bits]; omega
      generalize hsf : sizeF op a n = sf at *
      have HSF : Hid (sizeF op a n = sf) := hsf
      clear hsf hpb1
      have cS : ∀ u, Calls Try.prog 72 #[.agg #[.int .i64 op, .int .i64 a, .int .i64 b], .int .i64 n] u fun e w' => e = .returned (.int .i64 sf) ∧ Below u.heap.size u w' := by
        intro u
        rw [← HSF.out]
        exact l3Size op a b n hnb u
      have HCS : Hid (∀ u, Calls Try.prog 72 #[.agg #[.int .i64 op, .int .i64 a, .int .i64 b], .int .i64 n] u fun e w' => e = .returned (.int .i64 sf) ∧ Below u.heap.size u w') := cS
      clear cS
      go_wp2_with fail
      go_region_law (first
        | (refine step_app _ rfl (.tmp 14) (.tmp 29) 25 rfl w.heap.size 2 i0 (.int .i64 0) 1 8 Try.underlying25 hif hz0 hz1 hz2 rfl (by decide) (.slice (some ⟨gp, 0, none⟩) (k + 1) cp) (k + 1) _ (by simp [Act.eval]) ((own_keep hown.out (below_over (Below.refl _ _).drew hb1)).alloc _) ⟨w1.heap.size, 0, none⟩ 1 1 [.int .i64 (pk + sf)] (by simp [Act.eval]) rfl (by intro j u hj; match j, hj with | 0, hj => simp at hj; subst hj; simp [Addr.add]) (by intro u hu; simp at hu; subst hu; rfl) (by unfold maxLen; omega) (by omega) (by have := hb.size; have := hb1.size; simp at *; omega) ?_; intro v1 w2 hown1 hgrow1 hnil1)
        | (go_simp; go_at_call 72; refine (HCS.out _).mono ?_; rintro e w1 ⟨rfl, hb1⟩; have p2 := (hb1.cell (cell_lt p0)).trans p0; dsimp only))
      all_goals
        have hb1' : Below wr.heap.size wr w1 := below_over (Below.refl _ _).drew hb1
        have hw1 : Below w.heap.size w w1 := below_over hb hb1'
        have HO1 := own_keep hown.out hb1'
        have hw2 : Below w.heap.size w w2 := (hw1.alloc hw1.size _).grown hgrow1 (by have := hw1.size; simp; omega) (fun q hq => (HO1.lt q hq).1)
        have hv1 : Hid (v1 ≠ .slice none 0 0) := by
          show _ ≠ _
          intro e
          simp [e] at hnil1
        have HO2 : Hid (w2.ownsRow w.heap.size 2 1 v1 (k + 1 + 1) (ints ((Lay.places l v).take (k + 1 + 1)))) := by
          show World.ownsRow _ _ _ _ _ _ _
          rw [HT.out, HNX.out]
          exact hown1
        clear hown1 hgrow1 hnil1 hb1 hb1' HO1 p0 i1 d0 d1 d2 hb hown hvn hws1 p2
        go_wp2
        go_roundw
        case rel => exact ⟨k + 1, v1, by omega, by go_num, rfl, HO2.out, hv1.out, hw2⟩
        case measure => simp [intOf]; omega
    · have e : (Lay.places l v).take (k + 1) = Lay.places l v := List.take_of_length_le (by rw [HPL.out]; omega)
      have HE := hown.out
      have hkl : k + 1 = (Lay.places l v).length := by rw [HPL.out]; omega
      rw [e, hkl] at HE
      have HG : Hid (IGot w.heap.size wr v0 (Lay.places l v)) := igot_of HE hvn.out
      clear HE e hkl
      go_wp2
      go_ret
      exact ⟨_, rfl, HG.out, hb⟩
end St
end Go.Proofs.Ytnlanikjlokboaa
