/- The row of finds as a heap: its methods, and the library's Push and Pop over it. -/
import Derived.Test.YtinanjjhkddikaaGreatJSf1
import Derived.Deep.RegionLaw
import Derived.Deep.RegionHeld3
import Derived.Deep.DeepCutAuto
import Derived.Maps.AppendAt
import Derived.Laws.AppendOwnNone
namespace Go.Proofs.YtinanjjhkddikaaGreat
namespace Pg
open Go.ChangeShapes Go.WideShapes Go.ChangeAt Go.RowKit St Wd

/-- A row is laid behind a row of the call's own, in a region that draws its order. -/
theorem stepAppF {P : Program} (w : World) {ops : Array Oper} {o : Oper} {a : Act} {K : Act → World → Prop} {Q : Exit → Act → World → Prop} {E : Prop} (hgd : o.guard = none) (s x : Operand) (t : TypeId)
    (ho : o.op = .call { callee := .builtin .append, args := #[s, x], argTypes := #[t, t] })
    (base : Nat) (e : TypeId) (i : TypeInfo) (z : Value) (size bytes : Nat) (ht : P.underlying t = some (.slice e)) (hi : P.info? e = some i) (hz : i.zero = some z)
    (hsize : i.size = size) (hby : i.bytes = bytes) (hzs : z.cells.size = size) (hsz : 0 < size)
    (v : Value) (n : Nat) (xs : List Value) (hs : a.eval s = v) (hown : w.ownsRow base e size v n xs)
    (ad : Addr) (m c : Nat) (news : List Value) (hx : a.eval x = .slice (some ad) m c) (hl : news.length = m * size) (hnews : ∀ j u, news[j]? = some u → w.cell? (ad.add j) = some u) (h1 : ∀ u ∈ news, u.oneCell' = true)
    (h63 : n + m ≤ maxLen) (hbytes : (n + m) * bytes ≤ 140737488355328) (hbase : base ≤ w.heap.size)
    (h : ∀ v' w', w'.ownsRow base e size v' (n + m) (xs ++ news) → w.grownBy w' v.ownBlock → (v' = .slice none 0 0 ↔ v = .slice none 0 0 ∧ m = 0) → (v'.ownBlock = v.ownBlock ∨ v'.ownBlock = some w.heap.size) → K (a.put o.dst v') w') :
    if Region.wanted o (yielded ops a.tmps) = true then Oper.wp P o a w K Q else E := by
  have hw : Region.wanted o (yielded ops a.tmps) = true := by simp [Region.wanted, hgd]
  rw [if_pos hw]
  obtain ⟨v', w', hr, h2, h3, h4, h5⟩ := run_append_own_at (P := P) w base t o.type e i z size bytes ht hi hz hsize hby hzs hsz v n xs hown ad m c news hl hnews h1 h63 hbytes hbase
  unfold Oper.wp
  simp [execOp, ho, resolve, invoke, builtin, hs, hx, hr, Result.andThen]
  exact h v' w' h2 h3 h4 h5
theorem new_three (X : World) (a b c : Int) (t : TypeId) : ∀ k : Nat, k < 3 → ∃ v : Int, (X.alloc (.cells #[.int .i64 a, .int .i64 b, .int .i64 c] t)).drew.cell? ⟨X.heap.size, k, none⟩ = some (.int .i64 v) := fun k hk => by
  have h : Cells (X.alloc (.cells #[.int .i64 a, .int .i64 b, .int .i64 c] t)) X.heap.size [.int .i64 a, .int .i64 b, .int .i64 c] := Cells.new X _ rfl _ _
  match k, hk with
  | 0, _ => exact ⟨a, h.g0.1⟩
  | 1, _ => exact ⟨b, h.g1.1⟩
  | 2, _ => exact ⟨c, h.g2.1⟩
theorem infoF : (Tryz.prog.info? 58).map (fun i => (i.zero, i.size, i.bytes)) = some (some (.agg #[.int .i64 0, .int .i64 0, .int .i64 0]), 3, 24) := by kernel_rfl
theorem m_push (a : Addr) (w : World) : (method 274 91 (.pointer (some a)) "Push").run Tryz.prog w = .ok (142, .pointer (some a)) w := by kernel_rfl
theorem m_pop (a : Addr) (w : World) : (method 274 91 (.pointer (some a)) "Pop").run Tryz.prog w = .ok (141, .pointer (some a)) w := by kernel_rfl
theorem m_len0 (a : Addr) (w : World) : (method 274 91 (.pointer (some a)) "Len").run Tryz.prog w = (do let v ← loadVar 85 a; pure (54, v) : Sem (FuncId × Value)).run Tryz.prog w := by kernel_rfl
theorem m_less0 (a : Addr) (w : World) : (method 274 91 (.pointer (some a)) "Less").run Tryz.prog w = (do let v ← loadVar 85 a; pure (136, v) : Sem (FuncId × Value)).run Tryz.prog w := by kernel_rfl
theorem m_swap0 (a : Addr) (w : World) : (method 274 91 (.pointer (some a)) "Swap").run Tryz.prog w = (do let v ← loadVar 85 a; pure (137, v) : Sem (FuncId × Value)).run Tryz.prog w := by kernel_rfl
theorem m_len {b i : Nat} {x : Option Addr} {n c : Nat} {w : World} (h : w.cell? ⟨b, i, none⟩ = some (.slice x n c)) : (method 274 91 (.pointer (some ⟨b, i, none⟩)) "Len").run Tryz.prog w = .ok (54, .slice x n c) w := by
  rw [m_len0]
  go_simp
theorem m_less {b i : Nat} {x : Option Addr} {n c : Nat} {w : World} (h : w.cell? ⟨b, i, none⟩ = some (.slice x n c)) : (method 274 91 (.pointer (some ⟨b, i, none⟩)) "Less").run Tryz.prog w = .ok (136, .slice x n c) w := by
  rw [m_less0]
  go_simp
theorem m_swap {b i : Nat} {x : Option Addr} {n c : Nat} {w : World} (h : w.cell? ⟨b, i, none⟩ = some (.slice x n c)) : (method 274 91 (.pointer (some ⟨b, i, none⟩)) "Swap").run Tryz.prog w = .ok (137, .slice x n c) w := by
  rw [m_swap0]
  go_simp
set_option maxHeartbeats 400000 in
theorem heapLen (a : Option Addr) (n cap : Nat) (w : World) : Calls Tryz.prog 54 #[.slice a n cap] w fun e w' => e = .returned (.int .i64 (n : Int)) ∧ w' = w := by
  go_enter Tryz.func54, Tryz.ntmps54
  go_wp2
  go_ret
  exact ⟨rfl, rfl⟩
set_option maxHeartbeats 1000000 in
theorem cmpInt (x y : Int) (w : World) : Calls Tryz.prog 139 #[.int .i64 x, .int .i64 y] w fun e w' => ∃ r : Int, e = .returned (.int .i64 r) ∧ w' = w := by
  go_enter Tryz.func139, Tryz.ntmps139
  go_wp2
  all_goals (go_ret; first | exact ⟨_, rfl, rfl⟩ | exact ⟨⟨_, rfl⟩, rfl⟩ | exact rfl)
set_option maxRecDepth 100000 in
set_option maxHeartbeats 1000000 in
theorem cmpOr (g cap : Nat) (w : World) (hv : ∀ k : Nat, k < 3 → ∃ v : Int, w.cell? ⟨g, k, none⟩ = some (.int .i64 v)) : Calls Tryz.prog 138 #[.slice (some ⟨g, 0, none⟩) 3 cap] w fun e w' => ∃ r : Int, e = .returned (.int .i64 r) ∧ w' = w := by
  have HV : Hid (∀ k : Nat, k < 3 → ∃ v : Int, w.cell? ⟨g, k, none⟩ = some (.int .i64 v)) := hv
  clear hv
  go_enter Tryz.func138, Tryz.ntmps138
  go_wp2
  go_loopw [8] (fun i wr => ∃ k : Nat, k ≤ 3 ∧ i = .int .i64 (k : Int) ∧ wr = w) (fun i _ => 3 - (intOf i).toNat)
  case atStart => exact ⟨0, by omega, rfl, rfl⟩
  case round =>
    obtain ⟨k, hk, rfl, rfl⟩ := hrel
    by_cases hlt : k < 3
    · have hki : (k : Int) < 3 := by omega
      obtain ⟨v, hv⟩ := HV.out k hlt
      by_cases hz : v = 0
      · subst hz
        go_wp2
        go_roundw
        case rel => exact ⟨k + 1, by omega, by go_num, by simp⟩
        case measure => simp [intOf]; omega
      · go_wp2
        go_ret
        first | exact ⟨_, rfl, rfl⟩ | exact ⟨⟨_, rfl⟩, rfl⟩ | exact rfl
    · have hki : ¬ (k : Int) < 3 := by omega
      go_wp2
      go_ret
      first | exact ⟨_, rfl, rfl⟩ | exact ⟨⟨_, rfl⟩, rfl⟩ | exact rfl
set_option maxRecDepth 100000 in
set_option maxHeartbeats 4000000 in
theorem heapLess (B0 g c i j : Nat) (T : List Fd) (hi : i < T.length) (hj : j < T.length) (w : World) (hr : RF B0 w (.slice (some ⟨g, 0, none⟩) T.length c) T) :
    Calls Tryz.prog 136 #[.slice (some ⟨g, 0, none⟩) T.length c, .int .i64 (i : Int), .int .i64 (j : Int)] w fun e w' => ∃ b : Bool, e = .returned (.bool b) ∧ Below w.heap.size w w' := by
  have hii : (i : Int) < (T.length : Int) := by omega
  have hji : (j : Int) < (T.length : Int) := by omega
  obtain ⟨a0, a1, a2⟩ := hr.at (List.getElem?_eq_getElem hi)
  obtain ⟨b0, b1, b2⟩ := hr.at (List.getElem?_eq_getElem hj)
  generalize T[i] = x at *
  generalize T[j] = y at *
  obtain ⟨x0, x1, x2⟩ := x
  obtain ⟨y0, y1, y2⟩ := y
  dsimp only at *
  have HK : Hid (∀ X, Below w.heap.size w X → Below w.heap.size w X ∧ X.cell? ⟨g, i * 3, none⟩ = some (.int .i64 x0) ∧ X.cell? ⟨g, i * 3 + 1, none⟩ = some (.int .i64 x1) ∧ X.cell? ⟨g, i * 3 + 2, none⟩ = some (.int .i64 x2) ∧ X.cell? ⟨g, j * 3, none⟩ = some (.int .i64 y0) ∧ X.cell? ⟨g, j * 3 + 1, none⟩ = some (.int .i64 y1) ∧ X.cell? ⟨g, j * 3 + 2, none⟩ = some (.int .i64 y2)) := fun X hX =>
    ⟨hX, (hX.cell (cell_lt a0)).trans a0, (hX.cell (cell_lt a1)).trans a1, (hX.cell (cell_lt a2)).trans a2, (hX.cell (cell_lt b0)).trans b0, (hX.cell (cell_lt b1)).trans b1, (hX.cell (cell_lt b2)).trans b2⟩
  have KD := HK.out _ (Below.refl w.heap.size w).drew
  have KA := fun (l : Array Value) (t : TypeId) => HK.out (w.alloc (.cells l t)).drew ((Below.refl w.heap.size w).alloc (Nat.le_refl _) _).drew
  clear a0 a1 a2 b0 b1 b2 hr
  go_enter Tryz.func136, Tryz.ntmps136
  go_upto_region 1 with fail
  go_region_held3 (fun X => Below w.heap.size w X ∧ X.cell? ⟨g, i * 3, none⟩ = some (.int .i64 x0) ∧ X.cell? ⟨g, i * 3 + 1, none⟩ = some (.int .i64 x1) ∧ X.cell? ⟨g, i * 3 + 2, none⟩ = some (.int .i64 x2) ∧ X.cell? ⟨g, j * 3, none⟩ = some (.int .i64 y0) ∧ X.cell? ⟨g, j * 3 + 1, none⟩ = some (.int .i64 y1) ∧ X.cell? ⟨g, j * 3 + 2, none⟩ = some (.int .i64 y2))
    (first | exact KD | exact KA _ _ | assumption)
    (first
      | (go_at_call 139; refine (cmpInt _ _ _).mono ?_; rintro e wA ⟨r, rfl, rfl⟩)
      | (go_at_call 138; refine (cmpOr _ _ _ (new_three _ _ _ _ _)).mono ?_; rintro e wB ⟨r, rfl, rfl⟩))
  have hb := (KA #[.int .i64 r, .int .i64 r, .int .i64 r] 0).1
  clear hb
  go_wp2
  go_ret
  exact ⟨_, rfl, (KA _ _).1⟩
end Pg
end Go.Proofs.YtinanjjhkddikaaGreat

/- Two finds of the row change places. -/
namespace Go.Proofs.YtinanjjhkddikaaGreat
namespace Pg
open Go.ChangeShapes Go.WideShapes Go.ChangeAt Go.RowKit St Wd
theorem RF.drew {B : Nat} {w : World} {v : Value} {T : List Fd} (h : RF B w v T) : RF B w.drew v T := h
theorem Tcs.drew {S : Nat → Prop} {u w : World} (h : Tcs S u w) : Tcs S u w.drew := ⟨h.os, h.tape, h.output, h.size, h.far⟩
set_option maxRecDepth 100000 in
set_option maxHeartbeats 4000000 in
theorem heapSwap (B0 g c i j : Nat) (T : List Fd) (hi : i < T.length) (hj : j < T.length) (w : World) (hr : RF B0 w (.slice (some ⟨g, 0, none⟩) T.length c) T) :
    Calls Tryz.prog 137 #[.slice (some ⟨g, 0, none⟩) T.length c, .int .i64 (i : Int), .int .i64 (j : Int)] w fun e w' => e = .returned (.tuple #[]) ∧ RF B0 w' (.slice (some ⟨g, 0, none⟩) T.length c) (swapF T i j) ∧ Tcs (fun k => k = g) w w' := by
  have hii : (i : Int) < (T.length : Int) := by omega
  have hji : (j : Int) < (T.length : Int) := by omega
  obtain ⟨a0, a1, a2⟩ := hr.at (List.getElem?_eq_getElem hi)
  obtain ⟨b0, b1, b2⟩ := hr.at (List.getElem?_eq_getElem hj)
  have HF : Hid (∀ k, w.frozen? ⟨g, k, none⟩ = false) := fun k => World.ownsRow.frozenAt hr k
  have HR1 := (RF.put rfl hr i T[j])
  have HR2 := (RF.put (by rw [List.length_set]) HR1 j T[i])
  have HR : Hid (RF B0 ((((((w.setCell ⟨g, i * 3, none⟩ (.int .i64 T[j].1)).setCell ⟨g, i * 3 + 1, none⟩ (.int .i64 T[j].2.1)).setCell ⟨g, i * 3 + 2, none⟩ (.int .i64 T[j].2.2)).setCell ⟨g, j * 3, none⟩ (.int .i64 T[i].1)).setCell ⟨g, j * 3 + 1, none⟩ (.int .i64 T[i].2.1)).setCell ⟨g, j * 3 + 2, none⟩ (.int .i64 T[i].2.2)) (.slice (some ⟨g, 0, none⟩) T.length c) (swapF T i j)) := by
    show RF _ _ _ _
    rw [swapF_eq hi hj]
    exact HR2
  clear HR1 HR2
  have HT : Hid (∀ (u : World) (k : Nat) (v : Value), Tcs (fun k => k = g) w u → Tcs (fun k => k = g) w (u.setCell ⟨g, k, none⟩ v)) := fun u k v h => h.trans (Tcs.set (S := fun k => k = g) u (p := ⟨g, k, none⟩) rfl v)
  have f0 := HF.out (i * 3)
  have f1 := HF.out (i * 3 + 1)
  have f2 := HF.out (i * 3 + 2)
  have g0 := HF.out (j * 3)
  have g1 := HF.out (j * 3 + 1)
  have g2 := HF.out (j * 3 + 2)
  clear hr HF
  by_cases hij : i = j
  · subst hij
    clear b0 b1 b2 g0 g1 g2 hji
    generalize T[i] = x at *
    obtain ⟨x0, x1, x2⟩ := x
    dsimp only at *
    have HT6 := HT.out _ (i * 3 + 2) (.int .i64 x2) (HT.out _ (i * 3 + 1) (.int .i64 x1) (HT.out _ (i * 3) (.int .i64 x0) (HT.out _ (i * 3 + 2) (.int .i64 x2) (HT.out _ (i * 3 + 1) (.int .i64 x1) (HT.out w (i * 3) (.int .i64 x0) (Tcs.refl _ _))))))
    clear HT
    go_enter Tryz.func137, Tryz.ntmps137
    go_upto_region 0 with fail
    go_region_law (fail)
    all_goals
      go_end0
      refine ⟨rfl, ?_, ?_⟩
      · exact RF.drew HR.out
      · exact Tcs.drew HT6
  · have hne : ¬ (i * 3 = j * 3) := by omega
    have hne' : ¬ (j * 3 = i * 3) := by omega
    generalize T[i] = x at *
    generalize T[j] = y at *
    obtain ⟨x0, x1, x2⟩ := x
    obtain ⟨y0, y1, y2⟩ := y
    dsimp only at *
    have HT6 := HT.out _ (j * 3 + 2) (.int .i64 x2) (HT.out _ (j * 3 + 1) (.int .i64 x1) (HT.out _ (j * 3) (.int .i64 x0) (HT.out _ (i * 3 + 2) (.int .i64 y2) (HT.out _ (i * 3 + 1) (.int .i64 y1) (HT.out w (i * 3) (.int .i64 y0) (Tcs.refl _ _))))))
    clear HT
    go_enter Tryz.func137, Tryz.ntmps137
    go_upto_region 0 with fail
    go_region_law (fail)
    all_goals
      go_end0
      refine ⟨rfl, ?_, ?_⟩
      · exact RF.drew HR.out
      · exact Tcs.drew HT6
end Pg
end Go.Proofs.YtinanjjhkddikaaGreat

/- The library's up and down over the row of finds: the same finds stay. -/
namespace Go.Proofs.YtinanjjhkddikaaGreat
namespace Pg
open Go.ChangeShapes Go.WideShapes Go.ChangeAt Go.RowKit St Wd
theorem lessN (B0 g c i j n : Nat) (T : List Fd) (hn : T.length = n) (hi : i < n) (hj : j < n) (w : World) (hr : RF B0 w (.slice (some ⟨g, 0, none⟩) n c) T) :
    Calls Tryz.prog 136 #[.slice (some ⟨g, 0, none⟩) n c, .int .i64 (i : Int), .int .i64 (j : Int)] w fun e w' => ∃ b : Bool, e = .returned (.bool b) ∧ Below w.heap.size w w' := by
  subst hn
  exact heapLess B0 g c i j T hi hj w hr
theorem swapN (B0 g c i j n : Nat) (T : List Fd) (hn : T.length = n) (hi : i < n) (hj : j < n) (w : World) (hr : RF B0 w (.slice (some ⟨g, 0, none⟩) n c) T) :
    Calls Tryz.prog 137 #[.slice (some ⟨g, 0, none⟩) n c, .int .i64 (i : Int), .int .i64 (j : Int)] w fun e w' => e = .returned (.tuple #[]) ∧ RF B0 w' (.slice (some ⟨g, 0, none⟩) n c) (swapF T i j) ∧ (swapF T i j).Perm T ∧ (swapF T i j).length = n ∧ Tcs (fun k => k = g) w w' := by
  subst hn
  refine (heapSwap B0 g c i j T hi hj w hr).mono ?_
  rintro e w' ⟨rfl, h1, h2⟩
  exact ⟨rfl, h1, swapF_perm hi hj, swapF_len T i j, h2⟩
theorem cell_off {g sb i : Nat} {u w : World} {v : Value} (h : Tcs (fun k => k = g) u w) (hne : sb ≠ g) (hc : u.cell? ⟨sb, i, none⟩ = some v) : w.cell? ⟨sb, i, none⟩ = some v :=
  (World.cell?_of_block (w := u) (h.far sb (cell_lt hc) (fun e => hne e))).trans hc
set_option maxRecDepth 100000 in
set_option maxHeartbeats 4000000 in
theorem heapUp (B0 sb g c j n : Nat) (T : List Fd) (hT : T.length = n) (hn : n ≤ 1000) (hsb : sb ≠ g) (hj : j < n) (w : World) (hc : w.cell? ⟨sb, 2, none⟩ = some (.slice (some ⟨g, 0, none⟩) n c)) (hr : RF B0 w (.slice (some ⟨g, 0, none⟩) n c) T) :
    Calls Tryz.prog 90 #[.iface 91 (.pointer (some ⟨sb, 2, none⟩)), .int .i64 (j : Int)] w fun e w' => e = .returned (.tuple #[]) ∧ ∃ T' : List Fd, T'.Perm T ∧ RF B0 w' (.slice (some ⟨g, 0, none⟩) n c) T' ∧ Tcs (fun k => k = g) w w' := by
  have HR : Hid (RF B0 w (.slice (some ⟨g, 0, none⟩) n c) T) := hr
  have HC : Hid (w.cell? ⟨sb, 2, none⟩ = some (.slice (some ⟨g, 0, none⟩) n c)) := hc
  clear hr hc
  go_enter Tryz.func90, Tryz.ntmps90
  go_wp2
  go_loopw [1] (fun x wr => ∃ (k : Nat) (T' : List Fd), k < n ∧ x = .int .i64 (k : Int) ∧ Hid (T'.Perm T) ∧ T'.length = n ∧ Hid (RF B0 wr (.slice (some ⟨g, 0, none⟩) n c) T') ∧ Hid (Tcs (fun k => k = g) w wr)) (fun x _ => (intOf x).toNat)
  case atStart => exact ⟨j, T, hj, rfl, List.Perm.refl _, hT, HR.out, Tcs.refl _ _⟩
  case round =>
    clear HR
    obtain ⟨k, T', hk, rfl, hp, hl, hr, ht⟩ := hrel
    have hcr := cell_off ht.out hsb HC.out
    by_cases hk0 : k = 0
    · subst hk0
      have hq : ((-1 : Int)).tdiv 2 = 0 := rfl
      go_wp2
      go_end0
      exact ⟨rfl, T', hp.out, hr.out, ht.out⟩
    · have hk1 : 1 ≤ (k : Int) := by omega
      obtain ⟨q, hqe⟩ : ∃ q : Nat, q = (k - 1) / 2 := ⟨_, rfl⟩
      have hqk : q < k := by omega
      have hq : ((k : Int) - 1).tdiv 2 = (q : Int) := by rw [show (k : Int) - 1 = ((k - 1 : Nat) : Int) by omega, hqe]; rfl
      have hqi : ¬ (q : Int) = (k : Int) := by omega
      clear hqe
      have hm := m_less hcr
      go_wp2_with fail
      refine (lessN B0 g c k q n T' hl (by omega) (by omega) wr hr.out).mono ?_
      rintro e w1 ⟨b, rfl, hb1⟩
      have hr1 : Hid (RF B0 w1 (.slice (some ⟨g, 0, none⟩) n c) T') := hr.out.on hb1
      have ht1 : Hid (Tcs (fun k => k = g) w w1) := ht.out.trans (Tcs.of hb1)
      have hc1 := cell_off ht1.out hsb HC.out
      have hm1 := m_swap hc1
      clear hm hr ht hb1 hcr
      cases b
      · go_wp2
        go_end0
        exact ⟨rfl, T', hp.out, hr1.out, ht1.out⟩
      · go_wp2_with fail
        refine (swapN B0 g c q k n T' hl (by omega) (by omega) w1 hr1.out).mono ?_
        rintro e w2 ⟨rfl, hr2, hp2, hl2, ht2⟩
        have HR2 : Hid (RF B0 w2 (.slice (some ⟨g, 0, none⟩) n c) (swapF T' q k)) := hr2
        have HT2 : Hid (Tcs (fun k => k = g) w w2) := ht1.out.trans ht2
        have HP2 : Hid ((swapF T' q k).Perm T) := hp2.trans hp.out
        clear hr2 ht2 hp2 hr1 ht1 hc1 hm1
        go_wp2
        go_roundw
        case rel => exact ⟨q, swapF T' q k, by omega, rfl, HP2.out, hl2, HR2.out, HT2.out⟩
        case measure => simp [intOf]; omega
end Pg
end Go.Proofs.YtinanjjhkddikaaGreat

/- The library's down over the row of finds; Push and Pop. -/
namespace Go.Proofs.YtinanjjhkddikaaGreat
namespace Pg
open Go.ChangeShapes Go.WideShapes Go.ChangeAt Go.RowKit St Wd
set_option maxRecDepth 100000 in
set_option maxHeartbeats 8000000 in
theorem heapDown (B0 sb g c n m : Nat) (T : List Fd) (hT : T.length = n) (hn : n ≤ 1000) (hm : m ≤ n) (hsb : sb ≠ g) (w : World) (hc : w.cell? ⟨sb, 2, none⟩ = some (.slice (some ⟨g, 0, none⟩) n c)) (hr : RF B0 w (.slice (some ⟨g, 0, none⟩) n c) T) :
    Calls Tryz.prog 82 #[.iface 91 (.pointer (some ⟨sb, 2, none⟩)), .int .i64 0, .int .i64 (m : Int)] w fun e w' => ∃ (r : Bool) (T' : List Fd), e = .returned (.bool r) ∧ T'.Perm T ∧ T'.length = n ∧ RF B0 w' (.slice (some ⟨g, 0, none⟩) n c) T' ∧ Tcs (fun k => k = g) w w' := by
  have HR : Hid (RF B0 w (.slice (some ⟨g, 0, none⟩) n c) T) := hr
  have HC : Hid (w.cell? ⟨sb, 2, none⟩ = some (.slice (some ⟨g, 0, none⟩) n c)) := hc
  clear hr hc
  go_enter Tryz.func82, Tryz.ntmps82
  go_wp2
  go_loopw [7] (fun x wr => ∃ (k : Nat) (T' : List Fd), k ≤ m ∧ x = .int .i64 (k : Int) ∧ Hid (T'.Perm T) ∧ T'.length = n ∧ Hid (RF B0 wr (.slice (some ⟨g, 0, none⟩) n c) T') ∧ Hid (Tcs (fun k => k = g) w wr)) (fun x _ => m - (intOf x).toNat)
  case atStart => exact ⟨0, T, Nat.zero_le _, rfl, List.Perm.refl _, hT, HR.out, Tcs.refl _ _⟩
  case round =>
    clear HR
    obtain ⟨k, T', hk, rfl, hp, hl, hr, ht⟩ := hrel
    have hcr := cell_off ht.out hsb HC.out
    by_cases h1 : (m : Int) ≤ 2 * (k : Int) + 1
    · have hge : 2 * (k : Int) + 1 ≥ (m : Int) := h1
      go_wp2
      go_ret
      first | exact ⟨_, T', rfl, hp.out, hl, hr.out, ht.out⟩ | exact ⟨⟨_, rfl⟩, T', hp.out, hl, hr.out, ht.out⟩
    · have hge : ¬ 2 * (k : Int) + 1 ≥ (m : Int) := h1
      by_cases h2 : 2 * (k : Int) + 1 + 1 < (m : Int)
      · have hm0 := m_less hcr
        go_wp2_with fail
        have hL := lessN B0 g c (2 * k + 2) (2 * k + 1) n T' hl (by omega) (by omega) wr hr.out
        rw [show ((2 * k + 2 : Nat) : Int) = 2 * (k : Int) + 1 + 1 by omega, show ((2 * k + 1 : Nat) : Int) = 2 * (k : Int) + 1 by omega] at hL
        refine hL.mono ?_
        rintro e w3 ⟨b, rfl, hb3⟩
        have hr3 : Hid (RF B0 w3 (.slice (some ⟨g, 0, none⟩) n c) T') := hr.out.on hb3
        have ht3 : Hid (Tcs (fun k => k = g) w w3) := ht.out.trans (Tcs.of hb3)
        have hc3 := cell_off ht3.out hsb HC.out
        clear hL hm0 hr ht hb3 hcr
        cases b
        · obtain ⟨J, hJ⟩ : ∃ J : Nat, 2 * (k : Int) + 1 = (J : Int) := ⟨2 * k + 1, by omega⟩
          rw [hJ] at hge h2 ⊢
          have hJm : J < m := by omega
          have hJk : k < J := by omega
          have hm3 := m_less hc3
          go_wp2_with fail
          refine (lessN B0 g c J k n T' hl (by omega) (by omega) w3 hr3.out).mono ?_
          rintro e w5 ⟨b, rfl, hb5⟩
          have hr5 : Hid (RF B0 w5 (.slice (some ⟨g, 0, none⟩) n c) T') := hr3.out.on hb5
          have ht5 : Hid (Tcs (fun k => k = g) w w5) := ht3.out.trans (Tcs.of hb5)
          have hc5 := cell_off ht5.out hsb HC.out
          have hm5 := m_swap hc5
          clear hm3 hr3 ht3 hb5 hc3
          cases b
          · go_wp2
            go_ret
            first | exact ⟨_, T', rfl, hp.out, hl, hr5.out, ht5.out⟩ | exact ⟨⟨_, rfl⟩, T', hp.out, hl, hr5.out, ht5.out⟩
          · go_wp2_with fail
            refine (swapN B0 g c k J n T' hl (by omega) (by omega) w5 hr5.out).mono ?_
            rintro e w6 ⟨rfl, hr6, hp6, hl6, ht6⟩
            have HR6 : Hid (RF B0 w6 (.slice (some ⟨g, 0, none⟩) n c) (swapF T' k J)) := hr6
            have HT6 : Hid (Tcs (fun k => k = g) w w6) := ht5.out.trans ht6
            have HP6 : Hid ((swapF T' k J).Perm T) := hp6.trans hp.out
            clear hr6 ht6 hp6 hr5 ht5 hc5 hm5
            go_wp2
            go_roundw
            case rel => exact ⟨J, swapF T' k J, by omega, rfl, HP6.out, hl6, HR6.out, HT6.out⟩
            case measure => simp [intOf]; omega

        · obtain ⟨J, hJ⟩ : ∃ J : Nat, 2 * (k : Int) + 1 + 1 = (J : Int) := ⟨2 * k + 2, by omega⟩
          have hJm : J < m := by omega
          have hJk : k < J := by omega
          rw [hJ] at h2 ⊢
          have hm3 := m_less hc3
          go_wp2_with fail
          refine (lessN B0 g c J k n T' hl (by omega) (by omega) w3 hr3.out).mono ?_
          rintro e w5 ⟨b, rfl, hb5⟩
          have hr5 : Hid (RF B0 w5 (.slice (some ⟨g, 0, none⟩) n c) T') := hr3.out.on hb5
          have ht5 : Hid (Tcs (fun k => k = g) w w5) := ht3.out.trans (Tcs.of hb5)
          have hc5 := cell_off ht5.out hsb HC.out
          have hm5 := m_swap hc5
          clear hm3 hr3 ht3 hb5 hc3
          cases b
          · go_wp2
            go_ret
            first | exact ⟨_, T', rfl, hp.out, hl, hr5.out, ht5.out⟩ | exact ⟨⟨_, rfl⟩, T', hp.out, hl, hr5.out, ht5.out⟩
          · go_wp2_with fail
            refine (swapN B0 g c k J n T' hl (by omega) (by omega) w5 hr5.out).mono ?_
            rintro e w6 ⟨rfl, hr6, hp6, hl6, ht6⟩
            have HR6 : Hid (RF B0 w6 (.slice (some ⟨g, 0, none⟩) n c) (swapF T' k J)) := hr6
            have HT6 : Hid (Tcs (fun k => k = g) w w6) := ht5.out.trans ht6
            have HP6 : Hid ((swapF T' k J).Perm T) := hp6.trans hp.out
            clear hr6 ht6 hp6 hr5 ht5 hc5 hm5
            go_wp2
            go_roundw
            case rel => exact ⟨J, swapF T' k J, by omega, rfl, HP6.out, hl6, HR6.out, HT6.out⟩
            case measure => simp [intOf]; omega

      · have hm0 := m_less hcr
        obtain ⟨J, hJ⟩ : ∃ J : Nat, 2 * (k : Int) + 1 = (J : Int) := ⟨2 * k + 1, by omega⟩
        have hJm : J < m := by omega
        have hJk : k < J := by omega
        have hmr := hm0
        clear hm0
        go_wp2_with fail
        refine (lessN B0 g c J k n T' hl (by omega) (by omega) wr hr.out).mono ?_
        rintro e w5 ⟨b, rfl, hb5⟩
        have hr5 : Hid (RF B0 w5 (.slice (some ⟨g, 0, none⟩) n c) T') := hr.out.on hb5
        have ht5 : Hid (Tcs (fun k => k = g) w w5) := ht.out.trans (Tcs.of hb5)
        have hc5 := cell_off ht5.out hsb HC.out
        have hm5 := m_swap hc5
        clear hmr hr ht hb5 hcr
        cases b
        · go_wp2
          go_ret
          first | exact ⟨_, T', rfl, hp.out, hl, hr5.out, ht5.out⟩ | exact ⟨⟨_, rfl⟩, T', hp.out, hl, hr5.out, ht5.out⟩
        · go_wp2_with fail
          refine (swapN B0 g c k J n T' hl (by omega) (by omega) w5 hr5.out).mono ?_
          rintro e w6 ⟨rfl, hr6, hp6, hl6, ht6⟩
          have HR6 : Hid (RF B0 w6 (.slice (some ⟨g, 0, none⟩) n c) (swapF T' k J)) := hr6
          have HT6 : Hid (Tcs (fun k => k = g) w w6) := ht5.out.trans ht6
          have HP6 : Hid ((swapF T' k J).Perm T) := hp6.trans hp.out
          clear hr6 ht6 hp6 hr5 ht5 hc5 hm5
          go_wp2
          go_roundw
          case rel => exact ⟨J, swapF T' k J, by omega, rfl, HP6.out, hl6, HR6.out, HT6.out⟩
          case measure => simp [intOf]; omega
end Pg
end Go.Proofs.YtinanjjhkddikaaGreat
