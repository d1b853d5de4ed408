/- The traversal of a row's bits that are 1, and GiveAll of the program's arenas. -/
import Derived.Test.YtjgjomojcocegaaDoorQt
import Derived.Stop.RegionWithIn
namespace Go.Proofs.YtjgjomojcocegaaDoor
open Go.ChangeShapes Go.WideShapes Go.ChangeAt Go.RowKit Go.Deep Go.Shelf
set_option linter.unusedVariables false
attribute [local go_sem] Oper.semAt_some

/-- the first m numbers' bits that are 1, in order -/
def ones (R : Nat → Bool) (m : Nat) : List Nat := (List.range m).filter R
theorem ones_succ (R : Nat → Bool) (m : Nat) : ones R (m + 1) = if R m = true then ones R m ++ [m] else ones R m := by
  unfold ones
  rw [List.range_succ, List.filter_append]
  cases h : R m <;> simp [h]
theorem ones_yes {R : Nat → Bool} {m : Nat} (h : R m = true) : ones R (m + 1) = ones R m ++ [m] := by rw [ones_succ, if_pos h]
theorem ones_len (R : Nat → Bool) (m : Nat) : (ones R m).length ≤ m := by
  unfold ones
  have := List.length_filter_le R (List.range m)
  rw [List.length_range] at this
  exact this
theorem ones_skip {R : Nat → Bool} {m : Nat} : ∀ {d : Nat}, (∀ q, m ≤ q → q < m + d → R q = false) → ones R (m + d) = ones R m
  | 0, _ => rfl
  | d + 1, h => by
    show ones R (m + d + 1) = _
    rw [ones_succ, if_neg (by rw [h (m + d) (by omega) (by omega)]; exact Bool.false_ne_true)]
    exact ones_skip fun q h1 h2 => h q h1 (by omega)
theorem ones_mem {R : Nat → Bool} {m i : Nat} : i ∈ ones R m ↔ i < m ∧ R i = true := by
  unfold ones
  rw [List.mem_filter, List.mem_range]

theorem slotsOf_any (p : Option Addr) (w : World) :
    Calls Tryd.prog 45 #[.pointer p] w fun e w' => e = .returned (.func (.func 68) #[] #[.pointer (some ⟨w.heap.size, 0, none⟩)]) ∧ w' = w.alloc (.cells #[.pointer p] 46) := by
  go_enter Tryd.func45, Tryd.ntmps45
  go_wp2
  go_ret
  exact ⟨rfl, rfl⟩

theorem bel_grown {w w' : World} (h : Bel w w') : w.grownBy w' none := ⟨h.os, h.tape, h.output, h.size, fun k hk _ => h.block k hk⟩

/-- the next bit that is 1, and what has come till then -/
theorem next_one {R : Nat → Bool} {n m : Nat} (hm : m ≤ n) :
    (bt.nxt R n m true = none ∧ ones R n = ones R m) ∨ ∃ a, bt.nxt R n m true = some a ∧ m ≤ a ∧ a < n ∧ R a = true ∧ ones R a = ones R m := by
  unfold bt.nxt
  have no : ∀ i, bt.sel R n true i = false → i < n → R i = false := fun i h hi => by
    unfold bt.sel at h
    rw [decide_eq_true hi, Bool.true_and] at h
    cases c : R i
    · rfl
    · rw [c] at h; simp at h
  rcases bt.first_cases (bt.sel R n true) (n - m) m with ⟨h1, h2⟩ | ⟨a, h1, h2, h3, h4, h5⟩
  · refine Or.inl ⟨h1, ?_⟩
    obtain ⟨d, rfl⟩ : ∃ d, n = m + d := ⟨n - m, by omega⟩
    exact ones_skip fun q q1 q2 => no q (h2 q q1 (by omega)) q2
  · refine Or.inr ⟨a, h1, h2, by omega, ?_, ?_⟩
    · unfold bt.sel at h4
      rw [Bool.and_eq_true] at h4
      simpa using h4.2
    · obtain ⟨d, rfl⟩ : ∃ d, a = m + d := ⟨a - m, by omega⟩
      exact ones_skip fun q q1 q2 => no q (h5 q q1 q2) (by omega)

set_option maxRecDepth 100000 in
set_option maxHeartbeats 4000000 in
theorem slots1_row (d : Nat) (hd : 1 ≤ d) (l B1 b g ca n : Nat) (R : Nat → Bool) (Q : World → Prop) (Kp : World → World → Prop) (J Jx : List Nat → World → Prop) (B : Nat) (hJ : AbidesFrom B J)
    (hQ : ∀ X Y, Q X → Kp X Y → Q Y) (hQb : ∀ X Y, Q X → Bel X Y → Q Y) (hQr : ∀ X, Q X → bt.RowIs X b g ca n R ∧ bt.TabAt X ∧ X.cell? ⟨B1, 0, none⟩ = some (.pointer (some ⟨b, 0, none⟩)))
    (hY : ∀ pre (x : Nat) W, J pre W → pre.length < n → YieldAt Fence.wide (d - 1) Tryd.prog l #[.int .i64 (cl n x : Nat)] W fun e W' =>
      (e = .returned (.bool true) ∧ J (pre ++ [x]) W' ∧ Kp W W') ∨ (e = .returned (.bool false) ∧ Jx (pre ++ [x]) W'))
    (W : World) (hW : Q W) (h0 : J [] W) :
    CallsIn Fence.wide d Tryd.prog 68 #[.func (.yield l) #[] #[], .pointer (some ⟨B1, 0, none⟩)] W fun e W' => (∃ v, e = .returned v) ∧
      ((∃ ys, ys = ones R n ∧ J ys W') ∨ (∃ pre, (∃ a, a < n ∧ R a = true ∧ pre = ones R (a + 1)) ∧ Jx pre W')) := by
  have hn := (hQr W hW).1.1
  have nx := fun (X : World) (q : Q X) (m : Nat) (hm : m ≤ 65536) => bt.next_row (m : Int) true X (hQr X q).1 (hQr X q).2.1 (by omega)
  have cB := fun (X : World) (q : Q X) => (hQr X q).2.2
  have c1 := cB W hW
  have st : ∀ m : Nat, bt.start (m : Int) = m := fun m => by unfold bt.start; omega
  have jb := fun (pre : List Nat) (X Y : World) (j : J pre X) (k : Bel X Y) => hJ pre X Y none j (bel_grown k) (fun r e => by cases e)
  have n0 := nx W hW 0 (by omega)
  rw [st] at n0
  refine callsIn_of_wp Tryd.func68 rfl trivial ?_ rfl
  simp only [Tryd.ntmps68, List.size_toArray, List.length_cons, List.length_nil, Nat.reduceAdd, Nat.reduceSub, Array.replicate_succ, Array.replicate_zero, List.push_toArray, List.append_toArray, List.nil_append, List.cons_append]
  gi_wp2_with (refine ⟨trivial, ?_⟩; gi_at_call 40; refine (callsIn_wide.2 n0).mono ?_; rintro e w1 ⟨rfl, g1⟩)
  gi_loopw [3, 4] (fun i s wr => ∃ m : Nat, m ≤ n ∧ i = .int .i64 (bt.nxA (bt.nxt R n m true)) ∧ s = .bool (bt.nxt R n m true).isSome ∧ J (ones R m) wr ∧ Q wr)
    (fun i s _ => match s with | .bool true => n - (intOf i).toNat | _ => 0)
  case atStart => exact ⟨0, Nat.zero_le _, rfl, rfl, jb _ _ _ h0 g1, hQb _ _ hW g1⟩
  case round =>
    obtain ⟨m, hm, rfl, rfl, hJs, hq⟩ := hrel
    rcases next_one (R := R) hm with ⟨e1, e2⟩ | ⟨a, e1, e2, e3, e4, e5⟩
    · have q1 : bt.nxA (bt.nxt R n m true) = 0 := by rw [e1]; rfl
      have q2 : (bt.nxt R n m true).isSome = false := by rw [e1]; rfl
      rw [q1, q2]
      have hfin := Lib.hid hJs
      rw [← e2] at hfin
      clear hJs hY nx hq
      gi_wp2
      refine ⟨fun f e => (by cases e), ?_⟩
      gi_wp2
      go_end0
      exact ⟨⟨_, rfl⟩, .inl ⟨_, rfl, hfin.out⟩⟩
    · rw [← e5] at hJs
      obtain ⟨fn, tmps, assign, body, hy, hRR⟩ := hY _ a _ hJs (by have := ones_len R a; omega)
      rw [cl_eq e3] at hy
      have q1 : bt.nxA (bt.nxt R n m true) = (a : Nat) := by rw [e1]; rfl
      have q2 : (bt.nxt R n m true).isSome = true := by rw [e1]; rfl
      rw [q1, q2]
      have nx2 := fun X q => nx X q (a + 1) (by omega)
      have hcq := cB _ hq
      have hR1 := ones_yes e4
      have ha := Lib.hid (And.intro e3 (And.intro e4 hR1))
      have hQs := Lib.hid (And.intro hQ hQb)
      have hqs := Lib.hid hq
      have jb := Lib.hid jb
      have hcB := Lib.hid cB
      have nx := Lib.hid nx2
      have a1 : (a : Int) + 1 = ((a + 1 : Nat) : Int) := by omega
      have a2 : a + 1 ≤ 65536 := by omega
      clear hY hJs hq nx2 cB hQ hQb hQr hJ e1 e2 e3 e4 e5 hR1 n0 hW h0 c1 g1 q1 q2
      generalize hA1 : a + 1 = A1 at *
      gi_wp2
      refine hRR.mono ?_
      rintro e W3 (⟨rfl, hJ3, hk3⟩ | ⟨rfl, hJx3⟩)
      · have hq3 := hQs.out.1 _ _ hqs.out hk3
        have n3 := nx.out _ hq3
        have c3 := hcB.out _ hq3
        rw [st] at n3
        have hq3 := Lib.hid hq3
        have hJ3 := Lib.hid hJ3
        gi_wp2_with (refine ⟨trivial, ?_⟩; gi_at_call 40; refine (callsIn_wide.2 n3).mono ?_; rintro e w4 ⟨rfl, g4⟩)
        go_roundw
        case rel => exact ⟨A1, by have := ha.out.1; omega, rfl, rfl, by rw [ha.out.2.2]; exact jb.out _ _ _ hJ3.out g4, hQs.out.2 _ _ hq3.out g4⟩
        case measure =>
          have e3 := ha.out.1
          rcases next_one (R := R) (show A1 ≤ n by omega) with ⟨f1, _⟩ | ⟨a', f1, f2, f3, _⟩
          · rw [f1]
            simp only [intOf, Option.isSome]
            omega
          · rw [f1]
            simp only [intOf, Option.isSome, bt.nxA]
            omega
      · gi_wp2
        go_end0
        exact ⟨⟨_, rfl⟩, .inr ⟨_, ⟨a, ha.out.1, ha.out.2.1, rfl⟩, by rw [hA1, ha.out.2.2]; exact hJx3⟩⟩

/-- all that lies ahead of a block lies as it lay, but for some blocks -/
def KpX (X : Nat → Prop) (n₀ : Nat) (A C : World) : Prop := Exc (fun k => X k ∨ n₀ ≤ k) A C
theorem kpX_t {X : Nat → Prop} {n₀ : Nat} {A B C : World} (h : KpX X n₀ A B) (k : KpX X n₀ B C) : KpX X n₀ A C := Exc.trans h k
theorem kpX_below {X : Nat → Prop} {n₀ : Nat} {A C : World} (h : Below n₀ A C) : KpX X n₀ A C := ⟨h.os, h.tape, h.output, h.size, fun k hk hx => h.block k (Nat.lt_of_not_le fun y => hx (Or.inr y))⟩
theorem kpX_b {X : Nat → Prop} {n₀ : Nat} {w : World} (hn : n₀ ≤ w.heap.size) (W : World) (l : Nat) (o o' : Obj) (hl : w.heap.size ≤ l) (h : W.heap[l]? = some o) (hc : o.isCells = false) (hw : o.isWalk = false) : KpX X n₀ W (W.putObj l o') :=
  kpX_below (belowK_b hn W l o o' hl h hc hw)
theorem IsA.grown {w w' : World} {v : Value} {pl lo hi : Nat} {P : Pl} {T : Nat → Bool} {row : Option Nat} (h : IsA w v pl lo hi P T) (g : w.grownBy w' row) (hr : ∀ r, row = some r → hi ≤ r ∧ pl ≤ r) : IsA w' v pl lo hi P T :=
  h.keep (fun x hk hs => g.block x hs fun e => by
    have := hr x e.symm
    rcases hk with hk | hk
    · omega
    · have := hk.2; omega) g.size
theorem exc_grown {X : Nat → Prop} {n₀ : Nat} {w w1 w' : World} {row : Option Nat} (h : Exc (fun k => X k ∨ n₀ ≤ k) w w1) (g : w1.grownBy w' row) (hr : ∀ r, row = some r → n₀ ≤ r) : Exc (fun k => X k ∨ n₀ ≤ k) w w' :=
  h.trans ⟨g.os, g.tape, g.output, g.size, fun k hk hx => g.block k hk fun e => hx (Or.inr (hr k e.symm))⟩
/-- what is taken when some are given, and what is used -/
def less (T R : Nat → Bool) (m : Nat) : Nat → Bool := fun i => T i && !(decide (i < m) && R i)
theorem less_zero (T R : Nat → Bool) : less T R 0 = T := by funext i; simp [less]
theorem less_no {T R : Nat → Bool} {m : Nat} (h : R m = false) : less T R (m + 1) = less T R m := by
  funext i
  unfold less
  by_cases e : i = m
  · subst e; simp [h]
  · rw [show decide (i < m + 1) = decide (i < m) from decide_eq_decide.2 (by omega)]
theorem less_yes {T R : Nat → Bool} {m : Nat} (h : R m = true) : less T R (m + 1) = upd (less T R m) m false := by
  funext i
  by_cases e : i = m
  · subst e; rw [upd_at]; simp [less, h]
  · rw [upd_ne _ _ e]
    unfold less
    rw [show decide (i < m + 1) = decide (i < m) from decide_eq_decide.2 (by omega)]
theorem less_at {T R : Nat → Bool} {m : Nat} : less T R m m = T m := by simp [less]
def dropL (N : Nat) (T : Nat → Bool) (pre : List Nat) : Nat → Bool := pre.foldl (fun f z => upd f (cl N z) false) T
def subL (P : Pl) (u : Int) (pre : List Nat) : Int := pre.foldl (fun x z => x - (P.sz (cl P.S z) : Nat)) u
theorem dropL_snoc (N : Nat) (T : Nat → Bool) (pre : List Nat) (x : Nat) : dropL N T (pre ++ [x]) = upd (dropL N T pre) (cl N x) false := by unfold dropL; rw [List.foldl_append]; rfl
theorem subL_snoc (P : Pl) (u : Int) (pre : List Nat) (x : Nat) : subL P u (pre ++ [x]) = subL P u pre - (P.sz (cl P.S x) : Nat) := by unfold subL; rw [List.foldl_append]; rfl
theorem subL_bound {P : Pl} (ok : PlOk P) (h1 : 1 ≤ P.S) : ∀ (pre : List Nat) (u : Int), u - pre.length * 64 ≤ subL P u pre ∧ subL P u pre ≤ u
  | [], u => ⟨by simp [subL], Int.le_refl _⟩
  | x :: pre, u => by
    have a := subL_bound ok h1 pre (u - (P.sz (cl P.S x) : Nat))
    have b := sz_le ok (show cl P.S x < P.S by unfold cl; omega)
    have e : subL P u (x :: pre) = subL P (u - (P.sz (cl P.S x) : Nat)) pre := rfl
    rw [e, List.length_cons]
    omega
theorem drop_ones {P : Pl} {T R : Nat → Bool} (h : ∀ i, i < P.S → R i = true → T i = true) : ∀ m, m ≤ P.S → dropL P.S T (ones R m) = less T R m ∧ subL P (P.used T P.S : Nat) (ones R m) = (P.used (less T R m) P.S : Nat)
  | 0, _ => ⟨(less_zero T R).symm, by rw [less_zero]; rfl⟩
  | m + 1, hm => by
    obtain ⟨a, b⟩ := drop_ones h m (by omega)
    cases hR : R m
    · rw [ones_succ, if_neg (by rw [hR]; exact Bool.false_ne_true), less_no hR]
      exact ⟨a, b⟩
    · rw [ones_yes hR, less_yes hR, dropL_snoc, subL_snoc, a, b, cl_eq (by omega)]
      refine ⟨rfl, ?_⟩
      have := Pl.used_give (P := P) (T := less T R m) (i := m) (n := P.S) (by rw [less_at]; exact h m (by omega) hR) (by omega)
      omega
theorem less_all {n : Nat} {T R : Nat → Bool} (hT : ∀ i, n ≤ i → T i = false) : less T R n = fun i => T i && !R i := by
  funext i
  unfold less
  by_cases c : i < n
  · simp [c]
  · rw [hT i (by omega)]; simp

/-- an arena of the program, but for what is used -/
def IsAi (w : World) (v : Value) (pl lo hi : Nat) (P : Pl) (T : Nat → Bool) (u : Int) : Prop := ∃ b rb g ca pb pg off cap, v = .pointer (some ⟨b, 0, none⟩) ∧ Own lo hi b ∧ Own lo hi rb ∧ Own lo hi g ∧ 0 < pl ∧ pl ≤ lo ∧ pb < pl ∧ pg < pl ∧
  w.heap[b]? = some (.cells #[.pointer (some ⟨pb, 0, none⟩), .pointer (some ⟨rb, 0, none⟩), .int .i64 u] 60 (0, 0)) ∧ PlanAt w pb pg off cap P ∧ bt.RowIs w rb g ca P.S T ∧ PlOk P
theorem IsA.i {w : World} {v : Value} {pl lo hi : Nat} {P : Pl} {T : Nat → Bool} (h : IsA w v pl lo hi P T) : IsAi w v pl lo hi P T (P.used T P.S : Nat) := h
theorem IsAi.keep {w w' : World} {v : Value} {pl lo hi : Nat} {P : Pl} {T : Nat → Bool} {u : Int} (h : IsAi w v pl lo hi P T u) (k : ∀ x, (x < pl ∨ Own lo hi x) → x < w.heap.size → w'.heap[x]? = w.heap[x]?) (s : w.heap.size ≤ w'.heap.size) : IsAi w' v pl lo hi P T u := by
  obtain ⟨b, rb, g, ca, pb, pg, off, cap, rfl, h1, h2, h3, h0, h4, h5, h6, h7, h8, h9, h10⟩ := h
  have e1 := (heap_lt h7)
  obtain ⟨p1, p2, p3, p4, p5, p6, p7⟩ := h8
  have cb : ∀ j, w'.cell? ⟨pb, j, none⟩ = w.cell? ⟨pb, j, none⟩ := fun j => World.cell?_of_block (k pb (Or.inl h5) p1)
  have cg : ∀ j, w'.cell? ⟨pg, j, none⟩ = w.cell? ⟨pg, j, none⟩ := fun j => World.cell?_of_block (k pg (Or.inl h6) p2)
  obtain ⟨r1, r2, r3, r4, cs, r5, r6⟩ := h9
  refine ⟨b, rb, g, ca, pb, pg, off, cap, rfl, h1, h2, h3, h0, h4, h5, h6, (k b (Or.inr h1) e1).trans h7, ⟨by omega, by omega, (cb 0).trans p3, (cb 1).trans p4, p5, p6, fun j hj => ?_⟩, ⟨r1, r2, r3, (k rb (Or.inr h2) (heap_lt r4)).trans r4, cs, (k g (Or.inr h3) (heap_lt r5)).trans r5, r6⟩, h10⟩
  obtain ⟨q0, q1, q2, q3, q4, q5, q6⟩ := p7 j hj
  exact ⟨(cg _).trans q0, (cg _).trans q1, (cg _).trans q2, (cg _).trans q3, (cg _).trans q4, (cg _).trans q5, (cg _).trans q6⟩
theorem IsAi.grown {w w' : World} {v : Value} {pl lo hi : Nat} {P : Pl} {T : Nat → Bool} {u : Int} {row : Option Nat} (h : IsAi w v pl lo hi P T u) (g : w.grownBy w' row) (hr : ∀ r, row = some r → hi ≤ r ∧ pl ≤ r) : IsAi w' v pl lo hi P T u :=
  h.keep (fun x hk hs => g.block x hs fun e => by
    have := hr x e.symm
    rcases hk with hk | hk
    · omega
    · have := hk.2; omega) g.size
theorem IsAi.bel {w w' : World} {v : Value} {pl lo hi : Nat} {P : Pl} {T : Nat → Bool} {u : Int} (h : IsAi w v pl lo hi P T u) (g : Bel w w') : IsAi w' v pl lo hi P T u := h.keep (fun x _ hx => g.block x hx) g.size
theorem turn_i {w w1 w2 : World} {b rb g ca pb pg off cap pl lo hi : Nat} {U U' : Int} {P : Pl} {T T' : Nat → Bool} (hb : Own lo hi b) (hrb : Own lo hi rb) (hg : Own lo hi g) (hp0 : 0 < pl) (hpl : pl ≤ lo) (hpb : pb < pl) (hpg : pg < pl)
    (h7 : w.heap[b]? = some (.cells #[.pointer (some ⟨pb, 0, none⟩), .pointer (some ⟨rb, 0, none⟩), .int .i64 U] 60 (0, 0))) (h8 : PlanAt w pb pg off cap P) (h10 : PlOk P) (nb : b ≠ g)
    (k : Bel w w1) (r : bt.RowIs w2 rb g ca P.S T') (kk : bt.But g w1 w2) :
    IsAi (w2.setCell ⟨b, 2, none⟩ (.int .i64 U')) (.pointer (some ⟨b, 0, none⟩)) pl lo hi P T' U' ∧ Exc (Own lo hi) w (w2.setCell ⟨b, 2, none⟩ (.int .i64 U')) := by
  have h7' : w2.heap[b]? = _ := (kk.2.2.2.2 b (Nat.lt_of_lt_of_le (heap_lt h7) k.size) nb).trans (heap_bel k h7)
  have nr : rb ≠ b := by
    rintro rfl
    have := r.2.2.2.1
    rw [h7'] at this
    cases this
  have ex : Exc (Own lo hi) w (w2.setCell ⟨b, 2, none⟩ (.int .i64 U')) := by
    have e1 : Exc (Own lo hi) w1 w2 := ⟨kk.1, kk.2.1, kk.2.2.1, kk.2.2.2.1, fun j hj hx => kk.2.2.2.2 j hj fun e => hx (e ▸ hg)⟩
    have e2 := (Below.refl 0 w2).setCell (p := ⟨b, 2, none⟩) (Nat.zero_le _) (.int .i64 U')
    have e3 : Exc (Own lo hi) w2 (w2.setCell ⟨b, 2, none⟩ (.int .i64 U')) := ⟨e2.os, e2.tape, e2.output, e2.size, fun j hj hx => heap_setCell_other w2 ⟨b, 2, none⟩ j _ fun e => hx (e ▸ hb)⟩
    exact (k.exc.trans e1).trans e3
  have hlt := heap_lt h7
  have pB := h8.below (ex.below (B := pl) (fun j hj => Nat.le_trans hpl hj.1) (by have := hb.1; omega)) hpb hpg
  have h7n : (w2.setCell ⟨b, 2, none⟩ (.int .i64 U')).heap[b]? = some (.cells #[.pointer (some ⟨pb, 0, none⟩), .pointer (some ⟨rb, 0, none⟩), .int .i64 U'] 60 (0, 0)) := heap_setCell_same w2 b 2 _ 60 (.int .i64 U') h7'
  obtain ⟨r1, r2, r3, r4, cs, r5, r6⟩ := r
  exact ⟨⟨b, rb, g, ca, pb, pg, off, cap, rfl, hb, hrb, hg, hp0, hpl, hpb, hpg, h7n, pB, ⟨r1, r2, r3, heap_set_other _ nr r4, cs, heap_set_other _ (fun e => nb e.symm) r5, r6⟩, h10⟩, ex⟩
theorem free1_i (w : World) (b B s : Nat) (u t : Int) (x y : Value) (hB : w.cell? ⟨B, 0, none⟩ = some (.pointer (some ⟨b, 0, none⟩))) (hb : w.heap[b]? = some (.cells #[x, y, .int .i64 u] 60 (0, 0))) (e1 : u - (s : Int) = t) (l1 : -9223372036854775808 ≤ t) (l2 : t ≤ 9223372036854775807) :
    Calls Tryd.prog 69 #[.int .i64 (s : Nat), .pointer (some ⟨B, 0, none⟩)] w fun e w' => e = .returned (.tuple #[]) ∧ w' = w.setCell ⟨b, 2, none⟩ (.int .i64 t) := by
  have c2 := blk_cell hb 2
  have f2 := frozen_of_row w b 2 _ _ hb
  clear hb
  go_enter Tryd.func69, Tryd.ntmps69
  go_wp2
  go_end0
  exact ⟨rfl, rfl⟩

set_option maxHeartbeats 2000000 in
theorem set_i (w : World) (v : Value) (pl lo hi B i : Nat) (P : Pl) (T : Nat → Bool) (u t : Int) (h : IsAi w v pl lo hi P T u) (hh : hi ≤ w.heap.size) (hB : w.cell? ⟨B, 0, none⟩ = some v) (hBo : hi ≤ B) (his : i < P.S) (e1 : u - (P.sz i : Nat) = t) (l1 : -9223372036854775808 ≤ t) (l2 : t ≤ 9223372036854775807) :
    Calls Tryd.prog 41 #[v, .int .i64 (i : Nat), .bool false, .func (.func 69) #[] #[.pointer (some ⟨B, 0, none⟩)]] w fun e w' => e = .returned (.tuple #[]) ∧ IsAi w' v pl lo hi P (upd T i false) t ∧ Exc (Own lo hi) w w' := by
  obtain ⟨b, rb, g, ca, pb, pg, off, cap, rfl, hb, hrb, hg, hp0, hpl, hpb, hpg, h7, h8, h9, h10⟩ := h
  have c0 := blk_cell h7 0
  have c1 := blk_cell h7 1
  have sz := psize_at w h8 h10 (i : Int)
  rw [Pl.slR_ok his] at sz
  have hsz := sz_le h10 his
  have hS := h10.2.1
  have nb : b ≠ g := by
    rintro rfl
    obtain ⟨cs, q, _⟩ := h9.2.2.2.2
    rw [h7] at q
    cases q
  have k1 : ∀ W, Bel w W → W.cell? ⟨b, 1, none⟩ = some (.pointer (some ⟨rb, 0, none⟩)) := fun W k => cell_bel k c1
  have st : ∀ W, Bel w W → Calls Tryd.prog 49 #[.pointer (some ⟨rb, 0, none⟩), .int .i64 (i : Nat), .bool false] W fun e w' => (∃ z : Int, e = .returned (.int .i64 z)) ∧ (bt.RowIs w' rb g ca P.S (upd T i false) ∧ bt.But g W w') ∧ w'.heap[b]? = some (.cells #[.pointer (some ⟨pb, 0, none⟩), .pointer (some ⟨rb, 0, none⟩), .int .i64 u] 60 (0, 0)) ∧ w'.cell? ⟨B, 0, none⟩ = some (.pointer (some ⟨b, 0, none⟩)) := fun W k =>
    (bt.set_any (i : Int) false W (h9.bel k)).mono fun e w' ⟨e1, r, kk⟩ => ⟨⟨_, e1⟩, ⟨by rw [set_same his] at r; exact r, kk⟩, (kk.2.2.2.2 b (Nat.lt_of_lt_of_le (heap_lt h7) k.size) nb).trans (heap_bel k h7), bt.cell_but kk (cell_bel k hB) (by show B ≠ g; have := hg.2; omega)⟩
  have fin := fun (W w2 : World) (k : Bel w W) (r : bt.RowIs w2 rb g ca P.S (upd T i false)) (kk : bt.But g W w2) => turn_i (T := T) (U' := t) hb hrb hg hp0 hpl hpb hpg h7 h8 h10 nb k r kk
  have st := Lib.hid st
  have fin := Lib.hid fin
  have he1 := Lib.hid e1
  clear h7 h8 h9 h10 hB e1
  generalize P.sz i = Z at *
  go_enter Tryd.func41, Tryd.ntmps41
  go_wp2_with (first
    | (go_at_call 67; (with_reducible refine sz.mono ?_); rintro e w1 ⟨rfl, g1⟩; have m1 := k1 _ g1)
    | (go_at_call 49; (with_reducible refine (st.out _ (by assumption)).mono ?_); rintro e w2 ⟨⟨z, rfl⟩, r2, hb2, hB2⟩)
    | (go_at_call 69; (with_reducible refine (free1_i _ _ _ _ _ _ _ _ hB2 hb2 he1.out l1 l2).mono ?_); rintro e w3 ⟨rfl, hw3⟩; rw [hw3]; clear hw3))
  go_end0
  exact ⟨rfl, fin.out _ _ (by assumption) r2.1 r2.2⟩
theorem free_i (w : World) (v : Value) (pl lo hi i : Nat) (P : Pl) (T : Nat → Bool) (u t : Int) (h : IsAi w v pl lo hi P T u) (hh : hi ≤ w.heap.size) (his : i < P.S) (e1 : u - (P.sz i : Nat) = t) (l1 : -9223372036854775808 ≤ t) (l2 : t ≤ 9223372036854775807) :
    Calls Tryd.prog 46 #[v, .int .i64 (i : Nat)] w fun e w' => e = .returned (.tuple #[]) ∧ IsAi w' v pl lo hi P (upd T i false) t ∧ Exc (Own lo hi) w w' := by
  obtain ⟨p, rfl⟩ : ∃ p, v = .pointer (some p) := ⟨_, h.choose_spec.choose_spec.choose_spec.choose_spec.choose_spec.choose_spec.choose_spec.choose_spec.1⟩
  have ka := (Bel.refl w).alloc (.cells #[.pointer (some p)] 27)
  have sz := size_al w (.cells #[.pointer (some p)] 27)
  have cB : (w.alloc (.cells #[.pointer (some p)] 27)).cell? ⟨w.heap.size, 0, none⟩ = some (.pointer (some p)) := blk_cell (World.alloc_heap_new w (.cells #[.pointer (some p)] 27)) 0
  have st := set_i (w.alloc (.cells #[.pointer (some p)] 27)) (.pointer (some p)) pl lo hi w.heap.size i P T u t (h.bel ka) (by omega) cB hh his e1 l1 l2
  have fin : ∀ w', Exc (Own lo hi) (w.alloc (.cells #[.pointer (some p)] 27)) w' → Exc (Own lo hi) w w' := fun w' k => ka.exc.trans k
  clear h ka cB sz his hh e1 l1 l2
  have fin := Lib.hid fin
  go_enter Tryd.func46, Tryd.ntmps46
  go_wp2_with (go_at_call 41; (with_reducible refine st.mono ?_); rintro e w3 ⟨rfl, a3, x3⟩)
  go_end0
  exact ⟨rfl, a3, fin.out _ x3⟩


end Go.Proofs.YtjgjomojcocegaaDoor
