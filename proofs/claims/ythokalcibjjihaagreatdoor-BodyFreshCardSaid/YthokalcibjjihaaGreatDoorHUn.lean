/- Unpack of the program: its closure, its traversal, itself. -/
import Derived.Test.YthokalcibjjihaaGreatDoorHEa
import Derived.Deep.RegionLaw
import Derived.Deep.AppendLies
namespace Go.Proofs.YthokalcibjjihaaGreatDoor.hd
set_option maxRecDepth 100000
open Go.ChangeShapes Go.WideShapes Go.ChangeAt Go.RowKit

theorem info22 : (Tryz.prog.info? 42).map (fun i => (i.zero, i.size, i.bytes)) = some (some (.int .u64 0), 1, 8) := by kernel_rfl

/-- the values of the first fields -/
def valsTo (F : Nat → Int) (w : Nat) (k : Nat) : List Value := (List.range k).map fun i => Value.int .u64 ((getV w (start F i) (F i).toNat : Nat) : Int)

theorem valsTo_succ (F : Nat → Int) (w k : Nat) : valsTo F w (k + 1) = valsTo F w k ++ [Value.int .u64 ((getV w (start F k) (F k).toNat : Nat) : Int)] := by
  unfold valsTo; rw [List.range_succ, List.map_append]; rfl

theorem un_facts {w w1 : World} {B bw bv k u C : Nat} {v : Value} {xs : List Value} {o : Obj} (hV : w.heap[bv]? = some (.cells #[v] 49 (0, 0))) (hw : w.heap[bw]? = some (.cells #[.int .u64 (u : Nat)] 42 (0, 0))) (hown : w.ownsRow B 42 1 v k xs)
    (h3 : bw ≠ bv) (h4 : bw < B) (h5 : bv < B) (h6 : B ≤ w.heap.size) (h7 : C ≤ bv) (h8 : C ≤ bw) (hg : (w.alloc o).drew.grownBy w1 v.ownBlock) :
    w1.cell? ⟨bv, 0, none⟩ = some v ∧ w1.frozen? ⟨bv, 0, none⟩ = false ∧ ∀ v' : Value, (w1.setCell ⟨bv, 0, none⟩ v').heap[bv]? = some (.cells #[v'] 49 (0, 0)) ∧
      (w1.setCell ⟨bv, 0, none⟩ v').heap[bw]? = some (.cells #[.int .u64 (u : Nat)] 42 (0, 0)) ∧ Below C w (w1.setCell ⟨bv, 0, none⟩ v') := by
  have lt := hown.lt
  have hb : ∀ b, b < B → w1.heap[b]? = w.heap[b]? := fun b hb => by
    rw [hg.block b (by show b < (w.heap.push o).size; simp; omega) (fun e => by have := lt b e.symm; omega)]
    exact Below.heap_alloc w o b (by omega)
  have kV := (hb bv h5).trans hV
  have kw := (hb bw h4).trans hw
  refine ⟨cell_of_one kV, free_of_one kV, fun v' => ⟨one_setCell kV, one_other kw h3 _, ?_⟩⟩
  have g1 : Below C w (w.alloc o).drew := ((Below.refl _ _).alloc (by omega) o).drew
  exact (g1.grown hg (by show C ≤ (w.heap.push o).size; simp; omega) (fun x hx => by have := lt x hx; omega)).setCell h7 v'

theorem unpack1 (i s m u k bw bv B : Nat) (v : Value) (xs : List Value) (w : World) (hk : k ≤ 100) (h1m : 1 ≤ m) (hs : s + m ≤ 64) (hu : u < 18446744073709551616)
    (hV : w.heap[bv]? = some (.cells #[v] 49 (0, 0))) (hw0 : w.heap[bw]? = some (.cells #[.int .u64 (u : Nat)] 42 (0, 0))) (hown : w.ownsRow B 42 1 v k xs)
    (h3 : bw ≠ bv) (h4 : bw < B) (h5 : bv < B) (h6 : B ≤ w.heap.size) (C : Nat) (h7 : C ≤ bv) (h8 : C ≤ bw) :
    Calls Tryz.prog 139 #[.int .i64 (i : Nat), .int .i64 (s : Nat), .int .i64 (m : Nat), .pointer (some ⟨bv, 0, none⟩), .pointer (some ⟨bw, 0, none⟩)] w fun e w' => e = .returned (.tuple #[]) ∧
      ∃ v', w'.heap[bv]? = some (.cells #[v'] 49 (0, 0)) ∧ w'.heap[bw]? = some (.cells #[.int .u64 (u : Nat)] 42 (0, 0)) ∧
        w'.ownsRow B 42 1 v' (k + 1) (xs ++ [.int .u64 ((getV u s m : Nat) : Int)]) ∧ Below C w w' := by
  obtain ⟨i0, hi, hz0, hz1, hz2⟩ := info_parts info22
  have o := fun w => ones_any m w h1m (by omega)
  have cV := cell_of_one hV
  have fV := free_of_one hV
  have cw := cell_of_one hw0
  have e1 : (u : Int) / 2 ^ s = ((u / 2 ^ s : Nat) : Int) := by simp
  have e2 : bits .and .u64 ((u / 2 ^ s : Nat) : Int) ((2 ^ m - 1 : Nat) : Int) = (getV u s m : Nat) :=
    u64_and_nat _ _ (Nat.lt_of_le_of_lt (Nat.div_le_self _ _) hu) (by have := pow_le64 (show m ≤ 64 by omega); have := Nat.two_pow_pos m; omega)
  have m1 : k + 1 ≤ maxLen := by unfold maxLen; omega
  have m2 : (k + 1) * 8 ≤ 140737488355328 := by omega
  generalize getV u s m = R at *
  generalize 2 ^ m - 1 = O at *
  generalize u / 2 ^ s = S at *
  have cVa : (w.alloc (.cells #[.int .u64 (R : Nat)] 42)).cell? ⟨bv, 0, none⟩ = some v := by rw [World.cell?_alloc_past _ _ _ (by show bv < _; omega)]; exact cV
  go_enter Tryz.func139, Tryz.ntmps139
  go_region_law (first
    | (refine step_append_lies _ (by rfl) (.tmp 8) (.tmp 15) 49 (by rfl) B 42 i0 (.int .u64 0) 1 8 Tryz.underlying49 hi hz0 hz1 hz2 rfl (by decide) v k xs (by rfl) ((hown.alloc _).drew) ⟨w.heap.size, 0, none⟩ 1 1 [.int .u64 (R : Nat)] (by rfl) (by rfl) (World.news_of_block (cs := #[.int .u64 (R : Nat)]) (t := 42) (fr := (0, 0)) (heap_alloc_new w _)) (by simp [Value.oneCell']) (by omega) m1 m2 (by simp; omega) (w.heap.size + 1) (by simp) ?_
       intro gg cap w1 hown1 hgrow hat hlt
       obtain ⟨cV1, fV1, rest1⟩ := un_facts hV hw0 hown h3 h4 h5 h6 h7 h8 hgrow)
    | (go_simp; go_at_call 140; refine (o _).mono ?_; rintro e w' ⟨rfl, hw⟩; rw [hw]))
  all_goals go_wp2
  all_goals go_end0
  all_goals exact ⟨rfl, _, (rest1 _).1, (rest1 _).2.1, ownsRow_setCell_below hown1 h5 _, (rest1 _).2.2⟩

/-- what holds at each round's head -/
def UnR (F : Nat → Int) (u n : Nat) (w0 : World) (bw bv B : Nat) (a i : Value) (wr : World) : Prop :=
  ∃ k : Nat, k ≤ n ∧ a = .int .i64 (start F k : Nat) ∧ i = .int .i64 (k : Nat) ∧ okTo F k ∧ ∃ v : Value,
    wr.heap[bv]? = some (.cells #[v] 49 (0, 0)) ∧ wr.heap[bw]? = some (.cells #[.int .u64 (u : Nat)] 42 (0, 0)) ∧ wr.ownsRow B 42 1 v k (valsTo F u k) ∧ Bel w0 wr ∧ B ≤ wr.heap.size

set_option maxHeartbeats 2000000 in
theorem each_unpack (b1 off1 cap1 n bw bv B u : Nat) (F : Nat → Int) (w0 w : World) (hn : 1 ≤ n) (hc1 : n ≤ cap1) (hbig : cap1 ≤ 9223372036854775807)
    (hF : ∀ j, j < n → w0.cell? ⟨b1, off1 + j, none⟩ = some (.int .i64 (F j))) (hFb : ∀ j, -9223372036854775808 ≤ F j ∧ F j ≤ 9223372036854775807) (hu : u < 18446744073709551616)
    (h3 : bw ≠ bv) (h4 : bw < B) (h5 : bv < B) (h6 : B ≤ w.heap.size) (h7 : w0.heap.size ≤ bv) (h8 : w0.heap.size ≤ bw)
    (kv : w.heap[bv]? = some (.cells #[.slice none 0 0] 49 (0, 0))) (kw : w.heap[bw]? = some (.cells #[.int .u64 (u : Nat)] 42 (0, 0))) (hb : Bel w0 w) :
    Calls Tryz.prog 136 #[.slice (some ⟨b1, off1, none⟩) n cap1, .func (.func 139) #[] #[.pointer (some ⟨bv, 0, none⟩), .pointer (some ⟨bw, 0, none⟩)]] w fun e w' =>
      ((okTo F n ∧ e = .returned (.tuple #[.int .i64 (start F n : Nat), .bool true]) ∧ ∃ v : Value, w'.heap[bv]? = some (.cells #[v] 49 (0, 0)) ∧ w'.heap[bw]? = some (.cells #[.int .u64 (u : Nat)] 42 (0, 0)) ∧ w'.ownsRow B 42 1 v n (valsTo F u n)) ∨
       (¬ okTo F n ∧ e = .returned (.tuple #[.int .i64 0, .bool false]))) ∧ Bel w0 w' := by
  go_enter Tryz.func136, Tryz.ntmps136
  go_wp2
  go_loopw [4, 10] (fun a i wr => UnR F u n w0 bw bv B a i wr) (fun _ i _ => n - (intOf i).toNat)
  case atStart => exact ⟨0, Nat.zero_le _, rfl, rfl, fun i hi => by omega, _, kv, kw, World.ownsRow_nil _ _ _ _, hb, h6⟩
  case round =>
    obtain ⟨k, hk, rfl, rfl, hok, v, rv, rw', hown, hbr, hBr⟩ := hrel
    have s64 := start_le hok
    have sge := start_ge hok
    by_cases ck : k < n
    · have cF : wr.cell? ⟨b1, off1 + k, none⟩ = some (.int .i64 (F k)) := cell_bel hbr (hF k ck)
      have va := fun w => valid_any (start F k) (F k) w (by omega) (by omega) (hFb k).1 (hFb k).2
      cases co : okF (start F k) (F k)
      · rw [co] at va
        have no : ¬ okTo F n := fun h => by
          have := h k ck
          have c2 := of_decide_eq_false co
          omega
        generalize start F k = S at *
        generalize F k = fk at *
        clear hF hFb rv rw' kv kw hok co hb hown sge
        go_wp2_with (go_at_call 141; refine (va _).mono ?_; rintro e w' ⟨rfl, hw⟩; rw [hw])
        go_ret2
        exact ⟨Or.inr ⟨no, rfl⟩, hbr⟩
      · rw [co] at va
        have c2 := of_decide_eq_true co
        have hok' : okTo F (k + 1) := okTo_succ hok c2.2.1 c2.2.2
        have sS : start F (k + 1) = start F k + (F k).toNat := rfl
        have vS := valsTo_succ F u k
        obtain ⟨M, hM⟩ : ∃ M : Nat, F k = M := ⟨(F k).toNat, by omega⟩
        have p1 := unpack1 k (start F k) M u k bw bv B v (valsTo F u k) wr (by omega) (by omega) (by omega) hu rv rw' hown h3 h4 h5 hBr w0.heap.size h7 h8
        rw [hM] at va cF sS c2 vS
        rw [Int.toNat_natCast] at sS vS
        rw [← vS] at p1
        generalize hS' : start F (k + 1) = S' at *
        generalize hX : valsTo F u (k + 1) = X at *
        have hid := Lib.hid (And.intro hok' (And.intro hX (And.intro hbr hS')))
        clear hok' hok rv rw' kv kw hF hFb hb hM co hown hbr hS' hX vS sge
        generalize start F k = S at *
        go_wp2_with (first | (go_at_call 141; refine (va _).mono ?_; rintro e w' ⟨rfl, hw⟩; rw [hw]) | (go_at_call 139; refine p1.mono ?_; rintro e w' ⟨rfl, v', r1, r2, r3, r4⟩))
        go_roundw
        case rel =>
          obtain ⟨i1, i2, i3, i4⟩ := hid.out
          exact ⟨k + 1, by omega, by rw [i4]; go_num, by go_num, i1, v', r1, r2, by rw [i2]; exact r3, i3.trans_below r4, Nat.le_trans hBr r4.size⟩
        case measure => simp only [intOf]; omega
    · obtain rfl : k = n := by omega
      have sp : decide (0 < start F k) = true := decide_eq_true (by omega)
      clear hF hFb kv kw hb sge
      go_wp2
      go_ret2
      exact ⟨Or.inl ⟨hok, rfl, v, rv, rw', hown⟩, hbr⟩

/-- what Unpack answers -/
def unE (F : Nat → Int) (n u : Nat) : Int := if 1 ≤ n ∧ okTo F n then (if u < 2 ^ start F n then 0 else 5) else 2
def unN (F : Nat → Int) (n u : Nat) : Nat := if 1 ≤ n ∧ okTo F n ∧ u < 2 ^ start F n then n else 0
def unG (F : Nat → Int) (u : Nat) (i : Nat) : Nat := getV u (start F i) (F i).toNat

theorem unG_lt (F : Nat → Int) {u : Nat} (hu : u < 18446744073709551616) (i : Nat) : unG F u i < 18446744073709551616 := Nat.lt_of_le_of_lt (Nat.le_trans Nat.and_le_left (Nat.div_le_self _ _)) hu

/-- the answer of Unpack -/
def UnAns (F : Nat → Int) (n u : Nat) (w : World) (e : Ending) (w' : World) : Prop :=
  ∃ v' : Value, e = .returned (.tuple #[v', .int .i64 (unE F n u)]) ∧ Words w' v' (unN F n u) (unG F u) ∧ Bel w w'

theorem words_none (w : World) (g : Nat → Nat) : Words w (.slice none 0 0) 0 g := Or.inl ⟨rfl, none, 0, rfl⟩

theorem unE_ok {F : Nat → Int} {n u : Nat} (hn : 1 ≤ n) (ok : okTo F n) (h : u < 2 ^ start F n) : unE F n u = 0 := by unfold unE; rw [if_pos ⟨hn, ok⟩, if_pos h]
theorem unN_ok {F : Nat → Int} {n u : Nat} (hn : 1 ≤ n) (ok : okTo F n) (h : u < 2 ^ start F n) : unN F n u = n := by unfold unN; rw [if_pos ⟨hn, ok, h⟩]
theorem unE_form {F : Nat → Int} {n u : Nat} (hn : 1 ≤ n) (ok : okTo F n) (h : ¬ u < 2 ^ start F n) : unE F n u = 5 := by unfold unE; rw [if_pos ⟨hn, ok⟩, if_neg h]
theorem unN_form {F : Nat → Int} {n u : Nat} (h : ¬ u < 2 ^ start F n) : unN F n u = 0 := by unfold unN; rw [if_neg (fun k => h k.2.2)]
theorem unE_no {F : Nat → Int} {n u : Nat} (h : ¬ (1 ≤ n ∧ okTo F n)) : unE F n u = 2 := by unfold unE; rw [if_neg h]
theorem unN_no {F : Nat → Int} {n u : Nat} (h : ¬ (1 ≤ n ∧ okTo F n)) : unN F n u = 0 := by unfold unN; rw [if_neg (fun k => h ⟨k.1, k.2.1⟩)]

theorem words_vals {w : World} {B n u : Nat} {F : Nat → Int} {v : Value} (h : w.ownsRow B 42 1 v n (valsTo F u n)) : Words w v n (unG F u) := by
  rcases h.2 with ⟨rfl, rfl⟩ | ⟨G, cap, cur, rfl, _, hg, hn, hc, _, _⟩
  · exact words_none _ _
  · by_cases c : n = 0
    · subst c; exact Or.inl ⟨rfl, _, _, rfl⟩
    · refine Or.inr ⟨G, 0, cap, rfl, by omega, hn, by unfold maxLen at hc; omega, fun j hj => ?_⟩
      have := h.cells (g := G) rfl j (Value.int .u64 ((unG F u j : Nat) : Int)) (by
        unfold valsTo; rw [List.getElem?_map, List.getElem?_range hj]; rfl)
      have hadd : (⟨G, 0, none⟩ : Addr).add j = ⟨G, 0 + j, none⟩ := by unfold Addr.add; split <;> simp_all
      rw [hadd] at this
      exact this

theorem two (w : World) (a b : Obj) : ((w.alloc a).alloc b).heap[w.heap.size]? = some a ∧ ((w.alloc a).alloc b).heap[w.heap.size + 1]? = some b := by
  have s1 : (w.alloc a).heap.size = w.heap.size + 1 := by show (w.heap.push a).size = _; simp
  refine ⟨?_, ?_⟩
  · rw [Below.heap_alloc _ _ _ (by omega)]; exact (MapKept.heap_alloc w a).1
  · rw [← s1]; exact (MapKept.heap_alloc _ b).1
theorem two_size (w : World) (a b : Obj) : ((w.alloc a).alloc b).heap.size = w.heap.size + 2 := by show ((w.heap.push a).push b).size = _; simp
theorem bel_two (w : World) (a b : Obj) : Bel w ((w.alloc a).alloc b) := ((Bel.refl w).alloc a).alloc b

set_option maxHeartbeats 1000000 in
theorem unpack_some (b1 off1 cap1 n u : Nat) (F : Nat → Int) (w : World) (hn : 1 ≤ n) (hc1 : n ≤ cap1) (hbig : cap1 ≤ 9223372036854775807)
    (hF : ∀ j, j < n → w.cell? ⟨b1, off1 + j, none⟩ = some (.int .i64 (F j))) (hFb : ∀ j, -9223372036854775808 ≤ F j ∧ F j ≤ 9223372036854775807) (hu : u < 18446744073709551616) :
    Calls Tryz.prog 132 #[.slice (some ⟨b1, off1, none⟩) n cap1, .int .u64 (u : Nat)] w (UnAns F n u w) := by
  obtain ⟨t1, t2⟩ := two w (.cells #[.int .u64 (u : Nat)] 42) (.cells #[.slice none 0 0] 49)
  have ep := each_unpack b1 off1 cap1 n w.heap.size (w.heap.size + 1) (w.heap.size + 2) u F w _ hn hc1 hbig hF hFb hu (by omega) (by omega) (by omega) (Nat.le_of_eq (two_size w _ _).symm) (by omega) (by omega) t2 t1 (bel_two _ _ _)
  clear t1 t2 hF
  by_cases ok : okTo F n
  · have s64 := start_le ok
    have c := ep.mono (R' := fun e w' => e = .returned (.tuple #[.int .i64 (start F n : Nat), .bool true]) ∧ ∃ v : Value, w'.heap[w.heap.size + 1]? = some (.cells #[v] 49 (0, 0)) ∧ w'.heap[w.heap.size]? = some (.cells #[.int .u64 (u : Nat)] 42 (0, 0)) ∧ Words w' v n (unG F u) ∧ Bel w w')
      (fun e w' ⟨h, hb⟩ => by
        rcases h with ⟨_, h1, v, h2, h3, h4⟩ | ⟨h, _⟩
        · exact ⟨h1, v, h2, h3, words_vals h4, hb⟩
        · exact absurd ok h)
    have ft := fun w => fits_any u (start F n) w hu
    by_cases hfit : u < 2 ^ start F n
    · rw [decide_eq_true hfit] at ft
      have fin : ∀ (v : Value) (w' : World), Words w' v n (unG F u) → Bel w w' → UnAns F n u w (.returned (.tuple #[v, .int .i64 0])) w' := fun v w' h1 h2 =>
        ⟨v, by rw [unE_ok hn ok hfit], by rw [unN_ok hn ok hfit]; exact h1, h2⟩
      generalize start F n = S at *
      clear ep hfit
      go_enter Tryz.func132, Tryz.ntmps132
      go_wp2_with (first | (go_at_call 136; refine c.mono ?_; rintro e w' ⟨rfl, v, h1, h2, h3, hb⟩; have c1 := cell_of_one h1; have c2 := cell_of_one h2; have c3 := fin _ _ h3 hb; clear h1 h2 h3) | (go_at_call 138; refine (ft _).mono ?_; rintro e w' ⟨rfl, hw⟩; rw [hw]))
      go_ret2
      exact c3
    · rw [decide_eq_false hfit] at ft
      have fin : ∀ (w' : World), Bel w w' → UnAns F n u w (.returned (.tuple #[.slice none 0 0, .int .i64 5])) w' := fun w' h2 =>
        ⟨.slice none 0 0, by rw [unE_form hn ok hfit], by rw [unN_form hfit]; exact words_none _ _, h2⟩
      generalize start F n = S at *
      clear ep hfit
      go_enter Tryz.func132, Tryz.ntmps132
      go_wp2_with (first | (go_at_call 136; refine c.mono ?_; rintro e w' ⟨rfl, v, h1, h2, h3, hb⟩; have c1 := cell_of_one h1; have c2 := cell_of_one h2; have c3 := fin _ hb; clear h1 h2 h3) | (go_at_call 138; refine (ft _).mono ?_; rintro e w' ⟨rfl, hw⟩; rw [hw]))
      go_ret2
      exact c3
  · have c := ep.mono (R' := fun e w' => e = .returned (.tuple #[.int .i64 0, .bool false]) ∧ Bel w w')
      (fun e w' ⟨h, hb⟩ => by
        rcases h with ⟨h, _⟩ | ⟨_, h⟩
        · exact absurd h ok
        · exact ⟨h, hb⟩)
    have no : ¬ (1 ≤ n ∧ okTo F n) := fun h => ok h.2
    have fin : ∀ (w' : World), Bel w w' → UnAns F n u w (.returned (.tuple #[.slice none 0 0, .int .i64 2])) w' := fun w' h2 =>
      ⟨.slice none 0 0, by rw [unE_no no], by rw [unN_no no]; exact words_none _ _, h2⟩
    clear ep
    go_enter Tryz.func132, Tryz.ntmps132
    go_wp2_with (go_at_call 136; refine c.mono ?_; rintro e w' ⟨rfl, hb⟩; have c3 := fin _ hb)
    go_ret2
    exact c3

/-- Unpack of the program -/
theorem unpack_any (ws : Value) (n u : Nat) (F : Nat → Int) (w : World) (hF : Nums w ws n F) (hFb : ∀ j, -9223372036854775808 ≤ F j ∧ F j ≤ 9223372036854775807) (hu : u < 18446744073709551616) :
    Calls Tryz.prog 132 #[ws, .int .u64 (u : Nat)] w (UnAns F n u w) := by
  rcases hF with ⟨rfl, p, cap, rfl⟩ | ⟨b1, off1, cap1, rfl, hn, hc, hbig, hF⟩
  · have en := each_none p cap
    have no : ¬ (1 ≤ 0 ∧ okTo F 0) := fun h => absurd h.1 (by omega)
    have fin : ∀ (w' : World), Bel w w' → UnAns F 0 u w (.returned (.tuple #[.slice none 0 0, .int .i64 2])) w' := fun w' h2 =>
      ⟨.slice none 0 0, by rw [unE_no no], by rw [unN_no no]; exact words_none _ _, h2⟩
    clear hFb
    go_enter Tryz.func132, Tryz.ntmps132
    go_wp2_with (go_at_call 136; refine (en _ _).mono ?_; rintro e w' ⟨rfl, hw⟩; rw [hw])
    go_ret2
    exact fin _ (bel_two _ _ _)
  · exact unpack_some b1 off1 cap1 n u F w hn hc hbig hF hFb hu

end Go.Proofs.YthokalcibjjihaaGreatDoor.hd
