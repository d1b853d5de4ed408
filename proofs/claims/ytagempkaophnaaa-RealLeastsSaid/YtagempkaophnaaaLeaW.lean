/- The walk of RealLeasts. -/
import Derived.Test.YtagempkaophnaaaLea
import Derived.Test.YtagempkaophnaaaExW
import Derived.OwnWalk
import Derived.Deep.RegionHeld3
namespace Go.Proofs.Ytagempkaophnaaa
open Go.ChangeShapes Go.WideShapes Go.ChangeAt Go.RowKit

/-- a row of words -/
def wordsAt (f : Nat → Nat) (s m : Nat) : List Value := (List.range m).map (fun j => Value.int .u64 ((f (s + j) : Nat) : Int))

theorem wordsAt_len (f : Nat → Nat) (s m : Nat) : (wordsAt f s m).length = m * 1 := by unfold wordsAt; simp

theorem wordsAt_get {f : Nat → Nat} {s m j : Nat} (h : j < m) : (wordsAt f s m)[j]? = some (Value.int .u64 ((f (s + j) : Nat) : Int)) := by
  unfold wordsAt; rw [List.getElem?_map, List.getElem?_range h]; rfl

theorem wordsAt_one (f : Nat → Nat) (s m : Nat) : ∀ u ∈ wordsAt f s m, u.oneCell' = true := by
  intro u hu
  unfold wordsAt at hu
  obtain ⟨j, _, rfl⟩ := List.mem_map.1 hu
  rfl

theorem news_at {w W' : World} (kp : Keeps w W') {b off n s m : Nat} {f : Nat → Nat} (hcell : ∀ j, j < n → w.cell? ⟨b, off + j, none⟩ = some (.int .u64 (f j : Nat))) (h : s + m ≤ n) :
    ∀ j u, (wordsAt f s m)[j]? = some u → W'.cell? ((⟨b, off + s, none⟩ : Addr).add j) = some u := by
  intro j u hu
  by_cases c : j < m
  · rw [wordsAt_get c] at hu
    cases hu
    rw [add_plain, Nat.add_assoc]
    exact cell_keeps kp (hcell (s + j) (by omega))
  · unfold wordsAt at hu
    rw [List.getElem?_eq_none (by simp; omega)] at hu
    cases hu

theorem words_two {w : World} {base N n k : Nat} {v : Value} {f : Nat → Nat} (h : w.ownsRow base 22 1 v N ([] ++ wordsAt f k (n - k) ++ wordsAt f 0 k)) (hN : N = n) (hk : k < n) : Words w v n (turned f n k) := by
  subst hN
  rcases h.2 with ⟨_, e⟩ | ⟨G, cap, cur, rfl, _, hg, hn, hc, _, _⟩
  · omega
  · refine Or.inr ⟨G, 0, cap, rfl, by omega, hn, by unfold maxLen at hc; omega, fun j hj => ?_⟩
    have := h.cells (g := G) rfl j (Value.int .u64 ((turned f N k j : Nat) : Int)) (by
      rw [List.nil_append]
      unfold turned
      by_cases c : j < N - k
      · rw [if_pos c, List.getElem?_append_left (by rw [wordsAt_len]; omega), wordsAt_get c]
      · rw [if_neg c, List.getElem?_append_right (by rw [wordsAt_len]; omega), wordsAt_len, Nat.mul_one, wordsAt_get (by omega), Nat.zero_add])
    rw [add_plain] at this
    exact this

theorem step_append_own {ops : Array Oper} {o : Oper} {a : Act} {w : World} {K : Act → World → Prop} {Q : Exit → Act → World → Prop} {E : Prop} (hgd : Region.wanted o (yielded ops a.tmps) = true) (s x : Operand) (t : TypeId)
    (ho : o.op = .call { callee := .builtin .append, args := #[s, x], argTypes := #[t, t] })
    (base : Nat) (e : TypeId) (i : TypeInfo) (z : Value) (size bytes : Nat) (ht : Try.prog.underlying t = some (.slice e)) (hi : Try.prog.info? e = some i) (hz : i.zero = some z)
    (hsize : i.size = size) (hby : i.bytes = bytes) (hzs : z.cells.size = size) (hsz : 0 < size)
    (v : Value) (n : Nat) (xs : List Value) (hs : a.eval s = v) (hown : w.ownsRow base e size v n xs)
    (ad : Addr) (m c : Nat) (news : List Value) (hx : a.eval x = .slice (some ad) m c) (hl : news.length = m * size) (hnews : ∀ j u, news[j]? = some u → w.cell? (ad.add j) = some u) (h1 : ∀ u ∈ news, u.oneCell' = true)
    (h63 : n + m ≤ maxLen) (hbytes : (n + m) * bytes ≤ 140737488355328) (hbase : base ≤ w.heap.size)
    (h : ∀ v' w', w'.ownsRow base e size v' (n + m) (xs ++ news) → w.grownBy w' v.ownBlock → K (a.put o.dst v') w') :
    if Region.wanted o (yielded ops a.tmps) = true then Oper.wp Try.prog o a w K Q else E := by
  rw [if_pos hgd]
  exact wp_append_own w s x t ho base e i z size bytes ht hi hz hsize hby hzs hsz v n xs hs hown ad m c news hx hl hnews h1 h63 hbytes hbase fun v' w' h2 h3 _ => h v' w' h2 h3

set_option linter.unusedVariables false

set_option maxRecDepth 100000 in
set_option maxHeartbeats 4000000 in
theorem leasts_pos (b off n cap k : Nat) (f : Nat → Nat) (t r : Int) (w : World) (hw : Words w (.slice (some ⟨b, off, none⟩) n cap) n f) (hf : ∀ j, f j < 18446744073709551616) (hn : 1 ≤ n) (hcap : n ≤ cap) (hcap2 : cap ≤ 9223372036854775807)
    (hb : b < w.heap.size) (hcell : ∀ j, j < n → w.cell? ⟨b, off + j, none⟩ = some (.int .u64 (f j : Nat))) (c : n ≤ 100)
    (ht : t.tmod (n : Int) = r) (hr : ¬ r < 0) (hk : r = (k : Nat)) (hkn : k < n) :
    Calls Try.prog 9 #[.slice (some ⟨b, off, none⟩) n cap, .int .i64 t] w fun e w' => e = .returned (.bool true) ∧ Keeps w w' := by
  obtain ⟨i0, hi, hz0, hz1, hz2⟩ := info_parts info22
  have l1 := least_any _ n f w hw hf
  have nz : ¬ (n : Int) = 0 := by omega
  have nz2 : ((n : Int) == 0) = false := by rw [beq_dec]; exact decide_eq_false nz
  have th := there_least hf hn
  have kI0 : (0 : Int) ≤ (k : Int) := by omega
  have kI1 : (k : Int) ≤ (n : Int) := by omega
  have kI2 : (k : Int) ≤ (cap : Int) := by omega
  have kI3 : (n : Int) ≤ (cap : Int) := by omega
  have kI4 : ¬ cap = k := by omega
  have kI5 : ¬ cap - k = 0 := by omega
  obtain ⟨W, hW⟩ : ∃ W, leastN f n = W := ⟨_, rfl⟩
  rw [hW] at l1 th
  go_enter Try.func9, Try.ntmps9
  go_wp2_with (go_at_call 26; ((with_reducible refine l1.mono ?_); rintro e w' ⟨rfl, hw⟩; rw [hw]))
  clear l1
  go_loop [7, 8] (fun a i => ∃ q : Nat, q ≤ n ∧ a = .bool (thereN f W q) ∧ i = .int .i64 (q : Nat)) (fun _ i => n - (intOf i).toNat)
  case atStart => exact ⟨0, Nat.zero_le _, rfl, rfl⟩
  case round =>
    obtain ⟨q, hq, rfl, rfl⟩ := hrel
    by_cases cq : q < n
    · have hcl := hcell q cq
      have cn := canon_any (f q : Nat) w (by omega) (by have := hf q; omega)
      rw [Int.toNat_natCast] at cn
      have sq : thereN f W (q + 1) = (thereN f W q || ((canonN (f q) : Int) == (W : Int))) := rfl
      have qI : (q : Int) < n := by omega
      have q0 : (0 : Int) ≤ q := by omega
      cases tq : thereN f W q
      · rw [tq, Bool.false_or] at sq
        generalize canonN (f q) = cq' at *
        have hid := Lib.hid sq
        clear sq tq th hw hcell hf
        go_wp2_with (go_at_call 17; refine cn.mono ?_; rintro e w' ⟨rfl, hw⟩; rw [hw])
        go_round
        case rel => exact ⟨q + 1, by omega, by rw [hid.out], by go_num⟩
        case measure => simp only [intOf]; omega
      · rw [tq, Bool.true_or] at sq
        have hid := Lib.hid sq
        clear sq tq th hw hcell hf
        go_wp2
        go_round
        case rel => exact ⟨q + 1, by omega, by rw [hid.out], by go_num⟩
        case measure => simp only [intOf]; omega
    · obtain rfl : q = n := by omega
      rw [th]
      go_wp2
      have hbA : Below w.heap.size w (w.alloc (.cells #[] 22)).drew := ((Below.refl _ _).alloc (Nat.le_refl _) _).drew
      have kp0 : Keeps w w.drew := Keeps.of_below (Below.refl _ _).drew
      have kpA := Keeps.of_below hbA
      have hown0 : (w.alloc (.cells #[] 22)).drew.ownsRow w.heap.size 22 1 (.slice (some ⟨w.heap.size, 0, none⟩) 0 0) 0 [] := (World.ownsRow_made w #[] 0 (Nat.le_refl _) (Nat.zero_le _) rfl).drew
      have hnews1 := news_at (s := k) (m := q - k) kpA hcell (by omega)
      have hnews2 : ∀ w1, Keeps w w1 → ∀ j u, (wordsAt f 0 k)[j]? = some u → w1.cell? ((⟨b, off, none⟩ : Addr).add j) = some u := fun w1 kp => news_at (s := 0) (m := k) kp hcell (by omega)
      have hl1 := wordsAt_len f k (q - k)
      have hl2 := wordsAt_len f 0 k
      have ho1 := wordsAt_one f k (q - k)
      have ho2 := wordsAt_one f 0 k
      have m1 : 0 + (q - k) ≤ maxLen := by unfold maxLen; omega
      have m2 : 0 + (q - k) + k ≤ maxLen := by unfold maxLen; omega
      have m3 : (0 + (q - k)) * 8 ≤ 140737488355328 := by omega
      have m4 : (0 + (q - k) + k) * 8 ≤ 140737488355328 := by omega
      have lt := fun (v2 : Value) (w2 : World) (h : Words w2 v2 q (turned f q k)) => least_any v2 q (turned f q k) w2 h (turned_lt hf q k)
      rw [least_turned hf hn hkn, hW] at lt
      have eN : 0 + (q - k) + k = q := by omega
      have hkn' := hkn
      clear hf hcell hW th hw ht hr hk hkn hn hcap hcap2 c cq nz nz2 hb eN
      go_region_held3 (fun w' => Keeps w w') (assumption) (first
        | (refine step_append_own (by rfl) _ _ 32 (by rfl) w.heap.size 22 i0 (.int .u64 0) 1 8 Try.underlying32 hi hz0 hz1 hz2 rfl (by decide) (.slice (some ⟨w.heap.size, 0, none⟩) 0 0) 0 [] (by rfl) hown0 ⟨b, off + k, none⟩ (q - k) (cap - k) (wordsAt f k (q - k)) (by rfl) hl1 hnews1 ho1 m1 m3 hbA.size ?_
           intro v1 w1 hown1 hgrow1
           have hb1 := hbA.grown hgrow1 hbA.size (fun x hx => (hown0.lt x hx).1)
           have kp1 := Keeps.of_below hb1)
        | (refine step_append_own (by rfl) _ _ 32 (by rfl) w.heap.size 22 i0 (.int .u64 0) 1 8 Try.underlying32 hi hz0 hz1 hz2 rfl (by decide) v1 (0 + (q - k)) ([] ++ wordsAt f k (q - k)) (by rfl) hown1 ⟨b, off, none⟩ k cap (wordsAt f 0 k) (by rfl) hl2 (hnews2 _ kp1) ho2 m2 m4 hb1.size ?_
           intro v2 w2 hown2 hgrow2
           have hb2 := hb1.grown hgrow2 hb1.size (fun x hx => (hown1.lt x hx).1)
           have kp2 := Keeps.of_below hb2)
        | (go_at_call 26; refine (lt _ _ (words_two hown2 (by omega) hkn')).mono ?_; rintro e w' ⟨rfl, hww⟩; rw [hww])
        | (go_at_call 19; refine (awake_any _).mono ?_; rintro e w' ⟨rfl, hga⟩; have kp3 := kp2.grown hga))
      go_wp2
      go_ret
      exact ⟨rfl, by assumption⟩

set_option maxRecDepth 100000 in
set_option maxHeartbeats 4000000 in
theorem leasts_neg (b off n cap k : Nat) (f : Nat → Nat) (t r : Int) (w : World) (hw : Words w (.slice (some ⟨b, off, none⟩) n cap) n f) (hf : ∀ j, f j < 18446744073709551616) (hn : 1 ≤ n) (hcap : n ≤ cap) (hcap2 : cap ≤ 9223372036854775807)
    (hb : b < w.heap.size) (hcell : ∀ j, j < n → w.cell? ⟨b, off + j, none⟩ = some (.int .u64 (f j : Nat))) (c : n ≤ 100)
    (ht : t.tmod (n : Int) = r) (hr : r < 0) (hk : r + (n : Int) = (k : Nat)) (hrb : -(n : Int) ≤ r) (hkn : k < n) :
    Calls Try.prog 9 #[.slice (some ⟨b, off, none⟩) n cap, .int .i64 t] w fun e w' => e = .returned (.bool true) ∧ Keeps w w' := by
  obtain ⟨i0, hi, hz0, hz1, hz2⟩ := info_parts info22
  have l1 := least_any _ n f w hw hf
  have nz : ¬ (n : Int) = 0 := by omega
  have nz2 : ((n : Int) == 0) = false := by rw [beq_dec]; exact decide_eq_false nz
  have th := there_least hf hn
  have kI0 : (0 : Int) ≤ (k : Int) := by omega
  have kI1 : (k : Int) ≤ (n : Int) := by omega
  have kI2 : (k : Int) ≤ (cap : Int) := by omega
  have kI3 : (n : Int) ≤ (cap : Int) := by omega
  have kI4 : ¬ cap = k := by omega
  have kI5 : ¬ cap - k = 0 := by omega
  obtain ⟨W, hW⟩ : ∃ W, leastN f n = W := ⟨_, rfl⟩
  rw [hW] at l1 th
  go_enter Try.func9, Try.ntmps9
  go_wp2_with (go_at_call 26; ((with_reducible refine l1.mono ?_); rintro e w' ⟨rfl, hw⟩; rw [hw]))
  clear l1
  go_loop [7, 8] (fun a i => ∃ q : Nat, q ≤ n ∧ a = .bool (thereN f W q) ∧ i = .int .i64 (q : Nat)) (fun _ i => n - (intOf i).toNat)
  case atStart => exact ⟨0, Nat.zero_le _, rfl, rfl⟩
  case round =>
    obtain ⟨q, hq, rfl, rfl⟩ := hrel
    by_cases cq : q < n
    · have hcl := hcell q cq
      have cn := canon_any (f q : Nat) w (by omega) (by have := hf q; omega)
      rw [Int.toNat_natCast] at cn
      have sq : thereN f W (q + 1) = (thereN f W q || ((canonN (f q) : Int) == (W : Int))) := rfl
      have qI : (q : Int) < n := by omega
      have q0 : (0 : Int) ≤ q := by omega
      cases tq : thereN f W q
      · rw [tq, Bool.false_or] at sq
        generalize canonN (f q) = cq' at *
        have hid := Lib.hid sq
        clear sq tq th hw hcell hf
        go_wp2_with (go_at_call 17; refine cn.mono ?_; rintro e w' ⟨rfl, hw⟩; rw [hw])
        go_round
        case rel => exact ⟨q + 1, by omega, by rw [hid.out], by go_num⟩
        case measure => simp only [intOf]; omega
      · rw [tq, Bool.true_or] at sq
        have hid := Lib.hid sq
        clear sq tq th hw hcell hf
        go_wp2
        go_round
        case rel => exact ⟨q + 1, by omega, by rw [hid.out], by go_num⟩
        case measure => simp only [intOf]; omega
    · obtain rfl : q = n := by omega
      rw [th]
      go_wp2
      have hbA : Below w.heap.size w (w.alloc (.cells #[] 22)).drew := ((Below.refl _ _).alloc (Nat.le_refl _) _).drew
      have kp0 : Keeps w w.drew := Keeps.of_below (Below.refl _ _).drew
      have kpA := Keeps.of_below hbA
      have hown0 : (w.alloc (.cells #[] 22)).drew.ownsRow w.heap.size 22 1 (.slice (some ⟨w.heap.size, 0, none⟩) 0 0) 0 [] := (World.ownsRow_made w #[] 0 (Nat.le_refl _) (Nat.zero_le _) rfl).drew
      have hnews1 := news_at (s := k) (m := q - k) kpA hcell (by omega)
      have hnews2 : ∀ w1, Keeps w w1 → ∀ j u, (wordsAt f 0 k)[j]? = some u → w1.cell? ((⟨b, off, none⟩ : Addr).add j) = some u := fun w1 kp => news_at (s := 0) (m := k) kp hcell (by omega)
      have hl1 := wordsAt_len f k (q - k)
      have hl2 := wordsAt_len f 0 k
      have ho1 := wordsAt_one f k (q - k)
      have ho2 := wordsAt_one f 0 k
      have m1 : 0 + (q - k) ≤ maxLen := by unfold maxLen; omega
      have m2 : 0 + (q - k) + k ≤ maxLen := by unfold maxLen; omega
      have m3 : (0 + (q - k)) * 8 ≤ 140737488355328 := by omega
      have m4 : (0 + (q - k) + k) * 8 ≤ 140737488355328 := by omega
      have lt := fun (v2 : Value) (w2 : World) (h : Words w2 v2 q (turned f q k)) => least_any v2 q (turned f q k) w2 h (turned_lt hf q k)
      rw [least_turned hf hn hkn, hW] at lt
      have eN : 0 + (q - k) + k = q := by omega
      have hkn' := hkn
      clear hf hcell hW th hw ht hr hk hrb hkn hn hcap hcap2 c cq nz nz2 hb eN
      go_region_held3 (fun w' => Keeps w w') (assumption) (first
        | (refine step_append_own (by rfl) _ _ 32 (by rfl) w.heap.size 22 i0 (.int .u64 0) 1 8 Try.underlying32 hi hz0 hz1 hz2 rfl (by decide) (.slice (some ⟨w.heap.size, 0, none⟩) 0 0) 0 [] (by rfl) hown0 ⟨b, off + k, none⟩ (q - k) (cap - k) (wordsAt f k (q - k)) (by rfl) hl1 hnews1 ho1 m1 m3 hbA.size ?_
           intro v1 w1 hown1 hgrow1
           have hb1 := hbA.grown hgrow1 hbA.size (fun x hx => (hown0.lt x hx).1)
           have kp1 := Keeps.of_below hb1)
        | (refine step_append_own (by rfl) _ _ 32 (by rfl) w.heap.size 22 i0 (.int .u64 0) 1 8 Try.underlying32 hi hz0 hz1 hz2 rfl (by decide) v1 (0 + (q - k)) ([] ++ wordsAt f k (q - k)) (by rfl) hown1 ⟨b, off, none⟩ k cap (wordsAt f 0 k) (by rfl) hl2 (hnews2 _ kp1) ho2 m2 m4 hb1.size ?_
           intro v2 w2 hown2 hgrow2
           have hb2 := hb1.grown hgrow2 hb1.size (fun x hx => (hown1.lt x hx).1)
           have kp2 := Keeps.of_below hb2)
        | (go_at_call 26; refine (lt _ _ (words_two hown2 (by omega) hkn')).mono ?_; rintro e w' ⟨rfl, hww⟩; rw [hww])
        | (go_at_call 19; refine (awake_any _).mono ?_; rintro e w' ⟨rfl, hga⟩; have kp3 := kp2.grown hga))
      go_wp2
      go_ret
      exact ⟨rfl, by assumption⟩

end Go.Proofs.Ytagempkaophnaaa
