/- Acts as they lie; both bodies in a statement's loop. -/
import Derived.Test.YthokalcibjjihaaGreatDoorDm
namespace Go.Proofs.YthokalcibjjihaaGreatDoor
open Go.ChangeShapes Go.WideShapes Go.ChangeAt Go.RowKit Go.Deep hd
set_option linter.unusedVariables false

instance : Inhabited Ac := ⟨⟨0, 0, 0, 0, 0, 0, 0, 0⟩⟩
/-- an act's cells -/
def AcAt (w : World) (b o : Nat) (x : Ac) : Prop :=
  w.cell? ⟨b, o, none⟩ = some (.int .u8 (x.wh : Nat)) ∧ w.cell? ⟨b, o + 1, none⟩ = some (.int .i64 x.s) ∧ w.cell? ⟨b, o + 2, none⟩ = some (.int .i64 x.i) ∧ w.cell? ⟨b, o + 3, none⟩ = some (.int .i64 x.q) ∧ w.cell? ⟨b, o + 4, none⟩ = some (.int .u64 (x.u : Nat)) ∧
    w.cell? ⟨b, o + 5, none⟩ = some (.int .i64 x.c) ∧ w.cell? ⟨b, o + 6, none⟩ = some (.int .i64 x.r) ∧ w.cell? ⟨b, o + 7, none⟩ = some (.int .i64 x.n)
theorem AcAt.exc {X : Nat → Prop} {w w' : World} {b o : Nat} {x : Ac} (h : AcAt w b o x) (g : Exc X w w') (hx : ¬ X b) : AcAt w' b o x :=
  ⟨cell_exc g h.1 hx, cell_exc g h.2.1 hx, cell_exc g h.2.2.1 hx, cell_exc g h.2.2.2.1 hx, cell_exc g h.2.2.2.2.1 hx, cell_exc g h.2.2.2.2.2.1 hx, cell_exc g h.2.2.2.2.2.2.1 hx, cell_exc g h.2.2.2.2.2.2.2 hx⟩
theorem AcAt.bel {w w' : World} {b o : Nat} {x : Ac} (h : AcAt w b o x) (g : Bel w w') : AcAt w' b o x := h.exc (X := fun _ => False) g.exc fun x => x
/-- a slice of acts -/
def Acts (w : World) (v : Value) (n : Nat) (A : Nat → Ac) : Prop :=
  (n = 0 ∧ ∃ p cap, v = .slice p 0 cap) ∨
  ∃ b off cap, v = .slice (some ⟨b, off, none⟩) n cap ∧ 1 ≤ n ∧ n ≤ cap ∧ cap ≤ 9223372036854775807 ∧ ∀ j, j < n → AcAt w b (off + j * 8) (A j) ∧ (A j).Ok
theorem Acts.bel {w w' : World} {v : Value} {n : Nat} {A : Nat → Ac} (h : Acts w v n A) (g : Bel w w') : Acts w' v n A := by
  rcases h with h | ⟨b, off, cap, h1, h2, h3, h4, h5⟩
  · exact Or.inl h
  · exact Or.inr ⟨b, off, cap, h1, h2, h3, h4, fun j hj => ⟨(h5 j hj).1.bel g, (h5 j hj).2⟩⟩
theorem Acts.slice {w : World} {v : Value} {n : Nat} {A : Nat → Ac} (h : Acts w v n A) : ∃ p cap, v = .slice p n cap ∧ n ≤ 9223372036854775807 := by
  rcases h with ⟨rfl, p, cap, rfl⟩ | ⟨b, off, cap, rfl, h1, h2, h3, h4⟩
  · exact ⟨p, cap, rfl, by omega⟩
  · exact ⟨_, cap, rfl, by omega⟩
theorem Acts.at {w : World} {p : Option Addr} {n cap : Nat} {A : Nat → Ac} (h : Acts w (.slice p n cap) n A) {j : Nat} (hj : j < n) :
    ∃ b off, p = some ⟨b, off, none⟩ ∧ b < w.heap.size ∧ AcAt w b (off + j * 8) (A j) ∧ (A j).Ok := by
  rcases h with ⟨rfl, _⟩ | ⟨b, off, cap', e, h1, h2, h3, h4⟩
  · omega
  · injection e with e1 e2 e3
    exact ⟨b, off, e1, (cell_block (h4 j hj).1.1).1, h4 j hj⟩

/-- both bodies in a statement's loop: the program's memory in blocks lo to below hi, the document's body in the box Bq; the slot of the program's body that holds its memory -/
structure Lp (w5 wr : World) (v mv : Value) (lo hi top Bq : Nat) (R : List (List Nat)) (t : Nat) (P : Pl) (q : Value) (x0 x1 x2 x3 x4 x5 x6 : Value) : Prop where
  mem : IsD wr v lo hi top R t P
  own : ∃ p, v = .pointer (some p) ∧ wr.cell? p = some mv
  box : wr.heap[Bq]? = some (.cells #[x0, x1, x2, x3, x4, x5, x6] 36 (0, 0))
  val : q = .agg #[x0, x1, x2, x3, x4, x5, x6]
  doc : IsB (fun k => Own lo hi k ∨ k = Bq) wr q R t P
  exc : Exc (fun k => Own lo hi k ∨ k = Bq) w5 wr
  bq : top ≤ Bq
variable {w5 wr w6 w7 : World} {v mv q : Value} {lo hi top Bq t : Nat} {R R' : List (List Nat)} {P : Pl} {x0 x1 x2 x3 x4 x5 x6 : Value}
/-- the memory of a body is that which it points to -/
theorem IsD.memv {w : World} {p : Addr} (h : IsD w v lo hi top R t P) (e : v = .pointer (some p)) (c : w.cell? p = some mv) : mm.IsMem w mv lo hi R ∧ hi ≤ w.heap.size ∧ p.block < top ∧ ¬ Own lo hi p.block := by
  obtain ⟨b, mp, pb, pg, off, cap, e2, hb, ⟨b1, b2, b3, b4, b5⟩, n, l0, hp, hm, hT, ok⟩ := h
  rw [e] at e2
  injection e2 with e2
  injection e2 with e2
  subst e2
  have k := (box3 hb).1
  rw [c] at k
  injection k with k
  subst k
  exact ⟨hm, by omega, b1, n.1⟩
theorem Lp.im (h : Lp w5 wr v mv lo hi top Bq R t P q x0 x1 x2 x3 x4 x5 x6) : mm.IsMem wr mv lo hi R ∧ hi ≤ wr.heap.size := by
  obtain ⟨p, e, c⟩ := h.own
  exact ⟨(h.mem.memv e c).1, (h.mem.memv e c).2.1⟩
theorem Lp.bel (h : Lp w5 wr v mv lo hi top Bq R t P q x0 x1 x2 x3 x4 x5 x6) (g : Bel wr w6) : Lp w5 w6 v mv lo hi top Bq R t P q x0 x1 x2 x3 x4 x5 x6 := by
  obtain ⟨p, e, c⟩ := h.own
  exact ⟨h.mem.bel g, ⟨p, e, cell_bel g c⟩, heap_bel g h.box, h.val, h.doc.bel g, h.exc.trans g.exc, h.bq⟩
theorem Lp.till (h : Lp w5 wr v mv lo hi top Bq R t P q x0 x1 x2 x3 x4 x5 x6) : Till (fun k => Own lo hi k ∨ k = Bq) wr := fun k hk => by
  obtain ⟨a, b, c, d⟩ := h.mem.lims
  have e := heap_lt h.box
  rcases hk with hk | hk
  · have := hk.2; omega
  · omega
/-- at first -/
theorem Lp.start {w w4 : World} (h : Made w w4 v mv (.agg #[x0, x1, x2, x3, x4, x5, x6]) lo hi top R t P) :
    Lp (w4.alloc (.cells #[x0, x1, x2, x3, x4, x5, x6] 36)) (w4.alloc (.cells #[x0, x1, x2, x3, x4, x5, x6] 36)) v mv lo hi top w4.heap.size R t P (.agg #[x0, x1, x2, x3, x4, x5, x6]) x0 x1 x2 x3 x4 x5 x6 := by
  have g := (Bel.refl w4).alloc (.cells #[x0, x1, x2, x3, x4, x5, x6] 36)
  obtain ⟨p, e, c⟩ := h.m
  obtain ⟨a, b, c', d⟩ := h.d.lims
  exact ⟨h.d.bel g, ⟨p, e, cell_bel g c⟩, heap_alloc_new w4 _, rfl, ((h.b.old h.d.ok).bel g).less fun k hk => hk.imp id fun x => by omega, Exc.refl _ _, b⟩
/-- behind an act: the program's blocks and the document's box may be turned -/
theorem Lp.step (h : Lp w5 wr v mv lo hi top Bq R t P q x0 x1 x2 x3 x4 x5 x6) {y0 y1 y2 y3 y4 y5 y6 : Value} (hE : Exc (Own lo hi) wr w6) (hD : IsD w6 v lo hi top R' t P) (hq : IsB (fun k => Own lo hi k ∨ k = Bq) w6 (.agg #[y0, y1, y2, y3, y4, y5, y6]) R' t P)
    (hb : w7.heap[Bq]? = some (.cells #[y0, y1, y2, y3, y4, y5, y6] 36 (0, 0))) (hE7 : Exc (fun k => k = Bq) w6 w7) : Lp w5 w7 v mv lo hi top Bq R' t P (.agg #[y0, y1, y2, y3, y4, y5, y6]) y0 y1 y2 y3 y4 y5 y6 := by
  obtain ⟨p, e, c⟩ := h.own
  obtain ⟨_, _, pt, po⟩ := h.mem.memv e c
  have hb' := h.bq
  refine ⟨hD.exc hE7 fun k hk => by omega, ⟨p, e, cell_exc hE7 (cell_exc hE c po) (by omega)⟩, hb, rfl, hq.exc (hE7.mono fun k hk => Or.inr hk), h.exc.trans ((hE.mono fun k hk => Or.inl hk).trans (hE7.mono fun k hk => Or.inr hk)), h.bq⟩
theorem Lp.seven (h : Lp w5 wr v mv lo hi top Bq R t P q x0 x1 x2 x3 x4 x5 x6) : ∃ pr cr bl ol cl pf cf pm cm p cap, x0 = .slice pr R.length cr ∧ x1 = .int .i64 (t : Nat) ∧ x2 = .slice (some ⟨bl, ol, none⟩) P.S cl ∧ x3 = .slice pf P.T cf ∧ x4 = .slice pm P.T cm ∧ x5 = .int .i64 (P.W : Nat) ∧ x6 = .slice p P.n cap := by
  obtain ⟨pr, cr, bl, ol, cl, pf, cf, pm, cm, p, cap, e, _⟩ := h.doc.shape
  rw [h.val] at e
  injection e with e
  injection e with e
  simp only [List.cons.injEq, and_true] at e
  exact ⟨pr, cr, bl, ol, cl, pf, cf, pm, cm, p, cap, e⟩
/-- all that lay there lies as it lay -/
theorem Lp.below {w : World} (h : Lp w5 wr v mv lo hi top Bq R t P q x0 x1 x2 x3 x4 x5 x6) (g : Bel w w5) (hlo : w.heap.size ≤ lo) : Bel w wr := bel_exc g h.exc fun k hk => by
  have := h.bq
  obtain ⟨a, b, c, d⟩ := h.mem.lims
  rcases hk with hk | hk
  · have := hk.1; omega
  · omega

end Go.Proofs.YthokalcibjjihaaGreatDoor

/- Behind an act, ahead of the store into the document's box; both memories, all at once. -/
namespace Go.Proofs.YthokalcibjjihaaGreatDoor
open Go.ChangeShapes Go.WideShapes Go.ChangeAt Go.RowKit Go.Deep hd
set_option linter.unusedVariables false

/-- behind an act, ahead of the store into the document's box -/
structure Mid (wr wx : World) (v : Value) (lo hi top Bq g : Nat) (R : List (List Nat)) (t : Nat) (P : Pl) (x0 x1 x2 x3 x4 x5 x6 : Value) : Prop where
  mem : IsD wx v lo hi top R t P
  exc : Exc (Own lo hi) wr wx
  box : wx.heap[g]? = some (.cells #[x0, x1, x2, x3, x4, x5, x6] 36 (0, 0))
  doc : IsB (fun k => Own lo hi k ∨ k = Bq) wx (.agg #[x0, x1, x2, x3, x4, x5, x6]) R t P
  new : wr.heap.size ≤ g
variable {w5 wr wx w6 w7 : World} {v mv q : Value} {lo hi top Bq g t : Nat} {R R' : List (List Nat)} {P : Pl} {x0 x1 x2 x3 x4 x5 x6 y0 y1 y2 y3 y4 y5 y6 : Value}
/-- the box made behind the act -/
theorem Mid.after (hD : IsD w6 v lo hi top R t P) (hq : IsB (fun k => Own lo hi k ∨ k = Bq) w6 (.agg #[x0, x1, x2, x3, x4, x5, x6]) R t P) (e : Exc (Own lo hi) wr w6) :
    Mid wr (w6.alloc (.cells #[x0, x1, x2, x3, x4, x5, x6] 36)) v lo hi top Bq w6.heap.size R t P x0 x1 x2 x3 x4 x5 x6 :=
  have al := (Bel.refl w6).alloc (.cells #[x0, x1, x2, x3, x4, x5, x6] 36)
  ⟨hD.bel al, e.trans al.exc, heap_alloc_new w6 _, hq.bel al, e.size⟩
/-- the box made ahead of the act -/
theorem Mid.ahead (hD : IsD w6 v lo hi top R t P) (hh : top ≤ g) (hq : IsB (fun k => (Own lo hi k ∨ k = Bq) ∨ k = g) w6 (.agg #[x0, x1, x2, x3, x4, x5, x6]) R t P) (e : Exc (Own lo hi) wr w7) (hb : w7.heap[g]? = some (.cells #[x0, x1, x2, x3, x4, x5, x6] 36 (0, 0))) (e2 : Exc (fun k => k = g) w6 w7) (hg : wr.heap.size ≤ g) :
    Mid wr w7 v lo hi top Bq g R t P x0 x1 x2 x3 x4 x5 x6 :=
  ⟨hD.exc e2 fun k hk => by omega, e, hb, (hq.exc (e2.mono fun k hk => Or.inr hk)).less fun k hk => Or.inl hk, hg⟩
theorem Mid.bel (m : Mid wr w6 v lo hi top Bq g R t P x0 x1 x2 x3 x4 x5 x6) (b : Bel w6 w7) : Mid wr w7 v lo hi top Bq g R t P x0 x1 x2 x3 x4 x5 x6 := ⟨m.mem.bel b, m.exc.trans b.exc, heap_bel b m.box, m.doc.bel b, m.new⟩
theorem Mid.seven (h : Mid wr wx v lo hi top Bq g R t P x0 x1 x2 x3 x4 x5 x6) : ∃ pr cr bl ol cl pf cf pm cm p cap, x0 = .slice pr R.length cr ∧ x1 = .int .i64 (t : Nat) ∧ x2 = .slice (some ⟨bl, ol, none⟩) P.S cl ∧ x3 = .slice pf P.T cf ∧ x4 = .slice pm P.T cm ∧ x5 = .int .i64 (P.W : Nat) ∧ x6 = .slice p P.n cap := by
  obtain ⟨pr, cr, bl, ol, cl, pf, cf, pm, cm, p, cap, e, _⟩ := h.doc.shape
  injection e with e
  injection e with e
  simp only [List.cons.injEq, and_true] at e
  exact ⟨pr, cr, bl, ol, cl, pf, cf, pm, cm, p, cap, e⟩
/-- the lengths of the rows do not turn -/
theorem Lp.mids (h : Lp w5 wr v mv lo hi top Bq R t P q x0 x1 x2 x3 x4 x5 x6) (m : Mid wr wx v lo hi top Bq g R' t P y0 y1 y2 y3 y4 y5 y6) (hb : w7.heap[Bq]? = some (.cells #[y0, y1, y2, y3, y4, y5, y6] 36 (0, 0))) (e : Exc (fun k => k = Bq) wx w7) :
    Lp w5 w7 v mv lo hi top Bq R' t P (.agg #[y0, y1, y2, y3, y4, y5, y6]) y0 y1 y2 y3 y4 y5 y6 := h.step m.exc m.mem m.doc hb e
/-- the blocks of a memory's owner are lower than the box -/
theorem Lp.boxes (h : Lp w5 wr v mv lo hi top Bq R t P q x0 x1 x2 x3 x4 x5 x6) : top ≤ wr.heap.size ∧ top ≤ Bq ∧ ¬ Own lo hi Bq ∧ lo < hi ∧ hi ≤ top := by
  obtain ⟨a, b, c, d⟩ := h.mem.lims
  have := h.bq
  exact ⟨b, h.bq, fun x => by have := x.2; omega, d, a⟩

/-- all words of a memory -/
theorem pall (hm : mm.IsMem wr mv lo hi R) (hh : hi ≤ wr.heap.size) (W : World) (g : Bel wr W) :
    Calls Tryz.prog 14 #[mv] W fun e w' => (∃ p n c, e = .returned (.slice p n c) ∧ mm.Ws (fun _ => False) w' (.slice p n c) R.flatten) ∧ Bel W w' ∧ Bel wr w' := by
  refine (mm.pm_all mv lo hi R W (mem_bel hm g hh)).mono ?_
  rintro e w' ⟨⟨lv, rfl, hO⟩, b⟩
  have hw := hO.ws (X := fun _ => False) fun _ _ _ h => h
  rcases hw with ⟨e0, p, cap, rfl⟩ | ⟨b1, off1, cap1, rfl, hn⟩
  · exact ⟨⟨p, 0, cap, rfl, by rw [e0]; exact Or.inl ⟨rfl, p, cap, rfl⟩⟩, b, g.trans b⟩
  · exact ⟨⟨_, _, _, rfl, Or.inr ⟨b1, off1, cap1, rfl, hn⟩⟩, b, g.trans b⟩
/-- all words of the document's memory -/
theorem rall {X : Nat → Prop} (hR : mm.IsRm X wr q R) (hF : mm.RmFull R) (W : World) (g : Bel wr W) :
    Calls Tryz.prog 15 #[q] W fun e w' => (∃ p n c, e = .returned (.slice p n c) ∧ mm.Ws (fun _ => False) w' (.slice p n c) R.flatten) ∧ Bel W w' ∧ Bel wr w' := by
  refine (mm.rall_any X q R W (hR.bel g) hF).mono ?_
  rintro e w' ⟨⟨lv, rfl, hO⟩, b⟩
  have hw := hO.ws (X := fun _ => False) fun _ _ _ h => h
  rcases hw with ⟨e0, p, cap, rfl⟩ | ⟨b1, off1, cap1, rfl, hn⟩
  · exact ⟨⟨p, 0, cap, rfl, by rw [e0]; exact Or.inl ⟨rfl, p, cap, rfl⟩⟩, b, g.trans b⟩
  · exact ⟨⟨_, _, _, rfl, Or.inr ⟨b1, off1, cap1, rfl, hn⟩⟩, b, g.trans b⟩
theorem Lp.all (h : Lp w5 wr v mv lo hi top Bq R t P q x0 x1 x2 x3 x4 x5 x6) (W : World) (g : Bel wr W) :
    Calls Tryz.prog 14 #[mv] W fun e w' => (∃ p n c, e = .returned (.slice p n c) ∧ mm.Ws (fun _ => False) w' (.slice p n c) R.flatten) ∧ Bel W w' ∧ Bel wr w' := pall h.im.1 h.im.2 W g
theorem Lp.rall (h : Lp w5 wr v mv lo hi top Bq R t P q x0 x1 x2 x3 x4 x5 x6) (W : World) (g : Bel wr W) :
    Calls Tryz.prog 15 #[.agg #[x0]] W fun e w' => (∃ p n c, e = .returned (.slice p n c) ∧ mm.Ws (fun _ => False) w' (.slice p n c) R.flatten) ∧ Bel W w' ∧ Bel wr w' := by
  obtain ⟨rv, Lv, Fv, Mv, p, cap, e, h1, h2, h3⟩ := h.doc
  rw [h.val] at e
  injection e with e
  injection e with e
  simp only [List.cons.injEq, and_true] at e
  rw [e.1]
  exact Go.Proofs.YthokalcibjjihaaGreatDoor.rall h1 h.mem.ok.full W g

theorem Lp.ramx (h : Lp w5 wr v mv lo hi top Bq R t P q x0 x1 x2 x3 x4 x5 x6) : mm.IsRm (fun k => Own lo hi k ∨ k = Bq) wr (.agg #[x0]) R := by
  obtain ⟨rv, Lv, Fv, Mv, p, cap, e, h1, h2, h3⟩ := h.doc
  rw [h.val] at e
  injection e with e
  injection e with e
  simp only [List.cons.injEq, and_true] at e
  rw [e.1]
  exact h1

/-! The same for the first tenant. -/
theorem Lp.seven0 (h : Lp w5 wr v mv lo hi top Bq R 0 P q x0 x1 x2 x3 x4 x5 x6) : ∃ pr cr bl ol cl pf cf pm cm p cap, x0 = .slice pr R.length cr ∧ x1 = .int .i64 0 ∧ x2 = .slice (some ⟨bl, ol, none⟩) P.S cl ∧ x3 = .slice pf P.T cf ∧ x4 = .slice pm P.T cm ∧ x5 = .int .i64 (P.W : Nat) ∧ x6 = .slice p P.n cap := h.seven
theorem Mid.seven0 (h : Mid wr wx v lo hi top Bq g R 0 P x0 x1 x2 x3 x4 x5 x6) : ∃ pr cr bl ol cl pf cf pm cm p cap, x0 = .slice pr R.length cr ∧ x1 = .int .i64 0 ∧ x2 = .slice (some ⟨bl, ol, none⟩) P.S cl ∧ x3 = .slice pf P.T cf ∧ x4 = .slice pm P.T cm ∧ x5 = .int .i64 (P.W : Nat) ∧ x6 = .slice p P.n cap := h.seven
theorem shape0 {X : Nat → Prop} {w : World} {v : Value} (h : IsB X w v R 0 P) : ∃ pr cr bl ol cl pf cf pm cm p cap,
    v = .agg #[.slice pr R.length cr, .int .i64 0, .slice (some ⟨bl, ol, none⟩) P.S cl, .slice pf P.T cf, .slice pm P.T cm, .int .i64 (P.W : Nat), .slice p P.n cap] ∧
    (∀ i, i < P.S → Ten w bl (ol + i * 4) (P.cls i : Nat) (P.sz i : Nat) (P.ad i : Nat) (P.pg i : Nat)) ∧ mm.IsRm X w (.agg #[.slice pr R.length cr]) R := by
  obtain ⟨pr, cr, bl, ol, cl, pf, cf, pm, cm, p, cap, e, h1, h2, _⟩ := h.shape
  exact ⟨pr, cr, bl, ol, cl, pf, cf, pm, cm, p, cap, e, h1, h2⟩

theorem Lp.after (h : Lp w5 wr v mv lo hi top Bq R t P q x0 x1 x2 x3 x4 x5 x6) (hE : Exc (Own lo hi) wr w6) (hD : IsD w6 v lo hi top R' t P) : mm.IsMem w6 mv lo hi R' ∧ hi ≤ w6.heap.size := by
  obtain ⟨p, e, c⟩ := h.own
  obtain ⟨_, _, _, po⟩ := h.mem.memv e c
  have k := hD.memv e (cell_exc hE c po)
  exact ⟨k.1, k.2.1⟩
/-- both, all their words: the programs's memory, the document's box -/
theorem alls {X : Nat → Prop} {x : Value} (hD : IsD wr v lo hi top R t P) (hm : mm.IsMem wr mv lo hi R ∧ hi ≤ wr.heap.size) (hR : mm.IsRm X wr x R) :
    (∀ W, Bel wr W → Calls Tryz.prog 14 #[mv] W fun e w' => (∃ p n c, e = .returned (.slice p n c) ∧ mm.Ws (fun _ => False) w' (.slice p n c) R.flatten) ∧ Bel W w' ∧ Bel wr w') ∧
    (∀ W, Bel wr W → Calls Tryz.prog 15 #[x] W fun e w' => (∃ p n c, e = .returned (.slice p n c) ∧ mm.Ws (fun _ => False) w' (.slice p n c) R.flatten) ∧ Bel W w' ∧ Bel wr w') ∧
    (∀ W, Bel wr W → Calls Tryz.prog 10 #[] W fun e w' => e = .returned (.bool true) ∧ Bel wr w') :=
  ⟨fun W g => pall hm.1 hm.2 W g, fun W g => rall hR hD.ok.full W g, fun W g => (awake_any W (hD.tab.bel g)).mono fun e w' ⟨x, y⟩ => (⟨x, g.trans y⟩ : _ ∧ Bel wr w')⟩

/-! Words stored past the body. -/
theorem Bok.store0 (h : Bok P R 0) {u : Nat} (hu : u < 18446744073709551616) (a : Int) : Bok P (storeR R 0 a u) 0 := by
  unfold storeR
  split
  · exact h.set hu _
  · exact h
theorem zero_store {w : World} {g : Nat} {t : TypeId} (h : w.heap[g]? = some (.cells #[x0, x1, x2, x3, x4, x5, x6] t (0, 0))) (a : Value) :
    ∃ W, w.setCell ⟨g, 0, none⟩ a = W ∧ W.heap[g]? = some (.cells #[a, x1, x2, x3, x4, x5, x6] t (0, 0)) ∧ Exc (fun k => k = g) w W :=
  ⟨_, rfl, by have := heap_setCell_same w g 0 _ t a h; simpa using this, mm.exc_set w g 0 a⟩
theorem IsD.poke {w w' : World} {p : Addr} (h : IsD w v lo hi top R t P) (e : v = .pointer (some p)) (c : w.cell? p = some mv) (g : Exc (Own lo hi) w w') (hm : mm.IsMem w' mv lo hi R') (ok' : Bok P R' t) : IsD w' v lo hi top R' t P := by
  obtain ⟨b, mp, pb, pg, off, cap, e2, hb, bs, n, l0, hp, hm0, hT, ok⟩ := h
  rw [e] at e2
  injection e2 with e2
  injection e2 with e2
  subst e2
  have k := (box3 hb).1
  rw [c] at k
  injection k with k
  subst k
  rw [e]
  exact IsD.wrote hb bs n l0 hp hT g hm ok'
theorem Lp.poke {w8 : World} (h : Lp w5 wr v mv lo hi top Bq R t P q x0 x1 x2 x3 x4 x5 x6) (hE : Exc (Own lo hi) wr w6) (hm : mm.IsMem w6 mv lo hi R') (ok' : Bok P R' t) (g7 : Bel w6 w7)
    (hr : mm.IsRm (fun k => Own lo hi k ∨ k = Bq) w7 (.agg #[y0]) R') (hb : w8.heap[Bq]? = some (.cells #[y0, x1, x2, x3, x4, x5, x6] 36 (0, 0))) (e8 : Exc (fun k => k = Bq) w7 w8) :
    Lp w5 w8 v mv lo hi top Bq R' t P (.agg #[y0, x1, x2, x3, x4, x5, x6]) y0 x1 x2 x3 x4 x5 x6 := by
  obtain ⟨p, e, c⟩ := h.own
  obtain ⟨_, _, pt, po⟩ := h.mem.memv e c
  have hb' := h.bq
  have E8 : Exc (fun k => Own lo hi k ∨ k = Bq) wr w8 := ((hE.mono fun k hk => Or.inl hk).trans g7.exc).trans (e8.mono fun k hk => Or.inr hk)
  have hd := h.doc.exc E8
  have hv := h.val
  subst hv
  obtain ⟨rv, Lv, Fv, Mv, p', cap, e', h1, h2, h3⟩ := hd
  injection e' with e'
  injection e' with e'
  simp only [List.cons.injEq, and_true] at e'
  obtain ⟨_, f1, f2, f3, f4, f5, f6⟩ := e'
  exact ⟨(((h.mem.poke e c hE hm ok').bel g7).exc e8 fun k hk => by omega), ⟨p, e, cell_exc e8 (cell_bel g7 (cell_exc hE c po)) (by omega)⟩, hb, rfl,
    ⟨y0, Lv, Fv, Mv, p', cap, by rw [f1, f2, f3, f4, f5, f6], hr.exc (e8.mono fun k hk => Or.inr hk), h2, h3⟩, h.exc.trans E8, h.bq⟩
/-- a word of a slice of words -/
theorem word_at {X : Nat → Prop} {w : World} {p : Option Addr} {n cap : Nat} {l : List Nat} (h : mm.Ws X w (.slice p n cap) l) {j : Nat} (hj : j < n) :
    ∃ b off u, p = some ⟨b, off, none⟩ ∧ l[j]? = some u ∧ b < w.heap.size ∧ w.cell? ⟨b, off + j, none⟩ = some (.int .u64 (u : Nat)) := by
  rcases h with ⟨rfl, p', cap', e⟩ | ⟨b, off, cap', e, h2, h3, h4, h5, h6⟩
  · injection e with e1 e2 e3
    omega
  · injection e with e1 e2 e3
    have c := h6 j l[j] (List.getElem?_eq_getElem (by omega))
    exact ⟨b, off, l[j], e1, List.getElem?_eq_getElem (by omega), (cell_block c).1, c⟩
theorem words_slice {X : Nat → Prop} {w : World} {v : Value} {l : List Nat} (h : mm.Ws X w v l) : ∃ p n cap, v = .slice p n cap ∧ n = l.length ∧ n ≤ 9223372036854775807 := by
  rcases h with ⟨rfl, p, cap, rfl⟩ | ⟨b, off, cap, rfl, h2, h3, h4, h5, h6⟩
  · exact ⟨p, 0, cap, rfl, rfl, by omega⟩
  · exact ⟨_, _, _, rfl, rfl, by omega⟩

end Go.Proofs.YthokalcibjjihaaGreatDoor
