/-
  Binds: what a press tells (pure).
  Binds, the statement's play: both sides beside one another.
-/
import Derived.Test.YtbonnjilbocldaaGreatDoorHN
import Derived.Test.YtbonnjilbocldaaGreatDoorIK
namespace Go.Proofs.YtbonnjilbocldaaGreatDoor
open Go.RowKit
set_option linter.unusedVariables false
set_option maxRecDepth 100000

/-- The line that Find tells. -/
def fndL (D : DataW Unit) (t : ByteArray) (c m : Int) : ByteArray := if Maps.has D (slotK t.data.toList c m) then (getS D (slotK t.data.toList c m)).1 else ⟨#[]⟩
/-- What a press tells: where it stands then, a line, is it the pane's. -/
structure Prs (D : DataW Unit) (t : ByteArray) (u p q c m tick rep : Int) (xt : ByteArray) (xu : Int) (ln : ByteArray) (pn : Bool) : Prop where
  eq : pressV D t u p q c m tick rep = #[.agg #[.string xt, .int .i64 xu], .string ln, .bool pn]
  small : xt.size ≤ 6
  pane : pn = true → (t = ⟨#[]⟩ ∨ 0 < u) ∧ ¬ (c = p ∧ m = q) ∧ Maps.has D (slotK rootS.data.toList c m) = false ∧ ln = ⟨#[]⟩ ∧ xt = ⟨#[]⟩ ∧ xu = 0
  line : ln = ⟨#[]⟩ ∨ ln = fndL D rootS c m ∨ ln = fndL D t c m ∨ ln = sendS ∧ c = p ∧ m = q
theorem open_of (tick rep : Int) : ∃ a u, openV tick rep = .agg #[.string a, .int .i64 u] ∧ a.size ≤ 6 := by
  unfold openV restV walkV
  split
  · exact ⟨_, _, rfl, by decide⟩
  · split
    · exact ⟨_, _, rfl, by decide⟩
    · exact ⟨_, _, rfl, by decide⟩
theorem press_is (D : DataW Unit) (t : ByteArray) (u p q c m tick rep : Int) : ∃ xt xu ln pn, Prs D t u p q c m tick rep xt xu ln pn := by
  by_cases h0 : fellB D t u c m tick = true ∨ t = ⟨#[]⟩
  · have hp : t = ⟨#[]⟩ ∨ 0 < u := by
      rcases h0 with h | h
      · unfold fellB at h
        simp only [Bool.and_eq_true, decide_eq_true_eq] at h
        exact .inr h.1.2
      · exact .inl h
    have hE : pressV D t u p q c m tick rep = resV D p q c m := by unfold pressV; rw [if_pos h0]
    by_cases h1 : c = p ∧ m = q
    · exact ⟨prefixS, 0, ⟨#[]⟩, false, by rw [hE]; unfold resV; rw [if_pos h1]; rfl, by decide, (fun h => by cases h), .inl rfl⟩
    · by_cases h2 : Maps.has D (slotK rootS.data.toList c m) = true
      · exact ⟨⟨#[]⟩, 0, (getS D (slotK rootS.data.toList c m)).1, false, by rw [hE]; unfold resV; rw [if_neg h1, if_pos h2]; rfl, by decide, (fun h => by cases h), .inr (.inl (by unfold fndL; rw [if_pos h2]))⟩
      · exact ⟨⟨#[]⟩, 0, ⟨#[]⟩, true, by rw [hE]; unfold resV; rw [if_neg h1, if_neg h2]; rfl, by decide, fun _ => ⟨hp, h1, by simpa using h2, rfl, rfl, rfl⟩, .inl rfl⟩
  · have hE : pressV D t u p q c m tick rep = (insV D t p q c m tick rep).push (.bool false) := by unfold pressV; rw [if_neg h0]
    by_cases h1 : Maps.has D (slotK t.data.toList c m) = true
    · by_cases h2 : (getS D (slotK t.data.toList c m)).2 = true ∧ t = prefixS
      · obtain ⟨a, v, e, ha⟩ := open_of tick rep
        exact ⟨a, v, (getS D (slotK t.data.toList c m)).1, false, by rw [hE]; unfold insV inV; rw [if_pos h1, if_pos h2, e]; rfl, ha, (fun h => by cases h), .inr (.inr (.inl (by unfold fndL; rw [if_pos h1])))⟩
      · exact ⟨⟨#[]⟩, 0, (getS D (slotK t.data.toList c m)).1, false, by rw [hE]; unfold insV inV; rw [if_pos h1, if_neg h2]; rfl, by decide, (fun h => by cases h), .inr (.inr (.inl (by unfold fndL; rw [if_pos h1])))⟩
    · by_cases h2 : t = prefixS ∧ c = p ∧ m = q
      · exact ⟨⟨#[]⟩, 0, sendS, false, by rw [hE]; unfold insV inV; rw [if_neg h1, if_pos h2]; rfl, by decide, (fun h => by cases h), .inr (.inr (.inr ⟨rfl, h2.2⟩))⟩
      · exact ⟨⟨#[]⟩, 0, ⟨#[]⟩, false, by rw [hE]; unfold insV inV; rw [if_neg h1, if_neg h2]; rfl, by decide, (fun h => by cases h), .inl rfl⟩
/-- Find, by what stands there. -/
theorem find_is {w : World} {d b n : Nat} {D : DataW Unit} (h : Tb w d b n D) (t : ByteArray) (c m : Int) (ht : t.size ≤ 140737488355328) (hc : (Lit.int .i64 c).wf = true) (hm : (Lit.int .i64 m).wf = true) :
    Calls Tryz.prog 14 #[.pointer (some ⟨d, 0, none⟩), .string t, .agg #[.int .i64 c, .int .i64 m]] w fun e w' => (∃ ft fc fm fr, e = .returned (.tuple #[.agg #[.string ft, .int .i64 fc, .int .i64 fm, .bool fr, .string (fndL D t c m)], .bool (Maps.has D (slotK t.data.toList c m))]) ∧ (Maps.has D (slotK t.data.toList c m) = true → ft = t ∧ fc = c ∧ fm = m ∧ D.atKey (slotK t.data.toList c m) zeroD = meanD (fndL D t c m) fr)) ∧ Below w.heap.size w w' := by
  refine (find_any h t c m ht hc hm).mono fun e w' hp => ⟨?_, hp.2⟩
  obtain ⟨s, r, hat, rfl⟩ := hp.1
  unfold foundV fndL bindV
  rw [getS_of hat]
  cases hh : Maps.has D (slotK t.data.toList c m)
  · exact ⟨_, _, _, _, rfl, fun q => by cases q⟩
  · exact ⟨_, _, _, _, rfl, fun _ => ⟨rfl, rfl, rfl, hat⟩⟩
end Go.Proofs.YtbonnjilbocldaaGreatDoor

namespace Go.Proofs.YtbonnjilbocldaaGreatDoor
open Go.RowKit
set_option linter.unusedVariables false
set_option maxRecDepth 100000

/-- Steps that can be read. -/
def SeeS (w : World) (v : Value) (l : List Stp) : Prop := ∃ ad cp, v = .slice ad l.length cp ∧ (l ≠ [] → ∃ g o, ad = some ⟨g, o, none⟩ ∧ ∀ j (hj : j < l.length) (c : Nat) u, (encS l[j])[c]? = some u → w.cell? ⟨g, o + j * 7 + c, none⟩ = some u)
theorem num_any (k : Int) (w : World) : Calls Tryz.prog 10 #[.int .i64 k] w fun e w' => e = .returned (.int .i64 k) ∧ w = w' := by
  go_enter Tryz.func10, Tryz.ntmps10
  go_wp2
  go_ret
  exact ⟨rfl, rfl⟩
theorem bind_code {w : World} {d b n : Nat} {D : DataW Unit} (h : Tb w d b n D) (hn : n ≤ 1000000) (e : Ent) (hw : e.wf) (hl : e.ln.size ≤ 140737488355328) :
    Calls Tryz.prog 11 #[.pointer (some ⟨d, 0, none⟩), .agg #[.string e.t, .int .i64 e.c, .int .i64 e.m, .bool e.rp, .string e.ln]] w fun x w' => x = .returned (.int .i64 (bndC D e)) ∧ Tn w w' d b (n + 1) (bndD D e.t e.c e.m e.rp e.ln) := by
  refine (bind_any h hn e.t e.ln e.c e.m e.rp hw.1 hl hw.2.1 hw.2.2).mono fun x w' hp => ?_
  have hk : slotK e.t.data.toList e.c e.m = e.k := rfl
  unfold bndP at hp
  unfold bndC bndD
  rw [hk] at hp ⊢
  by_cases h1 : wordB e.t = false
  · rw [if_pos h1] at hp
    rw [if_pos h1, if_pos (.inl h1)]
    exact ⟨hp.1, Tn.of h hp.2⟩
  · rw [if_neg h1] at hp
    rw [if_neg h1]
    by_cases h2 : validB e.c e.m = false
    · rw [if_pos h2] at hp
      rw [if_pos h2, if_pos (.inr (.inl h2))]
      exact ⟨hp.1, Tn.of h hp.2⟩
    · rw [if_neg h2] at hp
      rw [if_neg h2]
      by_cases h3 : 8192 < e.ln.size
      · rw [if_pos h3] at hp
        rw [if_pos h3, if_pos (.inr (.inr (.inl h3)))]
        exact ⟨hp.1, Tn.of h hp.2⟩
      · rw [if_neg h3] at hp
        rw [if_neg h3]
        by_cases h4 : Maps.has D e.k = false ∧ 200 ≤ Maps.size D
        · rw [if_pos h4] at hp
          rw [if_pos h4, if_pos (.inr (.inr (.inr h4)))]
          exact ⟨hp.1, Tn.of h hp.2⟩
        · rw [if_neg h4] at hp
          rw [if_neg h4, if_neg (by rintro (q | q | q | q); exact h1 q; exact h2 q; exact h3 q; exact h4 q)]
          exact ⟨hp.1, hp.2⟩
theorem unbind_code {w : World} {d b n : Nat} {D : DataW Unit} (h : Tb w d b n D) (e : Ent) (hw : e.wf) :
    Calls Tryz.prog 13 #[.pointer (some ⟨d, 0, none⟩), .string e.t, .agg #[.int .i64 e.c, .int .i64 e.m]] w fun x w' => x = .returned (.int .i64 (if Maps.has D e.k then 0 else 220)) ∧ Tn w w' d b (n + 1) (if Maps.has D e.k then D.del e.k else D) := by
  refine (unbind_any h e.t e.c e.m hw.1 hw.2.1 hw.2.2).mono fun x w' hp => ?_
  have hk : slotK e.t.data.toList e.c e.m = e.k := rfl
  unfold unbP at hp
  rw [hk] at hp
  cases hh : Maps.has D e.k
  · rw [hh] at hp
    exact ⟨hp.1, Tn.of h hp.2⟩
  · rw [hh] at hp
    exact ⟨hp.1, ⟨hp.2.tb.mono (Nat.le_succ _), hp.2.but⟩⟩
theorem SeeE.but {w w' : World} {d b n : Nat} {D : DataW Unit} (h : Tb w d b n D) {v : Value} {l : List Ent} (hv : SeeE w v l) (hb : But [b] w w') : SeeE w' v l := by
  obtain ⟨a, c, rfl, hc⟩ := hv
  refine ⟨a, c, rfl, fun hne => ?_⟩
  obtain ⟨g, o, rfl, hcell⟩ := hc hne
  refine ⟨g, o, rfl, fun j hj c u hu => ?_⟩
  have h1 := hcell j hj c u hu
  refine hb.cellB (fun e => ?_) h1
  obtain ⟨es, clock, hm, _⟩ := h.own
  rw [e] at h1
  unfold World.cell? at h1
  rw [hm] at h1
  cases h1
/-- A step of both sides, and what is behind it. -/
structure Pl (w wr : World) (q B e z x : Nat) (p1 p2 rep : Int) (ov : Value) (D : DataW Unit) (n : Nat) (L : List Ent) (a : Option Addr) (m c : Nat) (t : ByteArray) (u : Int) : Prop where
  tb : Tb wr (B + 1) B n D
  dc : Dc D L
  cse : wr.heap[q]? = some (.cells #[.int .i64 p1, .int .i64 p2, .int .i64 rep, ov] 26 (0, 0))
  box : wr.heap[e]? = some (.cells #[.slice a m c] 33 (0, 0))
  see : SeeE wr (.slice a m c) L
  wbx : wr.heap[z]? = some (.cells #[.string t, .int .i64 u] 36 (0, 0))
  xbx : wr.heap[x]? = some (.cells #[.string t, .int .i64 u] 37 (0, 0))
  below : Below w.heap.size w wr
  small : t.size ≤ 6
  lo : w.heap.size ≤ q ∧ q < B ∧ B + 1 < e ∧ B + 1 < z ∧ B + 1 < x
theorem Pl.more {w wr Y : World} {q B e z x : Nat} {p1 p2 rep : Int} {ov : Value} {D : DataW Unit} {n : Nat} {L : List Ent} {a : Option Addr} {m c : Nat} {t : ByteArray} {u : Int} (h : Pl w wr q B e z x p1 p2 rep ov D n L a m c t u) (hb : Below wr.heap.size wr Y) : Pl w Y q B e z x p1 p2 rep ov D n L a m c t u :=
  ⟨h.tb.more hb, h.dc, kp hb h.cse, kp hb h.box, h.see.below hb, kp hb h.wbx, kp hb h.xbx, below_step h.below hb, h.small, h.lo⟩
theorem Pl.mono {w wr : World} {q B e z x : Nat} {p1 p2 rep : Int} {ov : Value} {D : DataW Unit} {n n' : Nat} {L : List Ent} {a : Option Addr} {m c : Nat} {t : ByteArray} {u : Int} (h : Pl w wr q B e z x p1 p2 rep ov D n L a m c t u) (hn : n ≤ n') : Pl w wr q B e z x p1 p2 rep ov D n' L a m c t u :=
  ⟨h.tb.mono hn, h.dc, h.cse, h.box, h.see, h.wbx, h.xbx, h.below, h.small, h.lo⟩
/-- The program's tables have turned, and the document's are stored. -/
theorem Pl.turn {w wr Y : World} {q B e z x : Nat} {p1 p2 rep : Int} {ov : Value} {D D' : DataW Unit} {n n' : Nat} {L L' : List Ent} {a a' : Option Addr} {m c m' c' : Nat} {t : ByteArray} {u : Int} (h : Pl w wr q B e z x p1 p2 rep ov D n L a m c t u) (ht : Tn wr Y (B + 1) B n' D') (hd : Dc D' L') (hs : SeeE wr (.slice a' m' c') L') : Pl w (Y.setCell ⟨e, 0, none⟩ (.slice a' m' c')) q B e z x p1 p2 rep ov D' n' L' a' m' c' t u := by
  have hlo := h.lo
  have kb : ∀ {g : Nat} {o : Obj}, wr.heap[g]? = some o → g ≠ B → Y.heap[g]? = some o := fun {g o} h1 h2 => (ht.but.block g (lt_block h1) (by simpa using h2)).trans h1
  have hx := kb h.box (by omega)
  have e1 := kind_ne h.cse h.box (by decide)
  have e2 := kind_ne h.wbx h.box (by decide)
  have e3 := kind_ne h.xbx h.box (by decide)
  refine ⟨⟨put_other ht.tb.blk (by omega) _ _, own_same ht.tb.own (put_other rfl (by omega) _ _), ht.tb.short⟩, hd, put_other (kb h.cse (by omega)) e1 _ _, put_at hx 0 _, (SeeE.but h.tb hs ht.but).set1 hx _, put_other (kb h.wbx (by omega)) e2 _ _, put_other (kb h.xbx (by omega)) e3 _ _, (ht.below h.below (by omega)).setCell (by simp; omega) _, h.small, h.lo⟩
theorem Pl.go {w wr : World} {q B e z x : Nat} {p1 p2 rep : Int} {ov : Value} {D : DataW Unit} {n : Nat} {L : List Ent} {a : Option Addr} {m c : Nat} {t : ByteArray} {u : Int} (h : Pl w wr q B e z x p1 p2 rep ov D n L a m c t u) {Y : World} {t' : ByteArray} {u' : Int} (hs : t'.size ≤ 6)
    (hk : ∀ g, g ≠ z → g ≠ x → Y.heap[g]? = wr.heap[g]?) (hz : Y.heap[z]? = some (.cells #[.string t', .int .i64 u'] 36 (0, 0))) (hx : Y.heap[x]? = some (.cells #[.string t', .int .i64 u'] 37 (0, 0))) (hb : Below w.heap.size w Y) : Pl w Y q B e z x p1 p2 rep ov D n L a m c t' u' := by
  have hlo := h.lo
  have e1 := kind_ne h.cse h.wbx (by decide)
  have e2 := kind_ne h.box h.wbx (by decide)
  have e3 := kind_ne h.cse h.xbx (by decide)
  have e4 := kind_ne h.box h.xbx (by decide)
  have hcell : SeeE Y (.slice a m c) L := by
    obtain ⟨ad, cp, e, hc⟩ := h.see
    refine ⟨ad, cp, e, fun hne => ?_⟩
    obtain ⟨g, o, e', hcell⟩ := hc hne
    refine ⟨g, o, e', fun j hj k v hv => ?_⟩
    have h1 := hcell j hj k v hv
    have hne2 : ∀ (y : Nat) (T : TypeId) (c0 c1 : Value), wr.heap[y]? = some (.cells #[c0, c1] T (0, 0)) → g ≠ y := fun y T c0 c1 hy e => by
      have h4 := hcell j hj 4 _ rfl
      rw [e, cell_at hy, Array.getElem?_eq_none (by simp)] at h4
      cases h4
    have hh := hk g (hne2 _ _ _ _ h.wbx) (hne2 _ _ _ _ h.xbx)
    unfold World.cell? at h1 ⊢
    rw [hh]
    exact h1
  exact ⟨⟨(hk _ (by omega) (by omega)).trans h.tb.blk, own_same h.tb.own (hk _ (by omega) (by omega)), h.tb.short⟩, h.dc, (hk _ e1 e3).trans h.cse, (hk _ e2 e4).trans h.box, hcell, hz, hx, hb, hs, h.lo⟩
theorem Pl.both {w wr : World} {q B e z x : Nat} {p1 p2 rep : Int} {ov : Value} {D : DataW Unit} {n : Nat} {L : List Ent} {a : Option Addr} {m c : Nat} {t : ByteArray} {u : Int} (h : Pl w wr q B e z x p1 p2 rep ov D n L a m c t u) {t' : ByteArray} {u' : Int} (hs : t'.size ≤ 6) :
    Pl w ((((wr.setCell ⟨z, 0, none⟩ (.string t')).setCell ⟨z, 1, none⟩ (.int .i64 u')).setCell ⟨x, 0, none⟩ (.string t')).setCell ⟨x, 1, none⟩ (.int .i64 u')) q B e z x p1 p2 rep ov D n L a m c t' u' ∧ Pl w ((((wr.setCell ⟨x, 0, none⟩ (.string t')).setCell ⟨x, 1, none⟩ (.int .i64 u')).setCell ⟨z, 0, none⟩ (.string t')).setCell ⟨z, 1, none⟩ (.int .i64 u')) q B e z x p1 p2 rep ov D n L a m c t' u' := by
  have hlo := h.lo
  have e1 := kind_ne h.wbx h.xbx (by decide)
  have hzl : w.heap.size ≤ z := by omega
  have hxl : w.heap.size ≤ x := by omega
  exact ⟨h.go hs (fun g h1 h2 => put_other (put_other (put_other (put_other rfl h1 _ _) h1 _ _) h2 _ _) h2 _ _) (put_other (put_other (two_set h.wbx _ _) e1 _ _) e1 _ _) (two_set (put_other (put_other h.xbx (fun q => e1 q.symm) _ _) (fun q => e1 q.symm) _ _) _ _) ((((h.below.setCell hzl _).setCell hzl _).setCell hxl _).setCell hxl _),
    h.go hs (fun g h1 h2 => put_other (put_other (put_other (put_other rfl h2 _ _) h2 _ _) h1 _ _) h1 _ _) (two_set (put_other (put_other h.wbx e1 _ _) e1 _ _) _ _) (put_other (put_other (two_set h.xbx _ _) (fun q => e1 q.symm) _ _) (fun q => e1 q.symm) _ _) ((((h.below.setCell hxl _).setCell hxl _).setCell hzl _).setCell hzl _)⟩
theorem NamsAt.put1 {w : World} {B g n cap : Nat} {l : List ByteArray} (h : NamsAt w B (.slice (some ⟨g, 0, none⟩) n cap) l) (j : Nat) (s : ByteArray) : NamsAt (w.setCell ⟨g, j, none⟩ (.string s)) B (.slice (some ⟨g, 0, none⟩) n cap) (l.set j s) := by
  obtain ⟨q0, q1⟩ := h
  rcases q1 with ⟨e1, _⟩ | ⟨g', cap', cur, e1, hb, hk, h1, h2, h3, h4⟩
  · cases e1
  · cases e1
    refine ⟨by rw [List.length_map, Nat.mul_one], .inr ⟨g, cap, _, by rw [List.length_set], hb, put_at hk j _, by rw [List.length_set]; exact h1, h2, by simp [h3], ?_⟩⟩
    rw [List.length_set, Array.toList_setIfInBounds, List.take_set, h4, List.map_set]
theorem NamsAt.own1 {w : World} {B n c : Nat} {a : Option Addr} {l : List ByteArray} (h : NamsAt w B (.slice a n c) l) (hn : 0 < n) : n = l.length ∧ ∃ g, a = some ⟨g, 0, none⟩ := by
  rcases h.2 with ⟨e, _⟩ | ⟨g, cap, cur, e, _⟩
  · cases e; omega
  · cases e; exact ⟨rfl, g, rfl⟩
theorem NamsAt.at1 {w : World} {B n c g : Nat} {l : List ByteArray} (h : NamsAt w B (.slice (some ⟨g, 0, none⟩) n c) l) {j : Nat} (hj : j < l.length) : w.cell? ⟨g, j, none⟩ = some (.string l[j]) ∧ w.frozen? ⟨g, j, none⟩ = false ∧ B ≤ g := by
  have h1 := World.ownsRow.cells h (g := g) rfl j (.string l[j]) (by simp)
  rw [addB, Nat.zero_add] at h1
  obtain ⟨h2, cur, hk⟩ := h.blk (g := g) rfl
  exact ⟨h1, free_at hk j, h2⟩
set_option maxHeartbeats 4000000 in
theorem sameTexts_any {w : World} {va vb : Value} {l : List ByteArray} (ha : SeeN w va l) (hb : SeeN w vb l) (hl : l.length ≤ 200) : Calls Tryz.prog 20 #[va, vb] w fun r w' => r = .returned (.bool true) ∧ Below w.heap.size w w' := by
  obtain ⟨aa, ca, rfl, ha⟩ := ha
  obtain ⟨ab, cb, rfl, hb⟩ := hb
  obtain ⟨n, hn⟩ : ∃ n, l.length = n := ⟨_, rfl⟩
  have HN := hidK hn
  rw [hn] at hl
  have HA := hidK ha
  have HB := hidK hb
  rw [hn]
  clear ha hb hn
  go_enter Tryz.func20, Tryz.ntmps20
  go_wp2_with fail
  go_loopw [5] (fun i wr => ∃ k : Nat, k ≤ n ∧ i = .int .i64 (k : Int) ∧ Hid (Below w.heap.size w wr)) (fun i _ => n - (intOf i).toNat)
  case atStart => exact ⟨0, Nat.zero_le _, rfl, Below.refl _ _⟩
  case round =>
    obtain ⟨k, hk, rfl, HBk⟩ := hrel
    by_cases hlt : k < n
    · have hka : k < l.length := by rw [HN.out]; exact hlt
      obtain ⟨g1, o1, rfl, h1⟩ := HA.out (fun e => by rw [e] at hka; simp at hka)
      obtain ⟨g2, o2, rfl, h2⟩ := HB.out (fun e => by rw [e] at hka; simp at hka)
      have p1 := h1 k hka
      have p2 := h2 k hka
      obtain ⟨s, hs⟩ : ∃ s, l[k] = s := ⟨_, rfl⟩
      rw [hs] at p1 p2
      have e1 : wr.cell? ⟨g1, o1 + k, none⟩ = some (.string s) := (HBk.out.cell (World.block_lt_of_cell? _ _ p1)).trans p1
      have e2 : wr.cell? ⟨g2, o2 + k, none⟩ = some (.string s) := (HBk.out.cell (World.block_lt_of_cell? _ _ p2)).trans p2
      have hki : (k : Int) < (n : Int) := by omega
      clear p1 p2 h1 h2 hs hka
      go_wp2_with fail
      go_quiet (fail)
      go_wp2_with fail
      go_roundw
      case rel => exact ⟨k + 1, by omega, by go_num, HBk.out.trans ((below_drewN _ _).mono HBk.out.size)⟩
      case measure => simp [intOf]; omega
    · obtain rfl : k = n := by omega
      go_wp2_with fail
      go_ret
      exact ⟨rfl, HBk.out⟩
end Go.Proofs.YtbonnjilbocldaaGreatDoor
