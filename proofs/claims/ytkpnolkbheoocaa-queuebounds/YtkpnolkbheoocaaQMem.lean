/-
  The queue in memory.
-/
import Derived.Test.YtkpnolkbheoocaaQApp
import Derived.Test.YtkpnolkbheoocaaQPure
import Derived.Test.YtkpnolkbheoocaaProg
namespace Go.Proofs.Ytkpnolkbheoocaa
open Go.RowKit
set_option linter.unusedVariables false
set_option maxRecDepth 100000

/-- A piece: whose it is, how many bytes. -/
structure Pc where
  o : Int × Int
  n : Nat
def pcV (p : Pc) : List Value := [.int .i64 p.o.1, .int .i64 p.o.2, .int .i64 (p.n : Int)]
def pcsV (ps : List Pc) : List Value := ps.flatMap pcV
theorem pcs_len (ps : List Pc) : (pcsV ps).length = ps.length * 3 := by
  induction ps with
  | nil => rfl
  | cons p ps ih => have h : pcsV (p :: ps) = pcV p ++ pcsV ps := rfl; rw [h, List.length_append, ih, List.length_cons]; simp [pcV]; omega
theorem pcs_get {ps : List Pc} {i : Nat} {p : Pc} (h : ps[i]? = some p) : (pcsV ps)[i * 3]? = some (.int .i64 p.o.1) ∧ (pcsV ps)[i * 3 + 1]? = some (.int .i64 p.o.2) ∧ (pcsV ps)[i * 3 + 2]? = some (.int .i64 (p.n : Int)) := by
  induction ps generalizing i with
  | nil => simp at h
  | cons x ps ih =>
    have hc : pcsV (x :: ps) = pcV x ++ pcsV ps := rfl
    cases i with
    | zero =>
      simp at h
      subst h
      rw [hc]
      exact ⟨rfl, rfl, rfl⟩
    | succ i =>
      obtain ⟨h1, h2, h3⟩ := ih (i := i) (by simpa using h)
      have hl : (pcV x).length = 3 := rfl
      rw [hc, List.getElem?_append_right (by omega), List.getElem?_append_right (by omega), List.getElem?_append_right (by omega), hl]
      rw [show (i + 1) * 3 - 3 = i * 3 by omega, show (i + 1) * 3 + 1 - 3 = i * 3 + 1 by omega, show (i + 1) * 3 + 2 - 3 = i * 3 + 2 by omega]
      exact ⟨h1, h2, h3⟩
theorem pcs_drop (ps : List Pc) (j : Nat) : (pcsV ps).drop (j * 3) = pcsV (ps.drop j) := by
  induction j generalizing ps with
  | zero => simp
  | succ j ih =>
    cases ps with
    | nil => simp [pcsV]
    | cons p ps =>
      have hc : pcsV (p :: ps) = pcV p ++ pcsV ps := rfl
      have hl : (pcV p).length = 3 := rfl
      rw [hc, List.drop_succ_cons, ← ih ps, show (j + 1) * 3 = (pcV p).length + j * 3 by omega, List.drop_length_add_append]
theorem pcs_set (ps : List Pc) (i : Nat) (p : Pc) (h : ps[i]? = some p) (m : Nat) : (pcsV ps).set (i * 3 + 2) (.int .i64 (m : Int)) = pcsV (ps.set i ⟨p.o, m⟩) := by
  induction ps generalizing i with
  | nil => simp at h
  | cons x ps ih =>
    have hc : pcsV (x :: ps) = pcV x ++ pcsV ps := rfl
    cases i with
    | zero =>
      simp at h
      subst h
      rfl
    | succ i =>
      have hl : (pcV x).length = 3 := rfl
      rw [hc, List.set_append_right _ _ (by omega), hl, show (i + 1) * 3 + 2 - 3 = i * 3 + 2 by omega, ih i (by simpa using h)]
      rfl
theorem pcs_snoc (ps : List Pc) (p : Pc) : pcsV (ps ++ [p]) = pcsV ps ++ pcV p := by simp [pcsV]

/-- A queue's cells, its bytes, its pieces. -/
structure QRaw (w : World) (b : Nat) (vb vp : Value) (lim : Nat) (cl : Bool) (bs : List UInt8) (ps : List Pc) : Prop where
  cells : w.heap[b]? = some (.cells #[.int .i64 (lim : Int), .bool cl, vb, vp] 53 (0, 0))
  bytes : Row w 5 1 vb bs.length (bs.map bv)
  pieces : Row w 64 3 vp ps.length (pcsV ps)
def foot (b : Nat) (vb vp : Value) : List Nat := b :: (vb.ownBlock.toList ++ vp.ownBlock.toList)
theorem foot_mem {b : Nat} {vb vp : Value} {k : Nat} : k ∈ foot b vb vp ↔ k = b ∨ vb.ownBlock = some k ∨ vp.ownBlock = some k := by simp [foot]

section
variable {w w' : World} {b : Nat} {vb vp : Value} {lim : Nat} {cl : Bool} {bs : List UInt8} {ps : List Pc}
theorem QRaw.c0 (h : QRaw w b vb vp lim cl bs ps) : w.cell? ⟨b, 0, none⟩ = some (.int .i64 (lim : Int)) := cell_atT h.cells 0
theorem QRaw.c1 (h : QRaw w b vb vp lim cl bs ps) : w.cell? ⟨b, 1, none⟩ = some (.bool cl) := cell_atT h.cells 1
theorem QRaw.c2 (h : QRaw w b vb vp lim cl bs ps) : w.cell? ⟨b, 2, none⟩ = some vb := cell_atT h.cells 2
theorem QRaw.c3 (h : QRaw w b vb vp lim cl bs ps) : w.cell? ⟨b, 3, none⟩ = some vp := cell_atT h.cells 3
theorem QRaw.free (h : QRaw w b vb vp lim cl bs ps) (o : Nat) : w.frozen? ⟨b, o, none⟩ = false := free_atT h.cells o
theorem QRaw.bb (h : QRaw w b vb vp lim cl bs ps) : vb.ownBlock ≠ some b := fun hb => by
  obtain ⟨cur, hc⟩ := h.bytes.block hb
  have := hc.symm.trans h.cells
  simp at this
theorem QRaw.bp (h : QRaw w b vb vp lim cl bs ps) : vp.ownBlock ≠ some b := fun hb => by
  obtain ⟨cur, hc⟩ := h.pieces.block hb
  have := hc.symm.trans h.cells
  simp at this
theorem QRaw.ap (h : QRaw w b vb vp lim cl bs ps) {g : Nat} (h1 : vb.ownBlock = some g) (h2 : vp.ownBlock = some g) : False := by
  obtain ⟨cur, hc⟩ := h.bytes.block h1
  obtain ⟨cur', hc'⟩ := h.pieces.block h2
  have := hc.symm.trans hc'
  simp at this
theorem QRaw.keep (h : QRaw w b vb vp lim cl bs ps) (hk : ∀ g ∈ foot b vb vp, w'.heap[g]? = w.heap[g]?) : QRaw w' b vb vp lim cl bs ps :=
  ⟨(hk b (by simp [foot])).trans h.cells, h.bytes.keep (fun g hg => hk g (by simp [foot, hg])), h.pieces.keep (fun g hg => hk g (by simp [foot, hg]))⟩
theorem QRaw.lt (h : QRaw w b vb vp lim cl bs ps) : ∀ g ∈ foot b vb vp, g < w.heap.size := by
  intro g hg
  rcases foot_mem.1 hg with rfl | hg | hg
  · exact lt_of_block h.cells
  · exact h.bytes.lt g hg
  · exact h.pieces.lt g hg
theorem QRaw.below (h : QRaw w b vb vp lim cl bs ps) (hb : Below w.heap.size w w') : QRaw w' b vb vp lim cl bs ps := h.keep fun g hg => hb.block g (h.lt g hg)
theorem QRaw.but (h : QRaw w b vb vp lim cl bs ps) {S : List Nat} (hb : But S w w') (hS : ∀ g ∈ foot b vb vp, g ∉ S) : QRaw w' b vb vp lim cl bs ps := h.keep fun g hg => hb.block g (h.lt g hg) (hS g hg)
theorem QRaw.drew (h : QRaw w b vb vp lim cl bs ps) : QRaw w.drew b vb vp lim cl bs ps := ⟨h.cells, h.bytes, h.pieces⟩
theorem QRaw.drewN (h : QRaw w b vb vp lim cl bs ps) (n : Nat) : QRaw (w.drewN n) b vb vp lim cl bs ps := ⟨h.cells, h.bytes, h.pieces⟩
theorem set_cells {w : World} {b : Nat} {c0 c1 c2 c3 : Value} {t : TypeId} (h : w.heap[b]? = some (.cells #[c0, c1, c2, c3] t (0, 0))) (u : Value) :
    (w.setCell ⟨b, 1, none⟩ u).heap[b]? = some (.cells #[c0, u, c2, c3] t (0, 0)) ∧ (w.setCell ⟨b, 2, none⟩ u).heap[b]? = some (.cells #[c0, c1, u, c3] t (0, 0)) ∧ (w.setCell ⟨b, 3, none⟩ u).heap[b]? = some (.cells #[c0, c1, c2, u] t (0, 0)) :=
  ⟨heap_setCell_same w b 1 _ _ _ h, heap_setCell_same w b 2 _ _ _ h, heap_setCell_same w b 3 _ _ _ h⟩
/-- Closed. -/
theorem QRaw.shut (h : QRaw w b vb vp lim cl bs ps) : QRaw (w.setCell ⟨b, 1, none⟩ (.bool true)) b vb vp lim true bs ps ∧ But (foot b vb vp) w (w.setCell ⟨b, 1, none⟩ (.bool true)) := by
  refine ⟨⟨(set_cells h.cells _).1, h.bytes.keep fun g hg => Below.heap_setCell _ _ _ _ (fun e => ?_), h.pieces.keep fun g hg => Below.heap_setCell _ _ _ _ (fun e => ?_)⟩, But.setCell (But.refl _ _) (.inl (by simp [foot])) _⟩
  · subst e; exact h.bb hg
  · subst e; exact h.bp hg
/-- The bytes' list put in another's place: of this world's own blocks. -/
theorem QRaw.setBytes (h : QRaw w b vb vp lim cl bs ps) {vb' : Value} {bs' : List UInt8} (hr : Row w 5 1 vb' bs'.length (bs'.map bv)) :
    QRaw (w.setCell ⟨b, 2, none⟩ vb') b vb' vp lim cl bs' ps ∧ But [b] w (w.setCell ⟨b, 2, none⟩ vb') := by
  refine ⟨⟨(set_cells h.cells _).2.1, hr.keep fun g hg => Below.heap_setCell _ _ _ _ (fun e => ?_), h.pieces.keep fun g hg => Below.heap_setCell _ _ _ _ (fun e => ?_)⟩, But.setCell (But.refl _ _) (.inl (by simp)) _⟩
  · subst e
    obtain ⟨cur, hc⟩ := hr.block hg
    have := hc.symm.trans h.cells
    simp at this
  · subst e; exact h.bp hg
theorem QRaw.setPieces (h : QRaw w b vb vp lim cl bs ps) {vp' : Value} {ps' : List Pc} (hr : Row w 64 3 vp' ps'.length (pcsV ps')) :
    QRaw (w.setCell ⟨b, 3, none⟩ vp') b vb vp' lim cl bs ps' ∧ But [b] w (w.setCell ⟨b, 3, none⟩ vp') := by
  refine ⟨⟨(set_cells h.cells _).2.2, h.bytes.keep fun g hg => Below.heap_setCell _ _ _ _ (fun e => ?_), hr.keep fun g hg => Below.heap_setCell _ _ _ _ (fun e => ?_)⟩, But.setCell (But.refl _ _) (.inl (by simp)) _⟩
  · subst e; exact h.bb hg
  · subst e
    obtain ⟨cur, hc⟩ := hr.block hg
    have := hc.symm.trans h.cells
    simp at this
end

/-- A queue in memory; F: the blocks that it is made of. -/
def QAt (w : World) (F : List Nat) (b : Nat) (q : Qs) : Prop :=
  ∃ vb vp ps, QRaw w b vb vp q.lim q.cl q.bs ps ∧ (∀ p ∈ ps, 0 < p.n) ∧ spread Pc.o Pc.n ps = q.os ∧ q.Ok ∧ F = foot b vb vp
/-- What a call leaves. -/
def Went (w w' : World) (F : List Nat) (b : Nat) (q : Qs) : Prop := ∃ F', QAt w' F' b q ∧ But F w w' ∧ ∀ k ∈ F', k ∈ F ∨ w.heap.size ≤ k
/-- .. where its bounds are not asked. -/
def QIn (w : World) (F : List Nat) (b : Nat) (q : Qs) : Prop :=
  ∃ vb vp ps, QRaw w b vb vp q.lim q.cl q.bs ps ∧ (∀ p ∈ ps, 0 < p.n) ∧ spread Pc.o Pc.n ps = q.os ∧ F = foot b vb vp
def Went0 (w w' : World) (F : List Nat) (b : Nat) (q : Qs) : Prop := ∃ F', QIn w' F' b q ∧ But F w w' ∧ ∀ k ∈ F', k ∈ F ∨ w.heap.size ≤ k
theorem Went0.ok {w w' : World} {F : List Nat} {b : Nat} {q : Qs} (h : Went0 w w' F b q) (hq : q.Ok) : Went w w' F b q := by
  obtain ⟨F', ⟨vb, vp, ps, h1, h2, h3, h4⟩, h5, h6⟩ := h
  exact ⟨F', ⟨vb, vp, ps, h1, h2, h3, hq, h4⟩, h5, h6⟩
theorem QAt.ok {w : World} {F : List Nat} {b : Nat} {q : Qs} (h : QAt w F b q) : q.Ok := by obtain ⟨_, _, _, _, _, _, h, _⟩ := h; exact h
theorem QAt.keep {w w' : World} {F : List Nat} {b : Nat} {q : Qs} (h : QAt w F b q) (hk : ∀ g ∈ F, w'.heap[g]? = w.heap[g]?) : QAt w' F b q := by
  obtain ⟨vb, vp, ps, h1, h2, h3, h4, rfl⟩ := h
  exact ⟨vb, vp, ps, h1.keep hk, h2, h3, h4, rfl⟩
theorem QAt.lt {w : World} {F : List Nat} {b : Nat} {q : Qs} (h : QAt w F b q) : ∀ g ∈ F, g < w.heap.size := by
  obtain ⟨vb, vp, ps, h1, h2, h3, h4, rfl⟩ := h
  exact h1.lt
theorem QAt.below {w w' : World} {F : List Nat} {b : Nat} {q : Qs} (h : QAt w F b q) (hb : Below w.heap.size w w') : QAt w' F b q := h.keep fun g hg => hb.block g (h.lt g hg)
theorem QAt.drew {w : World} {F : List Nat} {b : Nat} {q : Qs} (h : QAt w F b q) : QAt w.drew F b q := h.keep fun _ _ => rfl
/-- Of which kinds its blocks are. -/
theorem QAt.kind {w : World} {F : List Nat} {b : Nat} {q : Qs} (h : QAt w F b q) {g : Nat} (hg : g ∈ F) : ∃ cs t, w.heap[g]? = some (.cells cs t (0, 0)) ∧ (t = 53 ∨ t = 5 ∨ t = 64) := by
  obtain ⟨vb, vp, ps, h1, h2, h3, h4, rfl⟩ := h
  rcases foot_mem.1 hg with rfl | hg | hg
  · exact ⟨_, _, h1.cells, .inl rfl⟩
  · obtain ⟨cur, hc⟩ := h1.bytes.block hg
    exact ⟨_, _, hc, .inr (.inl rfl)⟩
  · obtain ⟨cur, hc⟩ := h1.pieces.block hg
    exact ⟨_, _, hc, .inr (.inr rfl)⟩
theorem QAt.not_mem {w : World} {F : List Nat} {b : Nat} {q : Qs} (h : QAt w F b q) {g : Nat} {cs : Array Value} {t : TypeId} (hg : w.heap[g]? = some (.cells cs t (0, 0))) (ht : t ≠ 53 ∧ t ≠ 5 ∧ t ≠ 64) : g ∉ F := by
  intro hm
  obtain ⟨cs', t', h1, h2⟩ := h.kind hm
  have h3 := hg.symm.trans h1
  simp only [Option.some.injEq, Obj.cells.injEq] at h3
  obtain ⟨_, rfl, _⟩ := h3
  rcases h2 with h2 | h2 | h2
  · exact ht.1 h2
  · exact ht.2.1 h2
  · exact ht.2.2 h2
theorem QAt.mem {w : World} {F : List Nat} {b : Nat} {q : Qs} (h : QAt w F b q) : b ∈ F := by
  obtain ⟨vb, vp, ps, h1, h2, h3, h4, rfl⟩ := h
  simp [foot]

/-- Texts that can be read. -/
def Strs (w : World) (v : Value) (ls : List (List UInt8)) : Prop :=
  ∃ ad cap, v = .slice ad ls.length cap ∧ ls.length ≤ 8796093022208 ∧ ls.length ≤ cap ∧ cap ≤ 9223372036854775807 ∧ (∀ l ∈ ls, l.length ≤ 9223372036854775807) ∧ (ls ≠ [] → ∃ g o, ad = some ⟨g, o, none⟩ ∧ g < w.heap.size ∧ ∀ i l, ls[i]? = some l → w.cell? ⟨g, o + i, none⟩ = some (.string (str l)))
theorem Strs.keep {w w' : World} {v : Value} {ls : List (List UInt8)} (h : Strs w v ls) (hk : ∀ g, v.ownBlock = some g → g < w.heap.size → w'.heap[g]? = w.heap[g]?) (hs : w.heap.size ≤ w'.heap.size) : Strs w' v ls := by
  obtain ⟨ad, cap, rfl, h1, h2, h3, h4, h5⟩ := h
  refine ⟨ad, cap, rfl, h1, h2, h3, h4, fun hne => ?_⟩
  obtain ⟨g, o, rfl, h6, h7⟩ := h5 hne
  refine ⟨g, o, rfl, by omega, fun i l hl => ?_⟩
  have h8 := hk g rfl h6
  rw [← h7 i l hl]
  simp only [World.cell?, h8]
theorem Strs.below {w w' : World} {v : Value} {ls : List (List UInt8)} (h : Strs w v ls) (hb : Below w.heap.size w w') : Strs w' v ls := h.keep (fun g _ hg => hb.block g hg) hb.size
theorem Strs.but {w w' : World} {S : List Nat} {v : Value} {ls : List (List UInt8)} (h : Strs w v ls) (hb : But S w w') (hS : ∀ g, v.ownBlock = some g → g ∉ S) : Strs w' v ls := h.keep (fun g h1 hg => hb.block g hg (hS g h1)) hb.size
theorem Strs.shape {w : World} {v : Value} {ls : List (List UInt8)} (h : Strs w v ls) : ∃ ad n cap, v = .slice ad n cap ∧ ls.length = n ∧ n ≤ 8796093022208 ∧ (∀ W : World, (∀ g, v.ownBlock = some g → g < w.heap.size → W.heap[g]? = w.heap[g]?) → ∀ (i : Nat) (l : List UInt8), ls[i]? = some l → ∃ g o, ad = some ⟨g, o, none⟩ ∧ g < w.heap.size ∧ l.length ≤ 9223372036854775807 ∧ W.cell? ⟨g, o + i, none⟩ = some (.string (str l))) := by
  obtain ⟨ad, cap, rfl, h1, h2, h3, h4, h5⟩ := h
  refine ⟨ad, _, cap, rfl, rfl, h1, fun W hW i l hl => ?_⟩
  obtain ⟨g, o, rfl, h6, h7⟩ := h5 (fun e => by subst e; simp at hl)
  refine ⟨g, o, rfl, h6, h4 l (List.mem_of_getElem? hl), ?_⟩
  rw [← h7 i l hl]
  simp only [World.cell?, hW g rfl h6]

end Go.Proofs.Ytkpnolkbheoocaa
