/-
  Plans: the reader of a body takes a cell with all that stands below it.
-/
import Derived.Test.YtglncninkocgaabGreatDoorCX
import Derived.Test.YtglncninkocgaabGreatDoorCE
import Derived.Deep.LoopGhost
namespace Go.Proofs.YtglncninkocgaabGreatDoor
open Go.RowKit
set_option linter.unusedVariables false
set_option maxRecDepth 20000

def Rng (n : Int) : Prop := 0 ≤ n ∧ n ≤ 4611686018427387904
structure Box.Fit (b : Box) : Prop where
  x : Rng b.x
  y : Rng b.y
  w : Rng b.w
  h : Rng b.h
mutual
/-- Numbers that can be written, and no split without parts. -/
def Tree.nums : Tree → Prop
  | .leaf b p => b.Fit ∧ Rng p
  | .split b k ts => b.Fit ∧ ts ≠ [] ∧ (k = 2 ∨ k = 3) ∧ numsAll ts
def numsAll : List Tree → Prop
  | [] => True
  | t :: ts => t.nums ∧ numsAll ts
end

/-- A reader, and a cell that is being made. -/
structure RC (w0 W : World) (g : Nat) (rest : List UInt8) (sl : Value) (acc : List CellV) (G : Nat) (vals : Array Value) : Prop where
  rd : RdAt w0 W g rest sl acc
  c : W.heap[G]? = some (.cells vals 36 (0, 0))
  ne : ¬ G = g
  no : ¬ sl.ownBlock = some G
  ge : w0.heap.size ≤ G
theorem RC.below {w0 W W' : World} {g : Nat} {rest : List UInt8} {sl : Value} {acc : List CellV} {G : Nat} {vals : Array Value} (h : RC w0 W g rest sl acc G vals) (hb : Below W.heap.size W W') : RC w0 W' g rest sl acc G vals :=
  ⟨h.rd.below hb, (hb.block G (lt_of_someN h.c)).trans h.c, h.ne, h.no, h.ge⟩
theorem RC.setR {w0 W : World} {g : Nat} {rest m : List UInt8} {sl : Value} {acc : List CellV} {G : Nat} {vals : Array Value} (h : RC w0 W g rest sl acc G vals) : RC w0 (W.setCell ⟨g, 0, none⟩ (.string (str m))) g m sl acc G vals :=
  ⟨h.rd.set, (Below.heap_setCell _ _ _ _ (fun e => h.ne (by simpa using e))).trans h.c, h.ne, h.no, h.ge⟩
theorem RC.setC {w0 W : World} {g : Nat} {rest : List UInt8} {sl : Value} {acc : List CellV} {G : Nat} {vals vals' : Array Value} (h : RC w0 W g rest sl acc G vals) (o : Nat) (v : Value) (hv : vals.setIfInBounds o v = vals') : RC w0 (W.setCell ⟨G, o, none⟩ v) g rest sl acc G vals' := by
  have hlt := lt_of_someN h.c
  have h' : W.heap[G] = .cells vals 36 (0, 0) := by have := h.c; simpa [Array.getElem?_eq_getElem hlt] using this
  have hg := grownBy_set W G o v
  refine ⟨⟨(Below.heap_setCell _ _ _ _ (fun e => h.ne (by simpa using e.symm))).trans h.rd.at_, World.ownsRow.kept h.rd.own hg ?_, h.rd.b.grown hg h.rd.b.size (fun k hk => by cases hk; exact h.ge), h.rd.ge⟩, ?_, h.ne, h.no, h.ge⟩
  · cases hq : sl.ownBlock with
    | none => exact .inl rfl
    | some k => exact .inr fun e => h.no (by rw [hq]; exact e)
  · show (W.heap.modify G _)[G]? = _
    rw [Array.getElem?_eq_getElem (by simpa using hlt), Array.getElem_modify_self, h', ← hv]
    rfl
theorem RC.cell {w0 W : World} {g : Nat} {rest : List UInt8} {sl : Value} {acc : List CellV} {G : Nat} {vals : Array Value} (h : RC w0 W g rest sl acc G vals) (o : Nat) : W.cell? ⟨G, o, none⟩ = vals[o]? ∧ W.frozen? ⟨G, o, none⟩ = false := by
  have h1 := h.c
  exact ⟨by simp [World.cell?, h1], by simp [World.frozen?, h1]⟩
theorem RdAt.withC {w0 W : World} {g : Nat} {rest : List UInt8} {sl : Value} {acc : List CellV} (h : RdAt w0 W g rest sl acc) (vals : Array Value) : RC w0 (W.alloc (.cells vals 36)) g rest sl acc W.heap.size vals := by
  have hlt := h.lt
  refine ⟨h.below ((Below.refl _ _).alloc (Nat.le_refl _) _), (MapKept.heap_alloc W _).1, by omega, fun e => ?_, h.b.size⟩
  have := (World.ownsRow.lt h.own _ e).2
  omega
/-- Behind the append of a cell. -/
theorem RC.app {w0 W w2 : World} {g : Nat} {rest : List UInt8} {sl v2 : Value} {acc : List CellV} {G : Nat} {vals : Array Value} {e : CellV} {o : Obj} (h : RC w0 W g rest sl acc G vals) (h2 : CeOwns w2 (g + 1) v2 (acc ++ [e])) (h3 : (W.drew.alloc o).grownBy w2 sl.ownBlock) :
    (w2.cell? ⟨g, 1, none⟩ = some sl ∧ w2.frozen? ⟨g, 1, none⟩ = false) ∧ RdAt w0 (w2.setCell ⟨g, 1, none⟩ v2) g rest v2 (acc ++ [e]) := by
  have hr := h.rd.below (((Below.refl W.heap.size W).drew).alloc (Nat.le_refl _) o)
  have hne : ¬ some g = sl.ownBlock := fun e => by have := (World.ownsRow.lt h.rd.own g e.symm).1; omega
  have hat : w2.heap[g]? = some (.cells #[.string (str rest), sl] 69 (0, 0)) := (h3.block g hr.lt hne).trans hr.at_
  have hlt := lt_of_someN hat
  have h' : w2.heap[g] = .cells #[.string (str rest), sl] 69 (0, 0) := by simpa [Array.getElem?_eq_getElem hlt] using hat
  have hb : Below w0.heap.size w0 w2 := hr.b.grown h3 hr.b.size (fun k hk => by have := (World.ownsRow.lt h.rd.own k hk).1; have := h.rd.ge; omega)
  have hg := grownBy_set w2 g 1 v2
  refine ⟨⟨by simp [World.cell?, hat], by simp [World.frozen?, hat]⟩, ?_, World.ownsRow.kept h2 hg ?_, hb.grown hg hb.size (fun k hk => by cases hk; exact h.rd.ge), h.rd.ge⟩
  · show (w2.heap.modify g _)[g]? = _
    rw [Array.getElem?_eq_getElem (by simpa using hlt), Array.getElem_modify_self, h']
    rfl
  · cases hv : v2.ownBlock with
    | none => exact .inl rfl
    | some k =>
      refine .inr fun e => ?_
      cases e
      have := (World.ownsRow.lt h2 g hv).1
      omega

theorem ce_slice {w : World} {B : Nat} {v : Value} {l : List CellV} (h : CeOwns w B v l) : ∃ a n c, v = .slice a n c := by
  rcases h.2 with ⟨h, _⟩ | ⟨q, cp, cu, h, _⟩
  · exact ⟨_, _, _, h⟩
  · exact ⟨_, _, _, h⟩

def CellOk (w0 : World) (t : Tree) : Prop := ∀ (W : World) (g : Nat) (m : List UInt8) (sl : Value) (acc : List CellV) (d : Int), 0 ≤ d → d + t.size ≤ 1000 → (t.text ++ m).length ≤ 2048 → acc.length + t.size ≤ 1000 → NoDig m → RdAt w0 W g (t.text ++ m) sl acc →
  Calls Tryz.prog 35 #[.pointer (some ⟨g, 0, none⟩), .int .i64 d] W fun e w' => e = .returned (.tuple #[]) ∧ ∃ sl', RdAt w0 w' g m sl' (acc ++ t.tell d)
def PartsOk (w0 : World) (ts : List Tree) (sh : UInt8) : Prop := ∀ (W : World) (g : Nat) (m : List UInt8) (sl : Value) (acc : List CellV) (d : Int), 0 ≤ d → d + sizes ts ≤ 1000 → ((moreT ts).tail ++ sh :: m).length ≤ 2048 → acc.length + sizes ts ≤ 1000 → RdAt w0 W g ((moreT ts).tail ++ sh :: m) sl acc →
  Calls Tryz.prog 49 #[.pointer (some ⟨g, 0, none⟩), .int .i64 d, .int .u8 sh.toNat] W fun e w' => e = .returned (.tuple #[]) ∧ ∃ sl', RdAt w0 w' g m sl' (acc ++ tellAll ts d)

theorem noDig_cons {c : UInt8} {m : List UInt8} (h : digB c = false) : NoDig (c :: m) := fun c' r e => by cases e; exact h
theorem noDig_more (ts : List Tree) (sh : UInt8) (m : List UInt8) (h : digB sh = false) : NoDig (moreT ts ++ sh :: m) := by
  cases ts with
  | nil => exact noDig_cons h
  | cons t ts => exact noDig_cons (by decide)

set_option maxHeartbeats 4000000 in
theorem parts_ok (w0 : World) (ts : List Tree) (sh : UInt8) (hs : digB sh = false) (hs44 : ¬ (sh.toNat : Int) = 44) (hne : ts ≠ []) (hc : ∀ t ∈ ts, CellOk w0 t) : PartsOk w0 ts sh := by
  intro W g m sl acc d hd0 hd1 hl ha hR
  cases ts with
  | nil => exact absurd rfl hne
  | cons t ts =>
    have e1 : (moreT (t :: ts)).tail ++ sh :: m = t.text ++ (moreT ts ++ sh :: m) := by
      show (t.text ++ moreT ts) ++ sh :: m = _
      rw [List.append_assoc]
    have hz : sizes (t :: ts) = t.size + sizes ts := rfl
    rw [e1] at hR hl
    rw [hz] at hd1 ha
    have HF : Hid (Calls Tryz.prog 35 #[.pointer (some ⟨g, 0, none⟩), .int .i64 d] W fun e w' => e = .returned (.tuple #[]) ∧ ∃ sl', RdAt w0 w' g (moreT ts ++ sh :: m) sl' (acc ++ t.tell d)) := hc t (List.mem_cons_self ..) W g _ sl acc d hd0 (by omega) hl (by omega) (noDig_more ts sh m hs) hR
    have HC : Hid (∀ t' ∈ ts, CellOk w0 t') := fun t' h' => hc t' (List.mem_cons_of_mem _ h')
    have HLen : Hid ((acc ++ t.tell d).length + sizes ts ≤ 1000) := by show _ ≤ _; rw [List.length_append, t.tell_length]; omega
    have HL2 : Hid ((moreT ts ++ sh :: m).length ≤ 2048) := by show _ ≤ _; rw [List.length_append] at hl; omega
    have HT : Hid (acc ++ tellAll (t :: ts) d = (acc ++ t.tell d) ++ tellAll ts d) := by show acc ++ (t.tell d ++ tellAll ts d) = _; rw [List.append_assoc]
    have HD : Hid (d + sizes ts ≤ 1000) := by show _ ≤ _; omega
    rw [HT.out]
    obtain ⟨ac, hac⟩ : ∃ ac, acc ++ t.tell d = ac := ⟨_, rfl⟩
    rw [hac] at HF HLen ⊢
    clear hR hc hne hl ha hd1 e1 hz hac HT
    have hb44 : (44 : UInt8).toNat = 44 := rfl
    go_enter Tryz.func49, Tryz.ntmps49
    go_wp2_with (go_at_call 35; refine HF.out.mono ?_; rintro e w1 ⟨rfl, s1, h1⟩; have H1 := hidden h1; clear h1)
    go_loopg [10] ts.length (fun gg v wr => ∃ (us : List Tree) (ax : List CellV) (sx : Value), gg = us.length ∧ Hid (RdAt w0 wr g (moreT us ++ sh :: m) sx ax) ∧ Hid (ax ++ tellAll us d = ac ++ tellAll ts d) ∧ Hid (∀ t' ∈ us, CellOk w0 t') ∧ Hid (ax.length + sizes us ≤ 1000) ∧ Hid ((moreT us ++ sh :: m).length ≤ 2048) ∧ Hid (d + sizes us ≤ 1000))
    case atStart => exact ⟨ts, ac, s1, rfl, H1, rfl, HC, HLen, HL2, HD⟩
    case round =>
      obtain ⟨us, ax, sx, rfl, R1, R2, R3, R4, R5, R6⟩ := hrel
      clear H1 HF HC HLen HL2 HD
      cases us with
      | nil =>
        have HX : Hid (Calls Tryz.prog 48 #[.pointer (some ⟨g, 0, none⟩)] wr fun e w' => e = .returned (.int .u8 sh.toNat) ∧ RdAt w0 w' g m sx (ac ++ tellAll ts d)) := by
          have h5 := R5.out
          simp only [moreT, List.nil_append, List.length_cons] at h5
          refine (next_ok w0 wr g sh m sx ax R1.out (by omega)).mono ?_
          rintro e w' ⟨rfl, rfl⟩
          refine ⟨rfl, ?_⟩
          have h2 := R2.out
          simp only [tellAll, List.append_nil] at h2
          rw [← h2]
          exact R1.out.set
        clear R1 R2 R3 R4 R5 R6
        go_wp2_with (go_at_call 48; refine HX.out.mono ?_; rintro e w2 ⟨rfl, h2⟩; have H2 := hidden h2; clear h2)
        all_goals first | go_end0 | exact ⟨rfl, .tuple #[], (by simp [results, Tryz.results49, go_sem]), rfl, _, H2.out⟩ | refine bodyPost_ret (results_none rfl _ _ _) rfl ?_
        all_goals exact ⟨rfl, _, H2.out⟩
      | cons u us =>
        have HX : Hid (Calls Tryz.prog 48 #[.pointer (some ⟨g, 0, none⟩)] wr fun e w' => e = .returned (.int .u8 44) ∧ RdAt w0 w' g (u.text ++ (moreT us ++ sh :: m)) sx ax) := by
          have h5 := R5.out
          have h1 := R1.out
          rw [show moreT (u :: us) ++ sh :: m = 44 :: (u.text ++ (moreT us ++ sh :: m)) by show (44 :: (u.text ++ moreT us)) ++ _ = _; simp] at h1 h5
          refine (next_ok w0 wr g 44 _ sx ax h1 (by simp only [List.length_cons] at h5; omega)).mono ?_
          rintro e w' ⟨rfl, rfl⟩
          exact ⟨rfl, h1.set⟩
        have h6 := R6.out
        have h4 := R4.out
        have h5 := R5.out
        have hz : sizes (u :: us) = u.size + sizes us := rfl
        rw [hz] at h6 h4
        rw [show moreT (u :: us) ++ sh :: m = 44 :: (u.text ++ (moreT us ++ sh :: m)) by show (44 :: (u.text ++ moreT us)) ++ _ = _; simp] at h5
        have h5' : (u.text ++ (moreT us ++ sh :: m)).length ≤ 2047 := by simp only [List.length_cons] at h5; omega
        have HK : Hid (∀ X, RdAt w0 X g (u.text ++ (moreT us ++ sh :: m)) sx ax → Calls Tryz.prog 35 #[.pointer (some ⟨g, 0, none⟩), .int .i64 d] X fun e w' => e = .returned (.tuple #[]) ∧ ∃ sl', RdAt w0 w' g (moreT us ++ sh :: m) sl' (ax ++ u.tell d)) := fun X hX => R3.out u (List.mem_cons_self ..) X g _ sx ax d hd0 (by omega) (by omega) (by omega) (noDig_more us sh m hs) hX
        have K2 : Hid ((ax ++ u.tell d) ++ tellAll us d = ac ++ tellAll ts d) := by show _ = _; rw [← R2.out, List.append_assoc]; rfl
        have K3 : Hid (∀ t' ∈ us, CellOk w0 t') := fun t' h' => R3.out t' (List.mem_cons_of_mem _ h')
        have K4 : Hid ((ax ++ u.tell d).length + sizes us ≤ 1000) := by show _ ≤ _; rw [List.length_append, u.tell_length]; omega
        have K5 : Hid ((moreT us ++ sh :: m).length ≤ 2048) := by show _ ≤ _; rw [List.length_append] at h5'; omega
        have K6 : Hid (d + sizes us ≤ 1000) := by show _ ≤ _; omega
        clear R1 R2 R3 R4 R5 R6 h4 h5 h5' h6 hz
        go_wp2_with (first | (go_at_call 48; refine HX.out.mono ?_; rintro e w2 ⟨rfl, h2⟩; have H2 := hidden h2; clear h2) | (go_at_call 35; refine (HK.out _ H2.out).mono ?_; rintro e w3 ⟨rfl, s3, h3⟩; have H3 := hidden h3; clear h3))
        go_roundg us.length
        case measure => simp
        case rel => exact ⟨us, _, s3, rfl, H3, K2, K3, K4, K5, K6⟩

set_option maxHeartbeats 8000000 in
theorem cell_walk (w0 : World) (hN : NumV w0) (b : Box) (hb : b.Fit) (B : UInt8) (T m : List UInt8) (W : World) (g : Nat) (sl : Value) (acc more : List CellV) (d : Int) (hd0 : 0 ≤ d) (hd1 : d ≤ 999) (hB : digB B = false) (hl : (putL b.w ++ (120 :: (putL b.h ++ (44 :: (putL b.x ++ (44 :: (putL b.y ++ (B :: T)))))))).length ≤ 2048) (ha : acc.length ≤ 1000)
    (hA : (∃ p, B = 44 ∧ T = putL p ++ m ∧ Rng p ∧ NoDig m ∧ more = [⟨d, 1, b.x, b.y, b.w, b.h, p⟩]) ∨
      (B = 123 ∧ ∀ X s1, RdAt w0 X g T s1 (acc ++ [⟨d, 2, b.x, b.y, b.w, b.h, 0⟩]) → Calls Tryz.prog 49 #[.pointer (some ⟨g, 0, none⟩), .int .i64 (d + 1), .int .u8 125] X fun e w' => e = .returned (.tuple #[]) ∧ ∃ sl', RdAt w0 w' g m sl' (acc ++ more)) ∨
      (B = 91 ∧ ∀ X s1, RdAt w0 X g T s1 (acc ++ [⟨d, 3, b.x, b.y, b.w, b.h, 0⟩]) → Calls Tryz.prog 49 #[.pointer (some ⟨g, 0, none⟩), .int .i64 (d + 1), .int .u8 93] X fun e w' => e = .returned (.tuple #[]) ∧ ∃ sl', RdAt w0 w' g m sl' (acc ++ more)))
    (hR : RdAt w0 W g (putL b.w ++ (120 :: (putL b.h ++ (44 :: (putL b.x ++ (44 :: (putL b.y ++ (B :: T)))))))) sl acc) : Calls Tryz.prog 35 #[.pointer (some ⟨g, 0, none⟩), .int .i64 d] W fun e w' => e = .returned (.tuple #[]) ∧ ∃ sl', RdAt w0 w' g m sl' (acc ++ more) := by
  have HA := hidden hA
  have HNum : Hid (∀ n X G vals r, Rng n → NoDig r → r.length ≤ 2048 → RC w0 X g (putL n ++ r) sl acc G vals → Calls Tryz.prog 46 #[.pointer (some ⟨g, 0, none⟩)] X fun e w' => e = .returned (.int .i64 n) ∧ RC w0 w' g r sl acc G vals) := fun n X G vals r hn hr hlr hX => by
    refine (number_ok w0 X g n r sl acc hN hn hr hX.rd (by omega)).mono ?_
    rintro e w' ⟨rfl, W1, hb1, rfl⟩
    exact ⟨rfl, (hX.below hb1).setR⟩
  have HExp : Hid (∀ c X G vals r, r.length ≤ 2048 → RC w0 X g (c :: r) sl acc G vals → Calls Tryz.prog 47 #[.pointer (some ⟨g, 0, none⟩), .int .u8 (c : UInt8).toNat] X fun e w' => e = .returned (.tuple #[]) ∧ RC w0 w' g r sl acc G vals) := fun c X G vals r hlr hX => by
    refine (expect_ok w0 X g c r sl acc hX.rd (by omega)).mono ?_
    rintro e w' ⟨rfl, rfl⟩
    exact ⟨rfl, hX.setR⟩
  have HNext : Hid (∀ c X G vals r, r.length ≤ 2048 → RC w0 X g (c :: r) sl acc G vals → Calls Tryz.prog 48 #[.pointer (some ⟨g, 0, none⟩)] X fun e w' => e = .returned (.int .u8 (c : UInt8).toNat) ∧ RC w0 w' g r sl acc G vals) := fun c X G vals r hlr hX => by
    refine (next_ok w0 X g c r sl acc hX.rd (by omega)).mono ?_
    rintro e w' ⟨rfl, rfl⟩
    exact ⟨rfl, hX.setR⟩
  have H0 : Hid (RC w0 (W.alloc (.cells #[.int .i64 d, .int .i64 0, .int .i64 0, .int .i64 0, .int .i64 0, .int .i64 0, .int .i64 0] 36)) g (putL b.w ++ (120 :: (putL b.h ++ (44 :: (putL b.x ++ (44 :: (putL b.y ++ (B :: T)))))))) sl acc W.heap.size #[.int .i64 d, .int .i64 0, .int .i64 0, .int .i64 0, .int .i64 0, .int .i64 0, .int .i64 0]) := hR.withC _
  obtain ⟨G, hG⟩ : ∃ G, W.heap.size = G := ⟨_, rfl⟩
  rw [hG] at H0
  simp only [List.length_append, List.length_cons] at hl
  have HBo := hidden hb
  have HBd := hidden hB
  clear hR hA hN hb hB
  go_enter Tryz.func35, Tryz.ntmps35
  go_wp2_with fail
  refine (HNum.out b.w _ _ _ (120 :: (putL b.h ++ (44 :: (putL b.x ++ (44 :: (putL b.y ++ (B :: T))))))) HBo.out.w (noDig_cons (by decide)) (by simp only [List.length_append, List.length_cons]; omega) H0.out).mono ?_
  rintro e w1 ⟨rfl, h1⟩
  have H1 := hidden h1
  have c1 := (h1.cell 4).1
  have f1 := (h1.cell 4).2
  simp only [List.getElem?_toArray, List.getElem?_cons_succ, List.getElem?_cons_zero] at c1
  clear h1 H0
  have H1s : Hid (RC w0 (w1.setCell ⟨G, 4, none⟩ (.int .i64 b.w)) g (120 :: (putL b.h ++ (44 :: (putL b.x ++ (44 :: (putL b.y ++ (B :: T))))))) sl acc G #[.int .i64 d, .int .i64 0, .int .i64 0, .int .i64 0, .int .i64 b.w, .int .i64 0, .int .i64 0]) := H1.out.setC 4 (.int .i64 b.w) rfl
  go_wp2_with fail
  refine (HExp.out 120 _ _ _ (putL b.h ++ (44 :: (putL b.x ++ (44 :: (putL b.y ++ (B :: T)))))) (by simp only [List.length_append, List.length_cons]; omega) H1s.out).mono ?_
  rintro e w2 ⟨rfl, h2⟩
  have H2 := hidden h2
  clear h2 H1s
  go_wp2_with fail
  refine (HNum.out b.h _ _ _ (44 :: (putL b.x ++ (44 :: (putL b.y ++ (B :: T))))) HBo.out.h (noDig_cons (by decide)) (by simp only [List.length_append, List.length_cons]; omega) H2.out).mono ?_
  rintro e w3 ⟨rfl, h3⟩
  have H3 := hidden h3
  have c3 := (h3.cell 5).1
  have f3 := (h3.cell 5).2
  simp only [List.getElem?_toArray, List.getElem?_cons_succ, List.getElem?_cons_zero] at c3
  clear h3 H2
  have H3s : Hid (RC w0 (w3.setCell ⟨G, 5, none⟩ (.int .i64 b.h)) g (44 :: (putL b.x ++ (44 :: (putL b.y ++ (B :: T))))) sl acc G #[.int .i64 d, .int .i64 0, .int .i64 0, .int .i64 0, .int .i64 b.w, .int .i64 b.h, .int .i64 0]) := H3.out.setC 5 (.int .i64 b.h) rfl
  go_wp2_with fail
  refine (HExp.out 44 _ _ _ (putL b.x ++ (44 :: (putL b.y ++ (B :: T)))) (by simp only [List.length_append, List.length_cons]; omega) H3s.out).mono ?_
  rintro e w4 ⟨rfl, h4⟩
  have H4 := hidden h4
  clear h4 H3s
  go_wp2_with fail
  refine (HNum.out b.x _ _ _ (44 :: (putL b.y ++ (B :: T))) HBo.out.x (noDig_cons (by decide)) (by simp only [List.length_append, List.length_cons]; omega) H4.out).mono ?_
  rintro e w5 ⟨rfl, h5⟩
  have H5 := hidden h5
  have c5 := (h5.cell 2).1
  have f5 := (h5.cell 2).2
  simp only [List.getElem?_toArray, List.getElem?_cons_succ, List.getElem?_cons_zero] at c5
  clear h5 H4
  have H5s : Hid (RC w0 (w5.setCell ⟨G, 2, none⟩ (.int .i64 b.x)) g (44 :: (putL b.y ++ (B :: T))) sl acc G #[.int .i64 d, .int .i64 0, .int .i64 b.x, .int .i64 0, .int .i64 b.w, .int .i64 b.h, .int .i64 0]) := H5.out.setC 2 (.int .i64 b.x) rfl
  go_wp2_with fail
  refine (HExp.out 44 _ _ _ (putL b.y ++ (B :: T)) (by simp only [List.length_append, List.length_cons]; omega) H5s.out).mono ?_
  rintro e w6 ⟨rfl, h6⟩
  have H6 := hidden h6
  clear h6 H5s
  go_wp2_with fail
  refine (HNum.out b.y _ _ _ (B :: T) HBo.out.y (noDig_cons HBd.out) (by simp only [List.length_cons]; omega) H6.out).mono ?_
  rintro e w7 ⟨rfl, h7⟩
  have H7 := hidden h7
  have c7 := (h7.cell 3).1
  have f7 := (h7.cell 3).2
  simp only [List.getElem?_toArray, List.getElem?_cons_succ, List.getElem?_cons_zero] at c7
  clear h7 H6
  have H7s : Hid (RC w0 (w7.setCell ⟨G, 3, none⟩ (.int .i64 b.y)) g (B :: T) sl acc G #[.int .i64 d, .int .i64 0, .int .i64 b.x, .int .i64 b.y, .int .i64 b.w, .int .i64 b.h, .int .i64 0]) := H7.out.setC 3 (.int .i64 b.y) rfl
  go_wp2_with fail
  refine (HNext.out B _ _ _ T (by omega) H7s.out).mono ?_
  rintro e w8 ⟨rfl, h8⟩
  have H8 := hidden h8
  clear h8 H7s
  rcases HA.out with ⟨p, rfl, rfl, hp, hm, rfl⟩ | ⟨rfl, hP⟩ | ⟨rfl, hP⟩
  · have hb44 : ((44 : UInt8).toNat : Int) = 44 := rfl
    simp only [List.length_append] at hl
    go_wp2_with fail
    refine (HNum.out p _ _ _ m hp hm (by omega) H8.out).mono ?_
    rintro e w9 ⟨rfl, h9⟩
    have H9 := hidden h9
    have a1 := (h9.cell 1).1
    have a2 := (h9.cell 1).2
    have a3 := (h9.cell 6).1
    have a4 := (h9.cell 6).2
    simp only [List.getElem?_toArray, List.getElem?_cons_succ, List.getElem?_cons_zero] at a1 a3
    have H10 : Hid (RC w0 ((w9.setCell ⟨G, 1, none⟩ (.int .i64 1)).setCell ⟨G, 6, none⟩ (.int .i64 p)) g m sl acc G #[.int .i64 d, .int .i64 1, .int .i64 b.x, .int .i64 b.y, .int .i64 b.w, .int .i64 b.h, .int .i64 p]) := (H9.out.setC 1 (.int .i64 1) rfl).setC 6 (.int .i64 p) rfl
    clear h9 H8 H9
    have z0 : ((w9.setCell ⟨G, 1, none⟩ (.int .i64 1)).setCell ⟨G, 6, none⟩ (.int .i64 p)).drew.cell? ⟨G, 0, none⟩ = some (.int .i64 d) := (H10.out.cell 0).1
    have z1 : ((w9.setCell ⟨G, 1, none⟩ (.int .i64 1)).setCell ⟨G, 6, none⟩ (.int .i64 p)).drew.cell? ⟨G, 1, none⟩ = some (.int .i64 1) := (H10.out.cell 1).1
    have z2 : ((w9.setCell ⟨G, 1, none⟩ (.int .i64 1)).setCell ⟨G, 6, none⟩ (.int .i64 p)).drew.cell? ⟨G, 2, none⟩ = some (.int .i64 b.x) := (H10.out.cell 2).1
    have z3 : ((w9.setCell ⟨G, 1, none⟩ (.int .i64 1)).setCell ⟨G, 6, none⟩ (.int .i64 p)).drew.cell? ⟨G, 3, none⟩ = some (.int .i64 b.y) := (H10.out.cell 3).1
    have z4 : ((w9.setCell ⟨G, 1, none⟩ (.int .i64 1)).setCell ⟨G, 6, none⟩ (.int .i64 p)).drew.cell? ⟨G, 4, none⟩ = some (.int .i64 b.w) := (H10.out.cell 4).1
    have z5 : ((w9.setCell ⟨G, 1, none⟩ (.int .i64 1)).setCell ⟨G, 6, none⟩ (.int .i64 p)).drew.cell? ⟨G, 5, none⟩ = some (.int .i64 b.h) := (H10.out.cell 5).1
    have z6 : ((w9.setCell ⟨G, 1, none⟩ (.int .i64 1)).setCell ⟨G, 6, none⟩ (.int .i64 p)).drew.cell? ⟨G, 6, none⟩ = some (.int .i64 p) := (H10.out.cell 6).1
    have zg : ((w9.setCell ⟨G, 1, none⟩ (.int .i64 1)).setCell ⟨G, 6, none⟩ (.int .i64 p)).drew.cell? ⟨g, 1, none⟩ = some sl := H10.out.rd.cells.2.1
    have zg2 : (((w9.setCell ⟨G, 1, none⟩ (.int .i64 1)).setCell ⟨G, 6, none⟩ (.int .i64 p)).alloc (.cells #[.int .i64 d, .int .i64 1, .int .i64 b.x, .int .i64 b.y, .int .i64 b.w, .int .i64 b.h, .int .i64 p] 36)).drew.cell? ⟨g, 1, none⟩ = some sl := ((H10.out.rd.below ((Below.refl _ _).alloc (Nat.le_refl _) _)).below (Below.refl _ _).drew).cells.2.1
    have hgs : g + 1 ≤ ((w9.setCell ⟨G, 1, none⟩ (.int .i64 1)).setCell ⟨G, 6, none⟩ (.int .i64 p)).drew.heap.size := H10.out.rd.lt
    have HOw : Hid (CeOwns ((w9.setCell ⟨G, 1, none⟩ (.int .i64 1)).setCell ⟨G, 6, none⟩ (.int .i64 p)).drew (g + 1) sl acc) := (H10.out.rd.below (Below.refl _ _).drew).own
    obtain ⟨sa, sn, sc, hsl⟩ := ce_slice HOw.out
    subst hsl
    go_wp2_with fail
    go_region_law (refine step_append_ce ((w9.setCell ⟨G, 1, none⟩ (.int .i64 1)).setCell ⟨G, 6, none⟩ (.int .i64 p)).drew rfl (.tmp 38) (.tmp 40) rfl (g + 1) (.slice sa sn sc) acc ⟨d, 1, b.x, b.y, b.w, b.h, p⟩ (by simp [Act.eval]) HOw.out (by simp [Act.eval]) (by omega) hgs ?_; intro v9 x9 k1 k2; obtain ⟨va, vn, vc, rfl⟩ := ce_slice k1; have k3 := H10.out.app k1 k2; have y1 := k3.1.1; have y2 := k3.1.2; have HF := hidden k3.2; clear k1 k2 k3)
    all_goals go_wp2
    all_goals first | go_end0 | exact ⟨rfl, .tuple #[], (by simp [results, Tryz.results35, go_sem]), rfl, _, HF.out⟩ | refine bodyPost_ret (results_none rfl _ _ _) rfl ?_
    all_goals exact ⟨rfl, _, HF.out⟩
  · have hb : ((123 : UInt8).toNat : Int) = 123 := rfl
    have HP := hidden hP
    have a1 := (H8.out.cell 1).1
    have a2 := (H8.out.cell 1).2
    simp only [List.getElem?_toArray, List.getElem?_cons_succ, List.getElem?_cons_zero] at a1
    have H10 : Hid (RC w0 (w8.setCell ⟨G, 1, none⟩ (.int .i64 2)) g T sl acc G #[.int .i64 d, .int .i64 2, .int .i64 b.x, .int .i64 b.y, .int .i64 b.w, .int .i64 b.h, .int .i64 0]) := H8.out.setC 1 (.int .i64 2) rfl
    clear hP H8
    have z0 : (w8.setCell ⟨G, 1, none⟩ (.int .i64 2)).drew.cell? ⟨G, 0, none⟩ = some (.int .i64 d) := (H10.out.cell 0).1
    have z1 : (w8.setCell ⟨G, 1, none⟩ (.int .i64 2)).drew.cell? ⟨G, 1, none⟩ = some (.int .i64 2) := (H10.out.cell 1).1
    have z2 : (w8.setCell ⟨G, 1, none⟩ (.int .i64 2)).drew.cell? ⟨G, 2, none⟩ = some (.int .i64 b.x) := (H10.out.cell 2).1
    have z3 : (w8.setCell ⟨G, 1, none⟩ (.int .i64 2)).drew.cell? ⟨G, 3, none⟩ = some (.int .i64 b.y) := (H10.out.cell 3).1
    have z4 : (w8.setCell ⟨G, 1, none⟩ (.int .i64 2)).drew.cell? ⟨G, 4, none⟩ = some (.int .i64 b.w) := (H10.out.cell 4).1
    have z5 : (w8.setCell ⟨G, 1, none⟩ (.int .i64 2)).drew.cell? ⟨G, 5, none⟩ = some (.int .i64 b.h) := (H10.out.cell 5).1
    have z6 : (w8.setCell ⟨G, 1, none⟩ (.int .i64 2)).drew.cell? ⟨G, 6, none⟩ = some (.int .i64 0) := (H10.out.cell 6).1
    have zg : (w8.setCell ⟨G, 1, none⟩ (.int .i64 2)).drew.cell? ⟨g, 1, none⟩ = some sl := H10.out.rd.cells.2.1
    have zg2 : ((w8.setCell ⟨G, 1, none⟩ (.int .i64 2)).alloc (.cells #[.int .i64 d, .int .i64 2, .int .i64 b.x, .int .i64 b.y, .int .i64 b.w, .int .i64 b.h, .int .i64 0] 36)).drew.cell? ⟨g, 1, none⟩ = some sl := ((H10.out.rd.below ((Below.refl _ _).alloc (Nat.le_refl _) _)).below (Below.refl _ _).drew).cells.2.1
    have hgs : g + 1 ≤ (w8.setCell ⟨G, 1, none⟩ (.int .i64 2)).drew.heap.size := H10.out.rd.lt
    have HOw : Hid (CeOwns (w8.setCell ⟨G, 1, none⟩ (.int .i64 2)).drew (g + 1) sl acc) := (H10.out.rd.below (Below.refl _ _).drew).own
    obtain ⟨sa, sn, sc, hsl⟩ := ce_slice HOw.out
    subst hsl
    go_wp2_with fail
    go_region_law (refine step_append_ce (w8.setCell ⟨G, 1, none⟩ (.int .i64 2)).drew rfl (.tmp 51) (.tmp 53) rfl (g + 1) (.slice sa sn sc) acc ⟨d, 2, b.x, b.y, b.w, b.h, 0⟩ (by simp [Act.eval]) HOw.out (by simp [Act.eval]) (by omega) hgs ?_; intro v9 x9 k1 k2; obtain ⟨va, vn, vc, rfl⟩ := ce_slice k1; have k3 := H10.out.app k1 k2; have y1 := k3.1.1; have y2 := k3.1.2; have HF := hidden k3.2; clear k1 k2 k3)
    all_goals (
      go_wp2_with (go_at_call 49; refine (HP.out _ _ HF.out).mono ?_; rintro e w11 ⟨rfl, s11, h11⟩; have H11 := hidden h11; clear h11)
      first | go_end0 | exact ⟨rfl, .tuple #[], (by simp [results, Tryz.results35, go_sem]), rfl, _, H11.out⟩ | refine bodyPost_ret (results_none rfl _ _ _) rfl ?_)
    all_goals exact ⟨rfl, _, H11.out⟩
  · have hb : ((91 : UInt8).toNat : Int) = 91 := rfl
    have HP := hidden hP
    have a1 := (H8.out.cell 1).1
    have a2 := (H8.out.cell 1).2
    simp only [List.getElem?_toArray, List.getElem?_cons_succ, List.getElem?_cons_zero] at a1
    have H10 : Hid (RC w0 (w8.setCell ⟨G, 1, none⟩ (.int .i64 3)) g T sl acc G #[.int .i64 d, .int .i64 3, .int .i64 b.x, .int .i64 b.y, .int .i64 b.w, .int .i64 b.h, .int .i64 0]) := H8.out.setC 1 (.int .i64 3) rfl
    clear hP H8
    have z0 : (w8.setCell ⟨G, 1, none⟩ (.int .i64 3)).drew.cell? ⟨G, 0, none⟩ = some (.int .i64 d) := (H10.out.cell 0).1
    have z1 : (w8.setCell ⟨G, 1, none⟩ (.int .i64 3)).drew.cell? ⟨G, 1, none⟩ = some (.int .i64 3) := (H10.out.cell 1).1
    have z2 : (w8.setCell ⟨G, 1, none⟩ (.int .i64 3)).drew.cell? ⟨G, 2, none⟩ = some (.int .i64 b.x) := (H10.out.cell 2).1
    have z3 : (w8.setCell ⟨G, 1, none⟩ (.int .i64 3)).drew.cell? ⟨G, 3, none⟩ = some (.int .i64 b.y) := (H10.out.cell 3).1
    have z4 : (w8.setCell ⟨G, 1, none⟩ (.int .i64 3)).drew.cell? ⟨G, 4, none⟩ = some (.int .i64 b.w) := (H10.out.cell 4).1
    have z5 : (w8.setCell ⟨G, 1, none⟩ (.int .i64 3)).drew.cell? ⟨G, 5, none⟩ = some (.int .i64 b.h) := (H10.out.cell 5).1
    have z6 : (w8.setCell ⟨G, 1, none⟩ (.int .i64 3)).drew.cell? ⟨G, 6, none⟩ = some (.int .i64 0) := (H10.out.cell 6).1
    have zg : (w8.setCell ⟨G, 1, none⟩ (.int .i64 3)).drew.cell? ⟨g, 1, none⟩ = some sl := H10.out.rd.cells.2.1
    have zg2 : ((w8.setCell ⟨G, 1, none⟩ (.int .i64 3)).alloc (.cells #[.int .i64 d, .int .i64 3, .int .i64 b.x, .int .i64 b.y, .int .i64 b.w, .int .i64 b.h, .int .i64 0] 36)).drew.cell? ⟨g, 1, none⟩ = some sl := ((H10.out.rd.below ((Below.refl _ _).alloc (Nat.le_refl _) _)).below (Below.refl _ _).drew).cells.2.1
    have hgs : g + 1 ≤ (w8.setCell ⟨G, 1, none⟩ (.int .i64 3)).drew.heap.size := H10.out.rd.lt
    have HOw : Hid (CeOwns (w8.setCell ⟨G, 1, none⟩ (.int .i64 3)).drew (g + 1) sl acc) := (H10.out.rd.below (Below.refl _ _).drew).own
    obtain ⟨sa, sn, sc, hsl⟩ := ce_slice HOw.out
    subst hsl
    go_wp2_with fail
    go_region_law (refine step_append_ce (w8.setCell ⟨G, 1, none⟩ (.int .i64 3)).drew rfl (.tmp 68) (.tmp 70) rfl (g + 1) (.slice sa sn sc) acc ⟨d, 3, b.x, b.y, b.w, b.h, 0⟩ (by simp [Act.eval]) HOw.out (by simp [Act.eval]) (by omega) hgs ?_; intro v9 x9 k1 k2; obtain ⟨va, vn, vc, rfl⟩ := ce_slice k1; have k3 := H10.out.app k1 k2; have y1 := k3.1.1; have y2 := k3.1.2; have HF := hidden k3.2; clear k1 k2 k3)
    all_goals (
      go_wp2_with (go_at_call 49; refine (HP.out _ _ HF.out).mono ?_; rintro e w11 ⟨rfl, s11, h11⟩; have H11 := hidden h11; clear h11)
      first | go_end0 | exact ⟨rfl, .tuple #[], (by simp [results, Tryz.results35, go_sem]), rfl, _, H11.out⟩ | refine bodyPost_ret (results_none rfl _ _ _) rfl ?_)
    all_goals exact ⟨rfl, _, H11.out⟩
end Go.Proofs.YtglncninkocgaabGreatDoor
