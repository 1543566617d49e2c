/-
  A line feed, wherever the cursor is; the next line.
  Letters that are typed, line by line.
-/
import Derived.Test.YtooahffclghcjaaGreatDoorVScr
import Derived.Test.YtooahffclghcjaaGreatDoorVWrC
import Derived.Test.YtooahffclghcjaaGreatDoorMC
namespace Go.Proofs.YtooahffclghcjaaGreatDoor
open Go.RowKit
set_option linter.unusedVariables false
set_option maxRecDepth 100000

set_option maxHeartbeats 1000000 in
theorem nextLine_of {w : World} {b : Nat} {s : Sc} (h : ScAt w b s) {R : World → Prop} (hT : Calls Tryz.prog 52 #[.pointer (some ⟨b, 0, none⟩)] (w.setCell ⟨b, 13, none⟩ (.int .i64 0)) fun x w' => x = .returned (.tuple #[]) ∧ R w') : Calls Tryz.prog 35 #[.pointer (some ⟨b, 0, none⟩)] w fun x w' => x = .returned (.tuple #[]) ∧ R w' := by
  have c13 := h.c13
  have f13 := h.free 13
  have HT := hidK hT
  clear h hT
  go_enter Tryz.func35, Tryz.ntmps35
  go_wp2_with fail
  refine HT.out.mono ?_
  rintro e w2 ⟨rfl, hr⟩
  have HR := hidK hr
  clear hr
  go_wp2_with fail
  go_end0
  exact ⟨rfl, HR.out⟩
/-- A row of letters, and blanks behind them. -/
def rowG (n : Nat) (t : List UInt8) : List Gl := t.map (fun c => ⟨(c.toNat : Int), 1, 0, 0, 0⟩) ++ List.replicate (n - t.length) blk0
/-- The rows that are shown, and those that are kept. -/
def vis (nh : Nat) (L : List (List UInt8)) : List (List UInt8) := L.drop (L.length - nh) ++ List.replicate (nh - L.length) []
def old (nh lim : Nat) (L : List (List UInt8)) : List (List UInt8) := (L.take (L.length - nh)).drop (L.length - nh - lim)
theorem vis_len (nh : Nat) (L : List (List UInt8)) : (vis nh L).length = nh := by simp [vis]; omega
theorem rowG_len {n : Nat} {t : List UInt8} (h : t.length ≤ n) : (rowG n t).length = n := by simp [rowG]; omega
theorem rowG_nil (n : Nat) : rowG n [] = List.replicate n blk0 := by simp [rowG]
theorem vis_more {nh : Nat} {L : List (List UInt8)} (h : L.length < nh) : vis nh (L ++ [[]]) = vis nh L := by
  unfold vis
  rw [List.length_append, List.length_singleton, show L.length + 1 - nh = 0 by omega, show L.length - nh = 0 by omega, List.drop_zero, List.drop_zero, List.append_assoc, show nh - L.length = nh - (L.length + 1) + 1 by omega, List.replicate_succ]
  rfl
theorem old_more {nh lim : Nat} {L : List (List UInt8)} (h : L.length < nh) (t : List UInt8) : old nh lim (L ++ [t]) = old nh lim L := by
  unfold old
  rw [List.length_append, List.length_singleton, show L.length + 1 - nh = 0 by omega, show L.length - nh = 0 by omega]
  simp
theorem vis_scroll {nh : Nat} {L : List (List UInt8)} (h0 : 1 ≤ nh) (h : nh ≤ L.length) {r : List UInt8} {rest : List (List UInt8)} (hv : vis nh L = r :: rest) (t : List UInt8) : vis nh (L ++ [t]) = rest ++ [t] ∧ L[L.length - nh]? = some r := by
  unfold vis at hv ⊢
  rw [show nh - L.length = 0 by omega, List.replicate_zero, List.append_nil] at hv
  rw [List.length_append, List.length_singleton, show nh - (L.length + 1) = 0 by omega, List.replicate_zero, List.append_nil, show L.length + 1 - nh = L.length - nh + 1 by omega, List.drop_append_of_le_length (by omega)]
  constructor
  · rw [← List.drop_drop, hv]
    rfl
  · have := congrArg (·[0]?) hv
    simpa [List.getElem?_drop] using this
theorem old_scroll {nh lim : Nat} {L : List (List UInt8)} (h0 : 1 ≤ nh) (h : nh ≤ L.length) {r : List UInt8} (hr : L[L.length - nh]? = some r) (t : List UInt8) : old nh lim (L ++ [t]) = if lim = 0 then old nh lim L else (if (old nh lim L).length = lim then (old nh lim L).drop 1 else old nh lim L) ++ [r] := by
  unfold old
  rw [List.length_append, List.length_singleton, show L.length + 1 - nh = L.length - nh + 1 by omega, List.take_append_of_le_length (by omega)]
  obtain ⟨hi, he⟩ := List.getElem?_eq_some_iff.1 hr
  rw [List.take_succ_eq_append_getElem hi, he]
  have hl : (List.take (L.length - nh) L).length = L.length - nh := by simp
  have hl2 : (List.drop (L.length - nh - lim) (List.take (L.length - nh) L)).length = L.length - nh - (L.length - nh - lim) := by rw [List.length_drop, hl]
  by_cases h1 : lim = 0
  · subst h1
    rw [if_pos rfl, List.drop_of_length_le (by simp), List.drop_of_length_le (by rw [hl]; omega)]
  · rw [if_neg h1, hl2]
    by_cases h2 : L.length - nh < lim
    · rw [if_neg (by omega), show L.length - nh + 1 - lim = 0 by omega, show L.length - nh - lim = 0 by omega, List.drop_zero, List.drop_zero]
    · rw [if_pos (by omega), List.drop_drop, show L.length - nh + 1 - lim = L.length - nh - lim + 1 by omega, List.drop_append_of_le_length (by rw [hl]; omega)]
/-- What stays as it is at first. -/
structure Base (s : Sc) (nw nh lim : Nat) : Prop where
  w : s.w = (nw : Int)
  h : s.h = (nh : Int)
  lim : s.lim = (lim : Int)
  top : s.top = 0
  bot : s.bot = (nh : Int) - 1
  main : s.main = .pointer none
  ins : s.ins = false
  nl : s.nl = false
  wrap : s.wrap = true
  us : s.cur.us = 0
  l0 : s.cur.l0 = false
  fo : s.cur.fo = 0
  ba : s.cur.ba = 0
  ma : s.cur.ma = 0
  st : s.st = 0
  hv : s.hv = 0
/-- A screen that shows these lines. -/
structure Pg (s : Sc) (rs : List (Nat × List Gl)) (hs : List (Value × List Gl)) (nw nh lim : Nat) (L : List (List UInt8)) (x : Nat) (wt : Bool) : Prop where
  base : Base s nw nh lim
  cx : s.cur.x = (x : Int)
  cy : s.cur.y = ((min L.length nh - 1 : Nat) : Int)
  wt : s.cur.wt = wt
  some : 1 ≤ L.length
  rows : rs.map Prod.snd = (vis nh L).map (rowG nw)
  hist : hs.map Prod.snd = (old nh lim L).map (rowG nw)
  few : ∀ t ∈ L, t.length ≤ nw
  ok : ∀ t ∈ L, ∀ c ∈ t, 33 ≤ c.toNat ∧ c.toNat ≤ 126
theorem old_len {nh lim : Nat} {L : List (List UInt8)} : (old nh lim L).length ≤ lim := by unfold old; simp; omega
/-- A line feed. -/
theorem lineFeed_pg {w0 w : World} {b : Nat} {s : Sc} {G : Nat} {rs : List (Nat × List Gl)} {hs : List (Value × List Gl)} (h : Scr w0 w b s G rs hs) {nw nh lim x : Nat} {L : List (List UInt8)} {wt : Bool} (hp : Pg s rs hs nw nh lim L x wt) (n1 : 1 ≤ nh) (n2 : nh ≤ 1000) (n3 : nw ≤ 1000) (n4 : lim ≤ 2000) : Calls Tryz.prog 52 #[.pointer (some ⟨b, 0, none⟩)] w fun r w' => r = .returned (.tuple #[]) ∧ ∃ s1 rs1 hs1, (Pg s1 rs1 hs1 nw nh lim (L ++ [[]]) x false ∧ ∀ k, k ∈ rs1.map Prod.fst → k ∈ rs.map Prod.fst) ∧ Scr w0 w' b s1 G rs1 hs1 ∧ But (s.past.ownBlock.toList ++ (b :: G :: rs.map Prod.fst)) w w' := by
  have hB := hp.base
  have hrl : rs.length = nh := by
    have := congrArg List.length hp.rows
    simpa [vis_len] using this
  have hfew : ∀ t ∈ L ++ [[]], t.length ≤ nw := fun t ht => by
    rcases List.mem_append.1 ht with ht | ht
    · exact hp.few t ht
    · have : t = [] := by simpa using ht
      rw [this]; simp
  have hok : ∀ t ∈ L ++ [[]], ∀ c ∈ t, 33 ≤ c.toNat ∧ c.toNat ≤ 126 := fun t ht => by
    rcases List.mem_append.1 ht with ht | ht
    · exact hp.ok t ht
    · have : t = [] := by simpa using ht
      rw [this]; simp
  have h1 := hp.some
  have hcy := hp.cy
  have hbot := hB.bot
  have hhh := hB.h
  by_cases hlt : L.length < nh
  · refine (lineFeed_in h.scn.at_ (by rw [hcy]; omega) (by rw [hcy, hhh]; omega) (by rw [hhh]; omega) (by rw [hcy, hbot]; omega)).mono ?_
    rintro r w' ⟨rfl, hs1, hbt⟩
    obtain ⟨t1, t2⟩ := h.scn.turn hs1 rfl hbt
    refine ⟨rfl, { s with cur := { s.cur with y := s.cur.y + 1, wt := false } }, rs, hs, ⟨⟨⟨hB.w, hB.h, hB.lim, hB.top, hB.bot, hB.main, hB.ins, hB.nl, hB.wrap, hB.us, hB.l0, hB.fo, hB.ba, hB.ma, hB.st, hB.hv⟩, hp.cx, ?_, rfl, by simp, ?_, ?_, hfew, hok⟩, fun k hk => hk⟩, h.turn t1 hbt (fun k hk => by simp at hk; simp [hk]) rfl (fun _ => Iff.rfl), hbt.mono (fun k _ hk => by simp at hk; rw [hk]; exact List.mem_append_right _ (by simp))⟩
    · show s.cur.y + 1 = _
      rw [hcy, List.length_append, List.length_singleton]
      omega
    · rw [vis_more hlt]; exact hp.rows
    · rw [old_more hlt]; exact hp.hist
  · have hge : nh ≤ L.length := by omega
    match rs, hvs : vis nh L with
    | [], _ => simp at hrl; omega
    | _ :: _, [] =>
      have := vis_len nh L
      rw [hvs] at this
      simp at this
      omega
    | r :: rest, tv :: tvs =>
      have hrows := hp.rows
      rw [hvs, List.map_cons, List.map_cons] at hrows
      obtain ⟨hr1, hr2⟩ := List.cons.inj hrows
      obtain ⟨v1, v2⟩ := vis_scroll n1 hge hvs []
      have htl : tv.length ≤ nw := hp.few tv (List.mem_of_getElem? v2)
      have hr1l : r.2.length = nw := by rw [hr1, rowG_len htl]
      have hrest : rest.length + 1 = nh := by rw [← hrl]; simp
      have hol : hs.length ≤ lim := by
        have := congrArg List.length hp.hist
        rw [List.length_map, List.length_map] at this
        rw [this]; exact old_len
      refine (lineFeed_last h lim hB.lim n4 hol (by omega) (by omega) hB.top hB.main (by rw [hbot]; omega) (by rw [hcy, hbot]; omega)).mono ?_
      rintro q w' ⟨rfl, v, hs2, k1, k2, k3, k4⟩
      refine ⟨rfl, { s with past := v, cur := { s.cur with wt := false } }, _, hs2, ⟨⟨⟨hB.w, hB.h, hB.lim, hB.top, hB.bot, hB.main, hB.ins, hB.nl, hB.wrap, hB.us, hB.l0, hB.fo, hB.ba, hB.ma, hB.st, hB.hv⟩, hp.cx, ?_, rfl, by simp, ?_, ?_, hfew, hok⟩, fun k hk => (moved_fst _ _ k).1 hk⟩, k3, k4⟩
      · show s.cur.y = _
        rw [hcy, List.length_append, List.length_singleton]
        omega
      · rw [v1, List.map_append, hB.ba]
        show (rest ++ [(r.1, List.replicate r.2.length blk0)]).map Prod.snd = _
        rw [List.map_append, hr2, hr1l]
        simp [rowG_nil]
      · rw [k1, hp.hist, old_scroll n1 hge v2 [], hr1]
        unfold kept
        rw [List.length_map]
        split
        · rfl
        · split
          · rw [List.map_append, List.map_drop]; rfl
          · rw [List.map_append]; rfl
end Go.Proofs.YtooahffclghcjaaGreatDoor
namespace Go.Proofs.YtooahffclghcjaaGreatDoor
open Go.RowKit
set_option linter.unusedVariables false
set_option maxRecDepth 100000

/-- Typed behind the last line. -/
def typed (nw : Nat) (L : List (List UInt8)) (t : List UInt8) (c : UInt8) : List (List UInt8) × List UInt8 := if t.length < nw then (L, t ++ [c]) else (L ++ [t], [c])
/-- The cursor stands behind the last line. -/
def Behind (nw : Nat) (t : List UInt8) (x : Nat) (wt : Bool) : Prop := (wt = false ∧ x = t.length ∧ t.length < nw) ∨ (wt = true ∧ t.length = nw)
theorem vis_last {nh : Nat} (h : 1 ≤ nh) (L : List (List UInt8)) (t : List UInt8) : (vis nh (L ++ [t]))[min (L ++ [t]).length nh - 1]? = some t := by
  unfold vis
  rw [List.length_append, List.length_singleton, List.getElem?_append_left (by simp; omega), List.getElem?_drop]
  rw [show L.length + 1 - nh + (min (L.length + 1) nh - 1) = L.length by omega]
  simp
theorem vis_set {nh : Nat} (h : 1 ≤ nh) (L : List (List UInt8)) (t t' : List UInt8) : vis nh (L ++ [t']) = (vis nh (L ++ [t])).set (min (L ++ [t]).length nh - 1) t' := by
  unfold vis
  rw [List.length_append, List.length_singleton, List.length_append, List.length_singleton, List.set_append_left _ _ (by simp; omega)]
  congr 1
  rw [List.set_drop, show L.length + 1 - nh + (min (L.length + 1) nh - 1) = L.length by omega, List.set_append_right _ _ (Nat.le_refl _), Nat.sub_self]
  rfl
theorem old_last {nh lim : Nat} (h : 1 ≤ nh) (L : List (List UInt8)) (t t' : List UInt8) : old nh lim (L ++ [t']) = old nh lim (L ++ [t]) := by
  unfold old
  rw [List.length_append, List.length_singleton, List.length_append, List.length_singleton, List.take_append_of_le_length (by omega), List.take_append_of_le_length (by omega)]
theorem rowG_set {n : Nat} {t : List UInt8} (h : t.length < n) (c : UInt8) : rowG n (t ++ [c]) = (rowG n t).set t.length ⟨(c.toNat : Int), 1, 0, 0, 0⟩ := by
  unfold rowG
  rw [List.set_append_right _ _ (by simp), List.length_map, Nat.sub_self, List.length_append, List.length_singleton, show n - t.length = n - (t.length + 1) + 1 by omega, List.replicate_succ, List.set_cons_zero, List.map_append, List.append_assoc]
  rfl
theorem rowG_whole {n : Nat} {t : List UInt8} (h : ∀ c ∈ t, 33 ≤ c.toNat ∧ c.toNat ≤ 126) : Whole (rowG n t) := by
  intro y hy
  rcases List.mem_append.1 hy with hy | hy
  · obtain ⟨c, hc, rfl⟩ := List.mem_map.1 hy
    have := h c hc
    simp only
    omega
  · rw [List.eq_of_mem_replicate hy]
    decide
/-- A screen that shows these lines, in memory. -/
def Sp (w0 w : World) (b G nw nh lim : Nat) (L : List (List UInt8)) (x : Nat) (wt : Bool) : Prop := ∃ s rs hs, Scr w0 w b s G rs hs ∧ Pg s rs hs nw nh lim L x wt
section
variable {w0 w : World} {b G nw nh lim x : Nat} {L : List (List UInt8)} {t : List UInt8} {wt : Bool}
theorem write_pg (n0 : 1 ≤ nw) (n1 : 1 ≤ nh) (n2 : nh ≤ 1000) (n3 : nw ≤ 1000) (n4 : lim ≤ 2000) (hS : Sp w0 w b G nw nh lim (L ++ [t]) x wt) (hT : Behind nw t x wt) (c : UInt8) (hc1 : 33 ≤ c.toNat) (hc2 : c.toNat ≤ 126) :
    Calls Tryz.prog 19 #[.pointer (some ⟨b, 0, none⟩), .int .i32 (c.toNat : Int)] w fun r w' => r = .returned (.tuple #[]) ∧ Fk w w' ∧ ∃ x' wt', Sp w0 w' b G nw nh lim ((typed nw L t c).1 ++ [(typed nw L t c).2]) x' wt' ∧ Behind nw (typed nw L t c).2 x' wt' := by
  obtain ⟨s, rs, hs, h, hp⟩ := hS
  have hB := hp.base
  have key := write_scr h hB.us hB.l0 hB.fo hB.ba hB.ma (c.toNat : Int) (by omega) (by omega)
    (P := fun s1 rs1 hs1 => ∃ L1 t1, Pg s1 rs1 hs1 nw nh lim (L1 ++ [t1]) t1.length false ∧ t1.length < nw ∧ typed nw L t c = (L1, t1 ++ [c]) ∧ ∀ k, k ∈ rs1.map Prod.fst → k ∈ rs.map Prod.fst)
    (fun hwt => by
      rcases hT with ⟨h1, h2, h3⟩ | ⟨h1, _⟩
      · refine ⟨L, t, ?_, h3, by unfold typed; rw [if_pos h3], fun k hk => hk⟩
        rw [← h2, ← h1]
        exact hp
      · rw [hp.wt, h1] at hwt
        cases hwt)
    (fun hwt => by
      rcases hT with ⟨h1, _⟩ | ⟨h1, h2⟩
      · rw [hp.wt, h1] at hwt
        cases hwt
      · refine ⟨hB.wrap, fun W hW => ?_⟩
        have hW1 := h.more hW
        have hS1 : ScAt (W.setCell ⟨b, 13, none⟩ (.int .i64 0)) b { s with cur := { s.cur with x := 0 } } := .fin (put_at hW1.scn.at_ 13 _) (by rfl)
        obtain ⟨q1, _⟩ := hW1.scn.turn hS1 rfl (But.one 13 _)
        have hW2 : Scr w0 (W.setCell ⟨b, 13, none⟩ (.int .i64 0)) b { s with cur := { s.cur with x := 0 } } G rs hs := hW1.turn q1 (But.one 13 _) (fun k hk => by simp at hk; simp [hk]) rfl (fun _ => Iff.rfl)
        have hp2 : Pg { s with cur := { s.cur with x := 0 } } rs hs nw nh lim (L ++ [t]) 0 wt := ⟨⟨hB.w, hB.h, hB.lim, hB.top, hB.bot, hB.main, hB.ins, hB.nl, hB.wrap, hB.us, hB.l0, hB.fo, hB.ba, hB.ma, hB.st, hB.hv⟩, rfl, hp.cy, hp.wt, hp.some, hp.rows, hp.hist, hp.few, hp.ok⟩
        refine nextLine_of hW1.scn.at_ ((lineFeed_pg hW2 hp2 n1 n2 n3 n4).mono ?_)
        rintro r w' ⟨rfl, s1, rs1, hs1, ⟨k1, k2⟩, k3, k4⟩
        refine ⟨rfl, s1, rs1, hs1, ⟨L ++ [t], [], k1, by simp; omega, by unfold typed; rw [if_neg (by omega)]; rfl, k2⟩, k3, ?_⟩
        exact ((But.refl _ _).setCell (p := ⟨b, 13, none⟩) (.inl (List.mem_append_right _ (by simp))) _).trans k4)
    (fun s1 rs1 hs1 hP => by
      obtain ⟨L1, t1, h1, h2, _, _⟩ := hP
      have hrow := congrArg (·[min (L1 ++ [t1]).length nh - 1]?) h1.rows
      simp only [List.getElem?_map, vis_last n1, Option.map_some] at hrow
      obtain ⟨⟨g, gs⟩, hg, hgs⟩ := Option.map_eq_some_iff.1 hrow
      simp only at hgs
      have htl := h1.few t1 (by simp)
      have hgl : gs.length = nw := by rw [hgs, rowG_len htl]
      have hlen : rs1.length = nh := by
        have := congrArg List.length h1.rows
        simpa [vis_len] using this
      exact ⟨_, t1.length, g, gs, h1.cy, h1.cx, hg, by rw [hgs]; exact rowG_whole (h1.ok t1 (by simp)), by omega, by rw [hgl]; exact h1.base.w, by omega, h1.base.ins, h1.base.wrap, by omega⟩)
    (fun s1 rs1 hs1 hP => by
      obtain ⟨L1, t1, _, _, _, h4⟩ := hP
      exact h4)
  refine key.mono ?_
  rintro r w' ⟨rfl, hfk, s1, rs1, hs1, y, x1, g, gs, ⟨L1, t1, h1, h2, h3, _⟩, hR, hW⟩
  rw [h3]
  have hy : y = min (L1 ++ [t1]).length nh - 1 := by have := h1.cy; rw [hR.cy] at this; omega
  have hx : x1 = t1.length := by have := h1.cx; rw [hR.cx] at this; omega
  have hrow := congrArg (·[min (L1 ++ [t1]).length nh - 1]?) h1.rows
  simp only [List.getElem?_map, vis_last n1, Option.map_some] at hrow
  rw [← hy, hR.row] at hrow
  have hgs : gs = rowG nw t1 := by simpa using hrow
  have htl := h1.few t1 (by simp)
  have hgl : gs.length = nw := by rw [hgs, rowG_len htl]
  have hB1 := h1.base
  have hfew : ∀ q ∈ L1 ++ [t1 ++ [c]], q.length ≤ nw := fun q hq => by
    rcases List.mem_append.1 hq with hq | hq
    · exact h1.few q (List.mem_append_left _ hq)
    · have : q = t1 ++ [c] := by simpa using hq
      rw [this]; simp; omega
  have hok : ∀ q ∈ L1 ++ [t1 ++ [c]], ∀ c ∈ q, 33 ≤ c.toNat ∧ c.toNat ≤ 126 := fun q hq d hd => by
    rcases List.mem_append.1 hq with hq | hq
    · exact h1.ok q (List.mem_append_left _ hq) d hd
    · have e : q = t1 ++ [c] := by simpa using hq
      rw [e] at hd
      rcases List.mem_append.1 hd with hd | hd
      · exact h1.ok t1 (by simp) d hd
      · have : d = c := by simpa using hd
        rw [this]; exact ⟨hc1, hc2⟩
  have hrows : (rs1.set y (g, gs.set x1 ⟨(c.toNat : Int), 1, 0, 0, 0⟩)).map Prod.snd = (vis nh (L1 ++ [t1 ++ [c]])).map (rowG nw) := by
    rw [List.map_set, h1.rows, vis_set n1 L1 t1 (t1 ++ [c]), List.map_set, ← hy, rowG_set h2, hgs, hx]
  have hhist : hs1.map Prod.snd = (old nh lim (L1 ++ [t1 ++ [c]])).map (rowG nw) := by rw [old_last n1 L1 t1]; exact h1.hist
  have hlen : (L1 ++ [t1 ++ [c]]).length = (L1 ++ [t1]).length := by simp
  by_cases hx2 : x1 + 1 < gs.length
  · refine ⟨rfl, hfk, t1.length + 1, false, ⟨_, _, _, hW, ?_⟩, .inl ⟨rfl, by simp, by simp; omega⟩⟩
    unfold wroteX
    rw [if_pos hx2]
    exact ⟨⟨hB1.w, hB1.h, hB1.lim, hB1.top, hB1.bot, hB1.main, hB1.ins, hB1.nl, hB1.wrap, hB1.us, hB1.l0, hB1.fo, hB1.ba, hB1.ma, hB1.st, hB1.hv⟩, by rw [hx]; rfl, by rw [hlen]; exact h1.cy, rfl, by simp, hrows, hhist, hfew, hok⟩
  · refine ⟨rfl, hfk, nw - 1, true, ⟨_, _, _, hW, ?_⟩, .inr ⟨rfl, by simp; omega⟩⟩
    unfold wroteX
    rw [if_neg hx2]
    exact ⟨⟨hB1.w, hB1.h, hB1.lim, hB1.top, hB1.bot, hB1.main, hB1.ins, hB1.nl, hB1.wrap, hB1.us, hB1.l0, hB1.fo, hB1.ba, hB1.ma, hB1.st, hB1.hv⟩, by show (gs.length : Int) - 1 = _; rw [hgl]; omega, by rw [hlen]; exact h1.cy, rfl, by simp, hrows, hhist, hfew, hok⟩
theorem take_letter (n0 : 1 ≤ nw) (n1 : 1 ≤ nh) (n2 : nh ≤ 1000) (n3 : nw ≤ 1000) (n4 : lim ≤ 2000) (hS : Sp w0 w b G nw nh lim (L ++ [t]) x wt) (hT : Behind nw t x wt) (c : UInt8) (hc1 : 33 ≤ c.toNat) (hc2 : c.toNat ≤ 126) :
    Calls Tryz.prog 11 #[.pointer (some ⟨b, 0, none⟩), .int .u8 (c.toNat : Int)] w fun r w' => r = .returned (.tuple #[]) ∧ Fk w w' ∧ ∃ x' wt', Sp w0 w' b G nw nh lim ((typed nw L t c).1 ++ [(typed nw L t c).2]) x' wt' ∧ Behind nw (typed nw L t c).2 x' wt' := by
  have hS' := hS
  obtain ⟨s, rs, hs, h, hp⟩ := hS
  exact take_in h.scn.at_ hp.base.hv (c.toNat : Int) (by omega) (by omega) (by omega) (inside_letter h.scn.at_ hp.base.st c.toNat (by omega) (by omega) (write_pg n0 n1 n2 n3 n4 hS' hT c hc1 hc2))
theorem take_cr (hS : Sp w0 w b G nw nh lim L x wt) : Calls Tryz.prog 11 #[.pointer (some ⟨b, 0, none⟩), .int .u8 13] w fun r w' => r = .returned (.tuple #[]) ∧ Fk w w' ∧ Sp w0 w' b G nw nh lim L 0 false := by
  obtain ⟨s, rs, hs, h, hp⟩ := hS
  have hB := hp.base
  refine take_in h.scn.at_ hB.hv 13 (by decide) (by decide) (by decide) (inside_control h.scn.at_ hB.st 13 (by decide) ((control_cr h.scn.at_).mono ?_))
  rintro r w' ⟨rfl, k1, k2⟩
  obtain ⟨q1, _⟩ := h.scn.turn k1 rfl k2
  exact ⟨rfl, h.fk (k2.mono (fun k _ hk => List.mem_append_right _ (by simp at hk; simp [hk]))), _, _, _, h.turn q1 k2 (fun k hk => by simp at hk; simp [hk]) rfl (fun _ => Iff.rfl), ⟨hB.w, hB.h, hB.lim, hB.top, hB.bot, hB.main, hB.ins, hB.nl, hB.wrap, hB.us, hB.l0, hB.fo, hB.ba, hB.ma, hB.st, hB.hv⟩, rfl, hp.cy, rfl, hp.some, hp.rows, hp.hist, hp.few, hp.ok⟩
theorem take_lf (n1 : 1 ≤ nh) (n2 : nh ≤ 1000) (n3 : nw ≤ 1000) (n4 : lim ≤ 2000) (hS : Sp w0 w b G nw nh lim L x wt) : Calls Tryz.prog 11 #[.pointer (some ⟨b, 0, none⟩), .int .u8 10] w fun r w' => r = .returned (.tuple #[]) ∧ Fk w w' ∧ Sp w0 w' b G nw nh lim (L ++ [[]]) x false := by
  obtain ⟨s, rs, hs, h, hp⟩ := hS
  have hB := hp.base
  refine take_in h.scn.at_ hB.hv 10 (by decide) (by decide) (by decide) (inside_control h.scn.at_ hB.st 10 (by decide) (control_lf h.scn.at_ hB.nl ((lineFeed_pg h hp n1 n2 n3 n4).mono ?_)))
  rintro r w' ⟨rfl, s1, rs1, hs1, ⟨k1, _⟩, k3, k4⟩
  exact ⟨rfl, h.fk k4, s1, rs1, hs1, k3, k1⟩
end
end Go.Proofs.YtooahffclghcjaaGreatDoor
