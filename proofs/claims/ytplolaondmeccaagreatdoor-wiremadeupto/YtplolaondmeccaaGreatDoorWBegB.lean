/-
  Where a class leads to; a field's beginning.
-/
import Derived.Test.YtplolaondmeccaaGreatDoorWBegA
import Derived.Test.YtplolaondmeccaaGreatDoorWWordS
import Derived.WalkKit
import Derived.LoopTactic
namespace Go.Proofs.YtplolaondmeccaaGreatDoor
open Go.RowKit
set_option linter.unusedVariables false

theorem after_any (p c : Int) (w : World) : Calls Tryz.prog 13 #[.int .i64 p, .int .i64 c] w fun e w' => e = .returned (.int .i64 (afterK p c)) ∧ w = w' := by
  have HC : Hid (afterK p c = if p = 0 ∧ c = 1 then 0 else if p = 0 ∧ c = 2 then 1 else if p = 0 ∧ c = 5 then 2 else if p = 1 ∧ c = 3 then 1 else if p = 1 ∧ c = 4 then 0 else 3) := rfl
  obtain ⟨x, hx⟩ : ∃ x, afterK p c = x := ⟨_, rfl⟩
  rw [hx] at HC ⊢
  clear hx
  go_enter Tryz.func13, Tryz.ntmps13
  go_wp2
  all_goals go_ret
  all_goals refine ⟨?_, rfl⟩
  all_goals rw [HC.out]
  all_goals simp_all

/-- The table of the blanks, as it lies. -/
def Spaces (w : World) : Prop := Lib.TabIs Tryz.prog w "strings.asciiSpace" .u8 Lib.asciiSpaceTab

/-- A field's ends are few and plain. -/
def EndsOk (F : FSpec) : Prop := F.ends.size ≤ 16 ∧ (∀ (j : Nat) b, F.ends.data.toList[j]? = some b → b.toNat < 128) ∧ (∀ e ∈ endsL F, e.length ≤ 16) ∧ (endsL F).length ≤ 16

/-- What holds at each round's head. -/
structure FInv (w : World) (F : FSpec) (rv : Value) (t : ByteArray) (T : Nat) (l : List ByteArray) (i : Nat) (wr : World) : Prop where
  hev : ∃ ev, EvAt wr (w.heap.size + 1) ev
  hfld : wr.cell? ⟨w.heap.size, 1, none⟩ = some rv
  htx : TextsIn wr T l
  hT : T ≠ w.heap.size + 1
  hbelow : Below w.heap.size w wr
  hsum : begF F t.data.toList = ((l.drop i).any fun e => (F.read (t.data.toList ++ e.data.toList)).isSome)

theorem cell_kept {w w' : World} {r : Nat} (h : w.grownBy w' (some r)) {p : Addr} {v : Value} (hp : w.cell? p = some v) (hr : p.block ≠ r) : w'.cell? p = some v :=
  (World.cell?_of_block (w := w) (a := p) (h.block p.block (World.block_lt_of_cell? w _ hp) (by simpa using hr))).trans hp

theorem left_some {r : Option (Ev → Ev)} {ev ev' : Ev} {ok : Bool} (h : Left r ev ev' ok) : r.isSome = ok := by
  rcases h with ⟨f, rfl, rfl, _⟩ | ⟨rfl, rfl⟩ <;> rfl

theorem FInv.next {w : World} {F : FSpec} {rv : Value} {t : ByteArray} {T : Nat} {l : List ByteArray} {i : Nat} {wr w2 : World} {x : ByteArray} {ev ev' : Ev} {ok : Bool} (h : FInv w F rv t T l i wr) (hx : l[i]? = some x)
    (hv : EvAt w2 (w.heap.size + 1) ev') (hg : wr.grownBy w2 (some (w.heap.size + 1))) (hl : Left (F.read (t ++ x).data.toList) ev ev' ok) :
    (ok = false → FInv w F rv t T l (i + 1) w2) ∧ (ok = true → begF F t.data.toList = true) ∧ Below w.heap.size w w2 := by
  obtain ⟨hj, rfl⟩ := List.getElem?_eq_some_iff.1 hx
  have hs := h.hsum
  rw [List.drop_eq_getElem_cons hj, List.any_cons, ← cat_data, left_some hl] at hs
  have hbel : Below w.heap.size w w2 := h.hbelow.grown hg h.hbelow.size (fun k e => by cases e; omega)
  refine ⟨fun e => ⟨⟨_, hv⟩, cell_kept hg h.hfld (by simp), h.htx.grown hg (by simpa using h.hT), h.hT, hbel, ?_⟩, fun e => ?_, hbel⟩
  · rw [hs, e]; rfl
  · rw [hs, e]; rfl

/-- The texts of the ends, as they lie. -/
theorem ends_in (w : World) (ls : List (List UInt8)) : TextsIn (w.alloc (.cells (ls.map fun l => Value.string ⟨l.toArray⟩).toArray 9)) w.heap.size (ls.map str) := by
  refine ⟨by simp, fun i t hi => ?_⟩
  rw [cell_at (heap_alloc_new w _), List.getElem?_toArray, List.getElem?_map]
  rw [List.getElem?_map] at hi
  obtain ⟨l, hl, rfl⟩ := Option.map_eq_some_iff.1 hi
  rw [hl]
  rfl

theorem FInv.start {w w1 : World} {F : FSpec} {rv : Value} {t : ByteArray} {ev ev' : Ev} (hev : EvAt w1 (w.heap.size + 1) ev') (hf : w1.cell? ⟨w.heap.size, 1, none⟩ = some rv) (hb : Below w.heap.size w w1) (hno : Left (F.read t.data.toList) ev ev' false) :
    FInv w F rv t w1.heap.size ((endsL F).map str) 0 (w1.alloc (.cells ((endsL F).map fun l => Value.string ⟨l.toArray⟩).toArray 9)) := by
  refine ⟨⟨_, hev.alloc _⟩, past_cell hf _, ends_in _ _, ?_, below_new hb (Nat.le_refl _) _, ?_⟩
  · have := hev.lt
    omega
  · unfold begF
    rw [left_some hno, Bool.false_or, List.drop_zero, List.any_map]
    rfl

set_option maxRecDepth 20000 in
theorem fieldBegins_any (B : Nat) (w : World) (F : FSpec) (pv rv : Value) (es : ByteArray) (hF : IsFE B w F pv rv es) (hB : B ≤ w.heap.size) (hE : Env w) (hS : ∀ W, Below w.heap.size w W → Spaces W) (hes : EndsOk F) (t : ByteArray) (ht : t.size ≤ 67108800) :
    Calls Tryz.prog 39 #[.agg #[pv, rv, .string es], .string t] w fun e w' => e = .returned (.bool (begF F t.data.toList)) ∧ Below w.heap.size w w' := by
  obtain ⟨⟨g, lb, g', lb', rfl, rfl, -, eg, -, hread⟩, rfl⟩ := hF
  unfold Enters at eg
  obtain ⟨W, hW⟩ : ∃ W, (w.alloc (.cells #[.func (.func g) #[] lb, .func (.func g') #[] lb', .string F.ends] 60)).alloc (.cells (Ev.zero 0).vals 27) = W := ⟨_, rfl⟩
  have bW : Below w.heap.size w W := hW ▸ below_new (below1 w _) (Nat.le_refl _) _
  have eW : EvAt W (w.heap.size + 1) (Ev.zero 0) := by
    have := EvAt.new (w.alloc (.cells #[.func (.func g) #[] lb, .func (.func g') #[] lb', .string F.ends] 60)) (Ev.zero 0)
    rw [size1] at this
    exact hW ▸ this
  have hfb := hrow14 w (.cells #[.func (.func g) #[] lb, .func (.func g') #[] lb', .string F.ends] 60) (.cells (Ev.zero 0).vals 27)
  rw [hW] at hfb
  have c1 : W.cell? ⟨w.heap.size, 1, none⟩ = some (.func (.func g') #[] lb') := cell_at hfb 1
  have c2 : W.cell? ⟨w.heap.size, 2, none⟩ = some (.string F.ends) := cell_at hfb 2
  have H1 : Hid (Calls Tryz.prog g' (#[.pointer (some ⟨w.heap.size + 1, 0, none⟩), .string t] ++ lb') W fun e w' => ∃ ev' ok, e = .returned (.bool ok) ∧ EvAt w' (w.heap.size + 1) ev' ∧ W.grownBy w' (some (w.heap.size + 1)) ∧ Left (F.read t.data.toList) (Ev.zero 0) ev' ok) :=
    hread W _ _ t (Since.of_below bW) (hE.below bW) (.inr (by omega)) eW (by unfold lim; omega)
  have HN : Hid (∀ (wr : World) (x : ByteArray) (ev : Ev), Below w.heap.size w wr → EvAt wr (w.heap.size + 1) ev → x.size ≤ 16 → Calls Tryz.prog g' (#[.pointer (some ⟨w.heap.size + 1, 0, none⟩), .string (t ++ x)] ++ lb') wr fun e w' => ∃ ev' ok, e = .returned (.bool ok) ∧ EvAt w' (w.heap.size + 1) ev' ∧ wr.grownBy w' (some (w.heap.size + 1)) ∧ Left (F.read (t ++ x).data.toList) ev ev' ok) :=
    fun wr x ev b1 e1 hx => hread wr _ ev _ (Since.of_below b1) (hE.below b1) (.inr (by omega)) e1 (by unfold lim; rw [ByteArray.size_append]; omega)
  have HFl : Hid (∀ w1, Below w.heap.size w w1 → Calls Tryz.prog 75 #[.string F.ends] w1 fun e w' => e = .returned (.slice (some ⟨w1.heap.size, 0, none⟩) (endsL F).length (endsL F).length) ∧ w' = w1.alloc (.cells ((endsL F).map fun l => Value.string ⟨l.toArray⟩).toArray 9)) :=
    fun w1 b1 => Tryz.strings_Fields F.ends w1 (by have := hes.1; omega) hes.2.1 (hS w1 b1)
  have HLen : Hid (∀ x ∈ (endsL F).map str, x.size ≤ 16) := fun x hx => by
    obtain ⟨e, he, rfl⟩ := List.mem_map.1 hx
    rw [str_size]
    exact hes.2.2.1 e he
  obtain ⟨n, hn⟩ : ∃ n, (endsL F).length = n := ⟨_, rfl⟩
  have hn2 : n ≤ 16 := hn ▸ hes.2.2.2
  have HLn : Hid (((endsL F).map str).length = n) := by show _ = _; rw [List.length_map]; exact hn
  rw [hn] at HFl
  obtain ⟨fl, hfl⟩ : ∃ l, (endsL F).map (fun l => Value.string ⟨l.toArray⟩) = l := ⟨_, rfl⟩
  have HSt : Hid (∀ w1 ev', EvAt w1 (w.heap.size + 1) ev' → w1.cell? ⟨w.heap.size, 1, none⟩ = some (.func (.func g') #[] lb') → Below w.heap.size w w1 → Left (F.read t.data.toList) (Ev.zero 0) ev' false → FInv w F (.func (.func g') #[] lb') t w1.heap.size ((endsL F).map str) 0 (w1.alloc (.cells fl.toArray 9))) :=
    fun w1 ev' a1 a2 a3 a4 => hfl ▸ FInv.start a1 a2 a3 a4
  rw [hfl] at HFl
  obtain ⟨es, hes2⟩ : ∃ es, F.ends = es := ⟨_, rfl⟩
  obtain ⟨res, hres⟩ : ∃ r, begF F t.data.toList = r := ⟨_, rfl⟩
  have HRes : Hid (begF F t.data.toList = res) := hres
  rw [hres]
  rw [hes2] at c2 HFl hW ⊢
  have bW' : Hid (Below w.heap.size w W) := bW
  clear hfb bW eW hread hn hfl hes hS hE hres hes2
  have hW' : Hid ((w.alloc (.cells #[.func (.func g) #[] lb, .func (.func g') #[] lb', .string es] 60)).alloc (.cells (Ev.zero 0).vals 27) = W) := hW
  clear hW
  go_enter Tryz.func39, Tryz.ntmps39
  go_wp2_with fail
  rw [zero_vals] at hW'
  rw [hW'.out]
  refine H1.out.mono ?_
  rintro e w1 ⟨ev', ok, rfl, hv, hg, hl⟩
  have d1 := cell_kept hg c1 (by simp)
  have d2 := cell_kept hg c2 (by simp)
  have HB1 : Hid (Below w.heap.size w w1) := bW'.out.grown hg bW'.out.size (fun k e => by cases e; omega)
  cases ok
  · have HI0 := HSt.out w1 ev' hv d1 HB1.out hl
    clear hv hg hl
    obtain ⟨T, hT⟩ : ∃ T, w1.heap.size = T := ⟨_, rfl⟩
    have HF1 := HFl.out w1 HB1.out
    rw [hT] at HF1 HI0
    obtain ⟨L, hL⟩ : ∃ L, (endsL F).map str = L := ⟨_, rfl⟩
    rw [hL] at HI0 HLen HLn
    have HI : Hid (FInv w F (.func (.func g') #[] lb') t T L 0 (w1.alloc (.cells fl.toArray 9))) := HI0
    have HF : Hid (Calls Tryz.prog 75 #[.string es] w1 fun e w' => e = .returned (.slice (some ⟨T, 0, none⟩) n n) ∧ w' = w1.alloc (.cells fl.toArray 9)) := HF1
    clear HI0 HF1 hL HSt HFl
    go_wp2_with fail
    refine HF.out.mono ?_
    rintro e w2 ⟨rfl, rfl⟩
    obtain ⟨w3, hw3⟩ : ∃ w3, w1.alloc (.cells fl.toArray 9) = w3 := ⟨_, rfl⟩
    rw [hw3] at HI ⊢
    clear hw3 HF d1 d2 HB1 hT
    go_wp2
    go_loopw [16] (fun v wr => ∃ i : Nat, i ≤ n ∧ v = .int .i64 i ∧ FInv w F (.func (.func g') #[] lb') t T L i wr) (fun v _ => n - (intOf v).toNat)
    case atStart => exact ⟨0, Nat.zero_le _, rfl, HI.out⟩
    case round =>
      obtain ⟨i, hi, rfl, hinv⟩ := hrel
      clear HI
      have HI : Hid (FInv w F (.func (.func g') #[] lb') t T L i wr) := hinv
      clear hinv
      by_cases hlt : i < n
      · obtain ⟨x, hx⟩ : ∃ x, L[i]? = some x := ⟨_, List.getElem?_eq_getElem (by rw [HLn.out]; omega)⟩
        have hxl : x.size ≤ 16 := HLen.out x (List.mem_of_getElem? hx)
        obtain ⟨ev, hev⟩ := HI.out.hev
        have d1 := HI.out.hfld
        have d2 := HI.out.htx.2 i x hx
        have HRd := HN.out wr x ev HI.out.hbelow hev hxl
        have HR : Hid (Calls Tryz.prog g' (#[.pointer (some ⟨w.heap.size + 1, 0, none⟩), .string (t ++ x)] ++ lb') wr fun e w' => ∃ ev' ok, e = .returned (.bool ok) ∧ EvAt w' (w.heap.size + 1) ev' ∧ wr.grownBy w' (some (w.heap.size + 1)) ∧ Left (F.read (t ++ x).data.toList) ev ev' ok) := HRd
        have HX : Hid (L[i]? = some x) := hx
        clear hev HRd hx
        go_wp2_with fail
        refine HR.out.mono ?_
        rintro e w4 ⟨ev2, ok, rfl, hv, hg, hl⟩
        obtain ⟨y1, y2, y3⟩ := HI.out.next HX.out hv hg hl
        have HY1 : Hid (ok = false → FInv w F (.func (.func g') #[] lb') t T L (i + 1) w4) := y1
        have HY2 : Hid (ok = true → begF F t.data.toList = true) := y2
        have HY3 : Hid (Below w.heap.size w w4) := y3
        clear y1 y2 y3 hv hg hl d1 d2 HR
        cases ok
        · go_wp2
          go_roundw
          case rel => exact ⟨i + 1, by omega, by go_num, by first | exact HY1.out rfl | exact HY1.out trivial⟩
          case measure => simp [intOf]; omega
        · have hr : res = true := by rw [← HRes.out]; exact HY2.out rfl
          subst hr
          go_wp2
          go_ret
          exact ⟨rfl, HY3.out⟩
      · have hr : res = false := by
          rw [← HRes.out, HI.out.hsum, List.drop_eq_nil_of_le (by rw [HLn.out]; omega)]
          rfl
        have HB : Hid (Below w.heap.size w wr) := HI.out.hbelow
        subst hr
        go_wp2
        go_ret
        exact ⟨rfl, HB.out⟩
  · have hr : res = true := by rw [← HRes.out]; exact begF_self (left_some hl)
    subst hr
    clear hv hg hl
    go_wp2
    go_ret
    exact ⟨rfl, HB1.out⟩

end Go.Proofs.YtplolaondmeccaaGreatDoor
