/-
  Plans: the reader of a body, whatever the text is.
  Plans: Parse of every text.
-/
import Derived.Test.YtglncninkocgaabGreatDoorEB
import Derived.Test.YtglncninkocgaabGreatDoorCZB
namespace Go.Proofs.YtglncninkocgaabGreatDoor
open Go.RowKit
set_option linter.unusedVariables false
set_option maxRecDepth 20000

theorem box_long {b : Box} (h : b.Fit) : 7 ≤ (boxT b).length := by
  have h1 := num_len h.w
  have h2 := num_len h.h
  have h3 := num_len h.x
  have h4 := num_len h.y
  unfold boxT
  simp
  omega
mutual
theorem text_nine : ∀ (t : Tree), t.nums → 9 * t.size ≤ t.text.length
  | .leaf b p, h => by
    have h1 := box_long h.1
    have h2 := num_len h.2
    show 9 * 1 ≤ (boxT b ++ 44 :: putL p).length
    simp
    omega
  | .split b k ts, h => by
    have h1 := box_long h.1
    have h2 := more_nine ts h.2.2.2
    show 9 * (1 + sizes ts) ≤ (boxT b ++ openB k :: ((moreT ts).tail ++ [shutB k])).length
    simp only [List.length_append, List.length_cons, List.length_nil, List.length_tail]
    omega
theorem more_nine : ∀ (ts : List Tree), numsAll ts → 9 * sizes ts ≤ (moreT ts).length - 1
  | [], _ => Nat.zero_le _
  | t :: ts, h => by
    have h1 := text_nine t h.1
    have h2 := more_nine ts h.2
    show 9 * (t.size + sizes ts) ≤ (44 :: (t.text ++ moreT ts)).length - 1
    simp only [List.length_cons, List.length_append]
    omega
end
theorem cell_good (w0 : World) (hN : NumV w0) (t : Tree) (ht : t.nums) (W : World) (g : Nat) (m : List UInt8) (sl : Value) (acc : List CellV) (d : Int) (h0 : 0 ≤ d) (h1 : d + t.size ≤ 1000) (hl : (t.text ++ m).length ≤ 2048) (ha : acc.length + t.size ≤ 1000) (hm : ∀ b p, t = .leaf b p → NoDig m) (hR : RdAt w0 W g (t.text ++ m) sl acc) :
    Calls Tryz.prog 35 #[.pointer (some ⟨g, 0, none⟩), .int .i64 d] W fun e w' => e = .returned (.tuple #[]) ∧ ∃ sl', RdAt w0 w' g m sl' (acc ++ t.tell d) := by
  cases t with
  | leaf b p => exact cell_all w0 hN _ ht W g m sl acc d h0 h1 hl ha (hm b p rfl) hR
  | split b k ts =>
    obtain ⟨hb, hne, hk, hts⟩ := ht
    have hz : (Tree.split b k ts).size = 1 + sizes ts := rfl
    rw [hz] at h1 ha
    have e : (Tree.split b k ts).text ++ m = boxT b ++ openB k :: ((moreT ts).tail ++ shutB k :: m) := by
      show (boxT b ++ openB k :: ((moreT ts).tail ++ [shutB k])) ++ m = _
      simp
    have hall := cells_all w0 hN ts hts
    have hlt : ((moreT ts).tail ++ shutB k :: m).length ≤ 2048 := by rw [e] at hl; simp at hl ⊢; omega
    have et : ∀ kk : Int, acc ++ (Tree.split b kk ts).tell d = (acc ++ [⟨d, kk, b.x, b.y, b.w, b.h, 0⟩]) ++ tellAll ts (d + 1) := fun kk => by
      show acc ++ (⟨d, kk, b.x, b.y, b.w, b.h, 0⟩ :: tellAll ts (d + 1)) = _
      simp
    rw [e, text_box] at hR hl
    rcases hk with rfl | rfl
    · have hp := parts_ok w0 ts 125 (by decide) (by decide) hne hall
      refine cell_walk w0 hN b hb 123 ((moreT ts).tail ++ 125 :: m) m W g sl acc _ d h0 (by omega) (by decide) hl (by omega) (.inr (.inl ⟨rfl, fun X s1 hX => ?_⟩)) hR
      rw [et 2]
      exact hp X g m s1 _ (d + 1) (by omega) (by omega) hlt (by simp; omega) hX
    · have hp := parts_ok w0 ts 93 (by decide) (by decide) hne hall
      refine cell_walk w0 hN b hb 91 ((moreT ts).tail ++ 93 :: m) m W g sl acc _ d h0 (by omega) (by decide) hl (by omega) (.inr (.inr ⟨rfl, fun X s1 hX => ?_⟩)) hR
      rw [et 3]
      exact hp X g m s1 _ (d + 1) (by omega) (by omega) hlt (by simp; omega) hX
theorem cellF_dig {n : Nat} {s : List UInt8} {t : Tree} {m : List UInt8} (h : cellF n s = some (t, m)) : ∀ b p, t = .leaf b p → NoDig m := by
  rintro b p rfl
  cases n with
  | zero => cases h
  | succ n =>
    unfold cellF at h
    split at h
    · cases h
    · cases h
    · split at h
      · obtain ⟨⟨q, r⟩, hp, e⟩ := Option.map_eq_some_iff.1 h
        cases e
        exact (numF_some hp).2.2
      · split at h
        · obtain ⟨⟨q, r⟩, hp, e⟩ := Option.map_eq_some_iff.1 h
          cases e
        · split at h
          · obtain ⟨⟨q, r⟩, hp, e⟩ := Option.map_eq_some_iff.1 h
            cases e
          · cases h

/-- The bounds that a text of a plan keeps. -/
structure Bd (d : Int) (a : Nat) (s : List UInt8) : Prop where
  d0 : 0 ≤ d
  d1 : 8 * d + s.length ≤ 2048
  a1 : 8 * a + s.length ≤ 2048
/-- A cell that is there is read. -/
theorem cell_there (w0 : World) (hN : NumV w0) (n : Nat) (s : List UInt8) (t : Tree) (m : List UInt8) (h : cellF n s = some (t, m)) (W : World) (g : Nat) (sl : Value) (acc : List CellV) (d : Int) (hb : Bd d acc.length s) (hR : RdAt w0 W g s sl acc) :
    (Calls Tryz.prog 35 #[.pointer (some ⟨g, 0, none⟩), .int .i64 d] W fun e w' => e = .returned (.tuple #[]) ∧ ∃ sl', RdAt w0 w' g m sl' (acc ++ t.tell d)) ∧ Bd d (acc ++ t.tell d).length m ∧ m.length < s.length := by
  obtain ⟨e1, ht, hl⟩ := cellF_some n s t m h
  have h9 := text_nine t ht
  have hs := congrArg List.length e1
  rw [List.length_append] at hs
  have h1 := hb.d0
  have h2 := hb.d1
  have h3 := hb.a1
  refine ⟨?_, ⟨h1, by omega, ?_⟩, hl⟩
  · rw [e1] at hR
    exact cell_good w0 hN t ht W g m sl acc d h1 (by omega) (by rw [List.length_append]; omega) (by omega) (cellF_dig h) hR
  · rw [List.length_append, t.tell_length]
    omega

def CellNo (w0 : World) (g n : Nat) : Prop := ∀ (s : List UInt8) (W : World) (sl : Value) (acc : List CellV) (d : Int), 2 * s.length + 1 ≤ n → Bd d acc.length s → cellF n s = none → RdAt w0 W g s sl acc → Calls Tryz.prog 35 #[.pointer (some ⟨g, 0, none⟩), .int .i64 d] W fun e w' => e = .panicked [notBody] ∧ Below w0.heap.size w0 w'
def PartsNo (w0 : World) (g n : Nat) : Prop := ∀ (e : UInt8) (s : List UInt8) (W : World) (sl : Value) (acc : List CellV) (d : Int), (e = 125 ∨ e = 93) → 2 * s.length + 2 ≤ n → Bd d acc.length s → partsF n e s = none → RdAt w0 W g s sl acc → Calls Tryz.prog 49 #[.pointer (some ⟨g, 0, none⟩), .int .i64 d, .int .u8 e.toNat] W fun e w' => e = .panicked [notBody] ∧ Below w0.heap.size w0 w'

theorem cell_no (w0 : World) (hN : NumV w0) (g n : Nat) (hp : ∀ k, k < n → PartsNo w0 g k) : CellNo w0 g n := by
  intro s W sl acc d hf hb hno hR
  cases n with
  | zero => omega
  | succ n =>
    have h1 := hb.d0
    have h2 := hb.d1
    have h3 := hb.a1
    refine cell_fail w0 hN n s W g sl acc d h1 (by omega) (by omega) (by omega) hno (fun r k X s1 hr hX => ?_) hR
    have hbr : Bd (d + 1) (acc ++ [k]).length r := ⟨by omega, by omega, by simp; omega⟩
    exact ⟨fun hq => hp n (by omega) 125 r X s1 _ (d + 1) (.inl rfl) (by omega) hbr hq hX, fun hq => hp n (by omega) 93 r X s1 _ (d + 1) (.inr rfl) (by omega) hbr hq hX⟩

def After (k : Nat) (e : UInt8) (u : List UInt8) : Prop := u = [] ∨ ∃ c r, u = c :: r ∧ c ≠ e ∧ (c ≠ 44 ∨ partsF k e r = none)
theorem after_of {k : Nat} {e : UInt8} {s : List UInt8} {t : Tree} {u : List UInt8} (h : partsF (k + 1) e s = none) (hc : cellF k s = some (t, u)) : After k e u := by
  unfold partsF at h
  rw [hc] at h
  cases u with
  | nil => exact .inl rfl
  | cons c r =>
    simp only [] at h
    refine .inr ⟨c, r, rfl, ?_, ?_⟩
    · intro hce
      rw [if_pos hce] at h
      cases h
    · by_cases h44 : c = 44
      · right
        by_cases hce : c = e
        · rw [if_pos hce] at h; cases h
        · rw [if_neg hce, if_pos h44] at h
          cases hq : partsF k e r with
          | none => rfl
          | some p => rw [hq] at h; cases h
      · exact .inl h44

set_option maxHeartbeats 4000000 in
theorem parts_no (w0 : World) (hN : NumV w0) (g n : Nat) (hc : ∀ k, k < n → CellNo w0 g k) : PartsNo w0 g n := by
  intro e s W sl acc d he hf hb hno hR
  cases n with
  | zero => omega
  | succ n =>
    have HGu : Hid (∀ X, Calls Tryz.prog 36 #[] X fun e w' => e = .panicked [notBody] ∧ X = w') := giveUp_any
    cases hq : cellF n s with
    | none =>
      have HC := hidden (hc n (by omega) s W sl acc d (by omega) hb hq hR)
      clear hR hb hno hc hq hf
      go_enter Tryz.func49, Tryz.ntmps49
      go_wp2_with (go_at_call 35; refine HC.out.mono ?_; rintro e w1 ⟨rfl, hb1⟩)
      exact ⟨rfl, rfl, hb1⟩
    | some p =>
      obtain ⟨t, u⟩ := p
      obtain ⟨c1, b1, l1⟩ := cell_there w0 hN n s t u hq W g sl acc d hb hR
      have HC1 := hidden c1
      have HB1 := hidden b1
      have HA1 := hidden (after_of hno hq)
      have HF1 : Hid (2 * u.length ≤ n) := by show _ ≤ _; omega
      have HE := hidden he
      have HCN : Hid (∀ k, k < n → CellNo w0 g k) := fun k hk => hc k (by omega)
      have HTh : Hid (∀ (k : Nat) (r : List UInt8) (t : Tree) (m : List UInt8) (X : World) (sx : Value) (ax : List CellV), cellF k r = some (t, m) → Bd d ax.length r → RdAt w0 X g r sx ax → (Calls Tryz.prog 35 #[.pointer (some ⟨g, 0, none⟩), .int .i64 d] X fun e w' => e = .returned (.tuple #[]) ∧ ∃ sl', RdAt w0 w' g m sl' (ax ++ t.tell d)) ∧ Bd d (ax ++ t.tell d).length m ∧ m.length < r.length) := fun k r t m X sx ax h1 h2 h3 => cell_there w0 hN k r t m h1 X g sx ax d h2 h3
      have hb44 : ((44 : UInt8).toNat : Int) = 44 := rfl
      clear hR hb hno hc hq hf c1 b1 l1 he hN
      go_enter Tryz.func49, Tryz.ntmps49
      go_wp2_with (go_at_call 35; refine HC1.out.mono ?_; rintro e w1 ⟨rfl, s1, h1⟩; have H1 := hidden h1; clear h1)
      go_loopg [10] u.length (fun gg v wr => ∃ (y : List UInt8) (ax : List CellV) (sx : Value) (k : Nat), gg = y.length ∧ Hid (RdAt w0 wr g y sx ax) ∧ Hid (After k e y) ∧ Hid (Bd d ax.length y) ∧ Hid (2 * y.length ≤ k) ∧ Hid (k ≤ n))
      case atStart => exact ⟨u, _, s1, n, rfl, H1, HA1, HB1, HF1, Nat.le_refl _⟩
      case round =>
        obtain ⟨y, ax, sx, k, rfl, R1, R2, R3, R4, R5⟩ := hrel
        clear H1 HC1 HA1 HB1 HF1
        have hlen : y.length ≤ 2048 := by have h1 := R3.out.d1; have h2 := R3.out.d0; omega
        rcases R2.out with rfl | ⟨c, r, rfl, hce, hor⟩
        · have HX : Hid (Calls Tryz.prog 48 #[.pointer (some ⟨g, 0, none⟩)] wr fun e w' => e = .panicked [notBody] ∧ wr = w') := next_none w0 wr g sx ax R1.out
          have HBw := hidden R1.out.b
          clear R1 R2 R3 R4 R5
          go_wp2_with (go_at_call 48; refine HX.out.mono ?_; rintro e w2 ⟨rfl, rfl⟩)
          exact ⟨rfl, rfl, HBw.out⟩
        · have hne : ¬ (c.toNat : Int) = (e.toNat : Int) := fun h => hce (UInt8.toNat_inj.1 (by omega))
          have HX : Hid (Calls Tryz.prog 48 #[.pointer (some ⟨g, 0, none⟩)] wr fun e w' => e = .returned (.int .u8 c.toNat) ∧ RdAt w0 w' g r sx ax) := by
            refine (next_ok w0 wr g c r sx ax R1.out (by simp at hlen; omega)).mono ?_
            rintro e w' ⟨rfl, rfl⟩
            exact ⟨rfl, R1.out.set⟩
          by_cases h44 : c = 44
          · subst h44
            have hpn : partsF k e r = none := by rcases hor with h | h; exact absurd rfl h; exact h
            have h4 := R4.out
            simp only [List.length_cons] at h4
            obtain ⟨j, rfl⟩ : ∃ j, k = j + 1 := ⟨k - 1, by omega⟩
            have hb3 : Bd d ax.length r := ⟨R3.out.d0, by have := R3.out.d1; simp only [List.length_cons] at this; omega, by have := R3.out.a1; simp only [List.length_cons] at this; omega⟩
            have h5 := R5.out
            cases hq : cellF j r with
            | none =>
              have HK : Hid (∀ X, RdAt w0 X g r sx ax → Calls Tryz.prog 35 #[.pointer (some ⟨g, 0, none⟩), .int .i64 d] X fun e w' => e = .panicked [notBody] ∧ Below w0.heap.size w0 w') := fun X hX => HCN.out j (by omega) r X sx ax d (by omega) hb3 hq hX
              clear R1 R2 R3 R4 R5 h4 h5 hb3 hq hpn hor hlen hce
              go_wp2_with (first | (go_at_call 48; refine HX.out.mono ?_; rintro e w2 ⟨rfl, h2⟩; have H2 := hidden h2; clear h2) | (go_at_call 35; refine (HK.out _ H2.out).mono ?_; rintro e w3 ⟨rfl, hb3⟩))
              exact ⟨rfl, rfl, hb3⟩
            | some p =>
              obtain ⟨t2, u2⟩ := p
              have HK : Hid (∀ X, RdAt w0 X g r sx ax → Calls Tryz.prog 35 #[.pointer (some ⟨g, 0, none⟩), .int .i64 d] X fun e w' => e = .returned (.tuple #[]) ∧ ∃ sl', RdAt w0 w' g u2 sl' (ax ++ t2.tell d)) := fun X hX => (HTh.out j r t2 u2 X sx ax hq hb3 hX).1
              have K2 := hidden (after_of hpn hq)
              have K3 : Hid (Bd d (ax ++ t2.tell d).length u2 ∧ u2.length < r.length) := (HTh.out j r t2 u2 _ sx ax hq hb3 (R1.out.set (m := r))).2
              have K4 : Hid (2 * u2.length ≤ j) := by show _ ≤ _; have := K3.out.2; omega
              have K5 : Hid (j ≤ n) := by show _ ≤ _; omega
              have hms : u2.length < r.length := K3.out.2
              clear R1 R2 R3 R4 R5 h4 h5 hb3 hq hpn hor hlen hce
              go_wp2_with (first | (go_at_call 48; refine HX.out.mono ?_; rintro e w2 ⟨rfl, h2⟩; have H2 := hidden h2; clear h2) | (go_at_call 35; refine (HK.out _ H2.out).mono ?_; rintro e w3 ⟨rfl, s3, h3⟩; have H3 := hidden h3; clear h3))
              go_roundg u2.length
              case measure => simp; omega
              case rel => exact ⟨u2, _, s3, j, rfl, H3, K2, K3.out.1, K4, K5⟩
          · have hn44 : ¬ (c.toNat : Int) = 44 := fun e => h44 (UInt8.toNat_inj.1 (by simpa using (by omega : c.toNat = 44)))
            clear R1 R2 R3 R4 R5 hor hlen hce h44
            go_wp2_with (first | (go_at_call 48; refine HX.out.mono ?_; rintro e w2 ⟨rfl, h2⟩; have H2 := hidden h2.b; clear h2) | (go_at_call 36; refine (HGu.out _).mono ?_; rintro e w3 ⟨rfl, rfl⟩))
            exact ⟨rfl, rfl, H2.out⟩
theorem both_no (w0 : World) (hN : NumV w0) (g : Nat) : ∀ n, CellNo w0 g n ∧ PartsNo w0 g n := by
  intro n
  induction n using Nat.strongRecOn with
  | _ n ih => exact ⟨cell_no w0 hN g n fun k hk => (ih k hk).2, parts_no w0 hN g n fun k hk => (ih k hk).1⟩
end Go.Proofs.YtglncninkocgaabGreatDoor

namespace Go.Proofs.YtglncninkocgaabGreatDoor
open Go.RowKit
set_option linter.unusedVariables false
set_option maxRecDepth 20000

/-- What a body is read as. -/
def bodyF (s : List UInt8) : Option Tree := match cellF (2 * s.length + 1) s with
  | some (t, []) => some t
  | _ => none
theorem bodyF_some {s : List UInt8} {t : Tree} (h : bodyF s = some t) : s = t.text ∧ t.nums := by
  unfold bodyF at h
  split at h
  · rename_i t' hc
    cases h
    obtain ⟨e1, ht, _⟩ := cellF_some _ _ _ _ hc
    rw [List.append_nil] at e1
    exact ⟨e1, ht⟩
  · cases h

set_option maxHeartbeats 1000000 in
theorem readBody_none (s0 : List UInt8) (w : World) (hN : NumV w) (hl : s0.length ≤ 2048) (hno : bodyF s0 = none) : Calls Tryz.prog 21 #[.string (str s0)] w fun e w' => e = .panicked [notBody] ∧ Below w.heap.size w w' := by
  have H0 : Hid (RdAt w (w.alloc (.cells #[.string (str s0), .slice none 0 0] 69)) w.heap.size s0 (.slice none 0 0) []) := ⟨(MapKept.heap_alloc w _).1, World.ownsRow_nil _ _ _ _, (Below.refl _ _).alloc (Nat.le_refl _) _, Nat.le_refl _⟩
  have hb : Bd 0 ([] : List CellV).length s0 := ⟨Int.le_refl _, by omega, by simp; omega⟩
  have HGu : Hid (∀ X, Calls Tryz.prog 36 #[] X fun e w' => e = .panicked [notBody] ∧ X = w') := giveUp_any
  cases hq : cellF (2 * s0.length + 1) s0 with
  | none =>
    have HC : Hid (Calls Tryz.prog 35 #[.pointer (some ⟨w.heap.size, 0, none⟩), .int .i64 0] (w.alloc (.cells #[.string (str s0), .slice none 0 0] 69)) fun e w' => e = .panicked [notBody] ∧ Below w.heap.size w w') := (both_no w hN w.heap.size (2 * s0.length + 1)).1 s0 _ _ [] 0 (Nat.le_refl _) hb hq H0.out
    obtain ⟨s, hs⟩ : ∃ s, str s0 = s := ⟨_, rfl⟩
    rw [hs] at HC ⊢
    clear H0 hN hl hno hq hb hs
    go_enter Tryz.func21, Tryz.ntmps21
    go_wp2_with (go_at_call 35; refine HC.out.mono ?_; rintro e w1 ⟨rfl, hb1⟩)
    exact ⟨rfl, rfl, hb1⟩
  | some p =>
    obtain ⟨t, m⟩ := p
    have hm : m ≠ [] := by
      rintro rfl
      unfold bodyF at hno
      rw [hq] at hno
      cases hno
    have HC := hidden (cell_there w hN _ s0 t m hq _ w.heap.size _ [] 0 hb H0.out).1
    obtain ⟨s, hs⟩ : ∃ s, str s0 = s := ⟨_, rfl⟩
    obtain ⟨x, hx⟩ : ∃ s, str m = s := ⟨_, rfl⟩
    have hne := toList_ne0 (s := x) (by rw [← hx, str_size]; cases m with | nil => exact absurd rfl hm | cons a b => simp)
    obtain ⟨n1, n2⟩ := hne
    have HX := hidden hx
    rw [hs] at HC ⊢
    clear H0 hN hl hno hq hb hs hm hx
    go_enter Tryz.func21, Tryz.ntmps21
    go_wp2_with (first | (go_at_call 35; refine HC.out.mono ?_; rintro e w1 ⟨rfl, s1, h1⟩; have H1 := hidden h1.b; have c0 := h1.cells.1; rw [HX.out] at c0; clear h1) | (go_at_call 36; refine (HGu.out _).mono ?_; rintro e w3 ⟨rfl, rfl⟩))
    exact ⟨rfl, rfl, H1.out⟩

set_option maxHeartbeats 1000000 in
theorem readBody_all (b0 : ByteArray) (t : Tree) (w : World) (hN : NumV w) (hb0 : bodyF b0.data.toList = some t) (hl : b0.data.toList.length ≤ 2048) : Calls Tryz.prog 21 #[.string b0] w fun e w' => ∃ sl, e = .returned sl ∧ CeOwns w' w.heap.size sl (t.tell 0) ∧ Below w.heap.size w w' := by
  have H0 : Hid (RdAt w (w.alloc (.cells #[.string (str b0.data.toList), .slice none 0 0] 69)) w.heap.size b0.data.toList (.slice none 0 0) []) := ⟨(MapKept.heap_alloc w _).1, World.ownsRow_nil _ _ _ _, (Below.refl _ _).alloc (Nat.le_refl _) _, Nat.le_refl _⟩
  have hb : Bd 0 ([] : List CellV).length b0.data.toList := ⟨Int.le_refl _, by omega, by show 8 * 0 + _ ≤ 2048; omega⟩
  have hq : cellF (2 * b0.data.toList.length + 1) b0.data.toList = some (t, []) := by
    unfold bodyF at hb0
    split at hb0
    · rename_i t' hc
      cases hb0
      exact hc
    · cases hb0
  have HC := hidden (cell_there w hN _ _ t [] hq _ w.heap.size _ [] 0 hb H0.out).1
  rw [data_str] at HC
  clear H0 hN hl hq hb hb0
  go_enter Tryz.func21, Tryz.ntmps21
  go_wp2_with (go_at_call 35; refine HC.out.mono ?_; rintro e w1 ⟨rfl, s1, h1⟩; have H1 := hidden h1; have c0 : w1.cell? ⟨w.heap.size, 0, none⟩ = some (.string ⟨#[]⟩) := h1.cells.1; have c1 := h1.cells.2.1; clear h1)
  all_goals go_ret
  exact ⟨_, rfl, ⟨H1.out.own.1, H1.out.own.2.imp id fun ⟨g, cap, cur, a1, a2, a3⟩ => ⟨g, cap, cur, a1, by omega, a3⟩⟩, H1.out.b⟩

theorem parse_catch (p q : Addr) (a b : Value) (older : List PanicEntry) (w : World) (hpq : p ≠ q) (hc : w.cell? p = some a) (hz : w.frozen? p = false) (hc2 : (w.setCell p (.slice none 0 0)).cell? q = some b) (hz2 : (w.setCell p (.slice none 0 0)).frozen? q = false) :
    CallsD Tryz.prog 18 #[.pointer (some p), .pointer (some q)] (.panicking (notBody :: older)) w fun e u' w' => e = .returned (.tuple #[]) ∧ u' = .panicking ({ notBody with recovered := true } :: older) ∧ w' = (w.setCell p (.slice none 0 0)).setCell q (.int .i64 50) := by
  unfold notBody
  refine callsD_of_wpS Tryz.func18 rfl fun c₀ cs hu => ?_
  apply wpS_seq
  apply wpS_region
  simp [wpOpsS, go_sem, recoverD, hu, Tryz.ntmps18, Exit.thenS]
  refine wpS_cond (t := true) (by simp [Act.eval, Array.replicate]) ?_
  simp only [if_true]
  apply wpS_region
  simp [wpOpsS, go_sem, hc, hz, hc2, hz2, bodyPostS, results, Tryz.results18]

set_option maxHeartbeats 4000000 in
theorem parse_give (s : ByteArray) (w : World) (hN : NumV w) (hs : s.size ≤ 2048) (hh : headB s.data.toList = true) (hn : s.data.toList.take 5 = headL (sumS (s.data.toList.drop 5))) (hb : bodyF (s.data.toList.drop 5) = none) : Calls Tryz.prog 7 #[.string s] w fun e w' => e = .returned (.tuple #[.slice none 0 0, .int .i64 50]) ∧ Below w.heap.size w w' := by
  have hmf : ∀ (fn : Fn) (first cap : Array Value) (w : World), (Instr.makeFunc fn first cap).run Tryz.prog w = .ok (.func fn first cap) w := fun _ _ _ _ => rfl
  obtain ⟨N, hNs⟩ : ∃ N, s.size = N := ⟨_, rfl⟩
  have hlen : s.data.toList.length = N := by rw [← hNs]; exact Array.length_toList
  have h5 := head_size hh
  have hz : ¬ (2048 : Int) < (N : Int) := by omega
  have hz5 : (5 : Int) ≤ (N : Int) := by omega
  have HH : Hid (∀ X, Calls Tryz.prog 19 #[.string s] X fun e w' => e = .returned (.bool true) ∧ X = w') := fun X => by rw [← hh]; exact hasHead_any s X hs
  obtain ⟨bd, hbd⟩ : ∃ b, s.extract 5 N = b := ⟨_, rfl⟩
  have e1 : bd.data.toList = s.data.toList.drop 5 := by rw [← hbd, ← hNs, Lib.extract_to_end]
  obtain ⟨hd, hhd⟩ : ∃ b, str (headL (sumS (s.data.toList.drop 5))) = b := ⟨_, rfl⟩
  have HO : Hid (∀ X, Calls Tryz.prog 20 #[.string bd] X fun e w' => e = .returned (.string hd) ∧ Below X.heap.size X w') := fun X => by
    have h := headOf_any bd X (by rw [← hbd]; simp; omega)
    rw [e1, hhd] at h
    exact h
  have ht5 : s.extract 0 5 = hd := by
    rw [← data_str (s.extract 0 5), Lib.extract_from_zero, hn, hhd]
  have HRd : Hid (∀ X, Below w.heap.size w X → Calls Tryz.prog 21 #[.string bd] X fun e w' => e = .panicked [notBody] ∧ Below X.heap.size X w') := fun X hX => by
    rw [← data_str bd, e1]
    exact readBody_none _ X (hN.below hX) (by rw [List.length_drop]; omega) hb
  have HR0 : Hid (ResAt w ((w.alloc (.cells #[.slice none 0 0] 22)).alloc (.cells #[.int .i64 0] 29))) := ResAt.first w
  clear hN hh hn hlen e1 hhd hs hb
  go_enter_defers Tryz.func7, Tryz.ntmps7
  go_wp2_with (go_at_call 19; refine (HH.out _).mono ?_; rintro e w1 ⟨rfl, rfl⟩)
  refine wp_region_noPanic ?_
  go_region_with (go_at_call 20; refine (HO.out _).mono ?_; rintro e w2 ⟨rfl, hb2⟩; have HR2 := hidden ((HR0.out.below (Below.refl _ _).drew).below hb2); clear hb2)
  all_goals (
    simp only [NoPanic]
    go_wp2_with (go_at_call 21; refine (HRd.out _ HR2.out.b).mono ?_; rintro e w3 ⟨rfl, hb3⟩; have HR3 := hidden (HR2.out.below hb3); clear hb3)
    obtain ⟨p1, p2, p3, p4⟩ := HR3.out.free
    obtain ⟨y1, y2, y3, y4, y5, _⟩ := HR3.out.out (.slice none 0 0) (.slice none 0 0) 50
    have HY := hidden y5
    clear y5
    refine leaves_cons (f := 18) (args := #[.pointer (some ⟨w.heap.size, 0, none⟩), .pointer (some ⟨w.heap.size + 1, 0, none⟩)]) (by simp) (by simp [go_sem]) ?_
    refine (parse_catch ⟨w.heap.size, 0, none⟩ ⟨w.heap.size + 1, 0, none⟩ _ _ _ _ (by simp) p1 p2 y3 y4).mono ?_
    rintro e u' w'' ⟨rfl, rfl, rfl⟩
    simp [Leaves, settle, results, Tryz.results7, go_sem, y1, y2]
    exact HY.out)

set_option maxHeartbeats 4000000 in
theorem parse_bad (s : ByteArray) (w : World) (hN : NumV w) (hs : s.size ≤ 2048) (hh : headB s.data.toList = true) (hn : s.data.toList.take 5 = headL (sumS (s.data.toList.drop 5))) (t : Tree) (hb : bodyF (s.data.toList.drop 5) = some t) (hr : readF (t.tell 0) = none) : Calls Tryz.prog 7 #[.string s] w fun e w' => e = .returned (.tuple #[.slice none 0 0, .int .i64 40]) ∧ Below w.heap.size w w' := by
  have hmf : ∀ (fn : Fn) (first cap : Array Value) (w : World), (Instr.makeFunc fn first cap).run Tryz.prog w = .ok (.func fn first cap) w := fun _ _ _ _ => rfl
  obtain ⟨N, hNs⟩ : ∃ N, s.size = N := ⟨_, rfl⟩
  have hlen : s.data.toList.length = N := by rw [← hNs]; exact Array.length_toList
  have h5 := head_size hh
  have hz : ¬ (2048 : Int) < (N : Int) := by omega
  have hz5 : (5 : Int) ≤ (N : Int) := by omega
  have HH : Hid (∀ X, Calls Tryz.prog 19 #[.string s] X fun e w' => e = .returned (.bool true) ∧ X = w') := fun X => by rw [← hh]; exact hasHead_any s X hs
  obtain ⟨bd, hbd⟩ : ∃ b, s.extract 5 N = b := ⟨_, rfl⟩
  have e1 : bd.data.toList = s.data.toList.drop 5 := by rw [← hbd, ← hNs, Lib.extract_to_end]
  obtain ⟨hd, hhd⟩ : ∃ b, str (headL (sumS (s.data.toList.drop 5))) = b := ⟨_, rfl⟩
  have HO : Hid (∀ X, Calls Tryz.prog 20 #[.string bd] X fun e w' => e = .returned (.string hd) ∧ Below X.heap.size X w') := fun X => by
    have h := headOf_any bd X (by rw [← hbd]; simp; omega)
    rw [e1, hhd] at h
    exact h
  have ht5 : s.extract 0 5 = hd := by
    rw [← data_str (s.extract 0 5), Lib.extract_from_zero, hn, hhd]
  obtain ⟨ht1, ht2⟩ := bodyF_some hb
  have HRd : Hid (∀ X, Below w.heap.size w X → Calls Tryz.prog 21 #[.string bd] X fun e w' => ∃ sl, e = .returned sl ∧ CeOwns w' X.heap.size sl (t.tell 0) ∧ Below X.heap.size X w') := fun X hX => readBody_all bd t X (hN.below hX) (by rw [e1]; exact hb) (by rw [e1, List.length_drop]; omega)
  have HCk : Hid (∀ u X, CellsIn X u (t.tell 0) → Calls Tryz.prog 22 #[u] X fun e w' => e = .returned (.int .i64 40) ∧ Below X.heap.size X w') := fun u X hX => by
    have h := check_any u (t.tell 0) X hX
    have e : checkE (t.tell 0) = 40 := by unfold checkE; rw [hr]; rfl
    rw [e] at h
    exact h
  have HR0 : Hid (ResAt w ((w.alloc (.cells #[.slice none 0 0] 22)).alloc (.cells #[.int .i64 0] 29))) := ResAt.first w
  clear hN hh hn hlen e1 hhd hs hb hr ht1 ht2
  go_enter_defers Tryz.func7, Tryz.ntmps7
  go_wp2_with (go_at_call 19; refine (HH.out _).mono ?_; rintro e w1 ⟨rfl, rfl⟩)
  refine wp_region_noPanic ?_
  go_region_with (go_at_call 20; refine (HO.out _).mono ?_; rintro e w2 ⟨rfl, hb2⟩; have HR2 := hidden ((HR0.out.below (Below.refl _ _).drew).below hb2); clear hb2)
  all_goals (
    simp only [NoPanic]
    go_wp2_with (first | (go_at_call 21; refine (HRd.out _ HR2.out.b).mono ?_; rintro e w3 ⟨sl, rfl, ho, hb3⟩; obtain ⟨sa, sn, sc, rfl⟩ := ce_slice ho; have HR3 := hidden (HR2.out.below hb3); have HO3 := hidden ho; clear ho hb3) | (go_at_call 22; refine (HCk.out _ _ HO3.out.cellsIn).mono ?_; rintro e w4 ⟨rfl, hb4⟩; have HR4 := hidden (HR3.out.below hb4); have p1 := HR4.out.free.1; have p2 := HR4.out.free.2.1; have p3 := HR4.out.free.2.2.1; have p4 := HR4.out.free.2.2.2; have y1 := (HR4.out.out (.slice none 0 0) (.slice none 0 0) 40).1; have y2 := (HR4.out.out (.slice none 0 0) (.slice none 0 0) 40).2.1; have y3 := (HR4.out.out (.slice none 0 0) (.slice none 0 0) 40).2.2.1; have y4 := (HR4.out.out (.slice none 0 0) (.slice none 0 0) 40).2.2.2.1; have HY := hidden (HR4.out.out (.slice none 0 0) (.slice none 0 0) 40).2.2.2.2.1; clear hb4))
    refine leaves_cons (f := 18) (args := #[.pointer (some ⟨w.heap.size, 0, none⟩), .pointer (some ⟨w.heap.size + 1, 0, none⟩)]) (by simp) (by simp [go_sem]) ?_
    refine (parse_idle ⟨w.heap.size, 0, none⟩ ⟨w.heap.size + 1, 0, none⟩ _).mono ?_
    rintro e u' w'' ⟨rfl, rfl, rfl⟩
    simp [Leaves, settle, results, Tryz.results7, go_sem, y1, y2]
    exact HY.out)
end Go.Proofs.YtglncninkocgaabGreatDoor
