/-
  Keys: KeysRound: the bytes of a key tell it (pure), lists beside a decoder, a list of keys that is handed in.
-/
import Derived.Test.YtghepjjfdaecgaaDoorKRdQ
import Derived.Test.YtghepjjfdaecgaaDoorKFeedB
import Derived.Test.YtghepjjfdaecgaaDoorKFlu
import Derived.Test.YtghepjjfdaecgaaDoorKPieW
import Derived.Test.YtghepjjfdaecgaaDoorKOpn
import Derived.Test.YtghepjjfdaecgaaDoorKSame
import Derived.ChangeArms
import Derived.Carry
namespace Go.Proofs.YtghepjjfdaecgaaDoor
open Go.RowKit
set_option linter.unusedVariables false
set_option maxRecDepth 100000

def excB (c m : Int) : Bool := decide (c = 27 ∧ m = 0) || decide (c = 91 ∧ m = 2) || decide (c = 79 ∧ m = 2)
def rouB (c m : Int) (app : Bool) : Bool :=
  !(validB c m) || (decide ((feedF [] (bytesF c m app)).2 ++ flushF (feedF [] (bytesF c m app)).1 = [(c, m)]) && (excB c m || decide (feedF [] (bytesF c m app) = ([], [(c, m)]))) && decide ((bytesF c m app).length ≤ 7))
def rowB (c : Int) : Bool := (List.range 8).all fun m => rouB c (m : Int) true && rouB c (m : Int) false
theorem rou_low : ((List.range 128).all fun c => rowB (c : Int)) = true := by kernel_rfl
theorem rou_spc : ((List.range 23).all fun c => rowB (16777217 + (c : Int))) = true := by kernel_rfl
theorem row_of {c : Int} (h : rowB c = true) {m : Int} (m0 : 0 ≤ m) (m7 : m ≤ 7) (app : Bool) : rouB c m app = true := by
  unfold rowB at h
  rw [List.all_eq_true] at h
  have h1 := h m.toNat (List.mem_range.2 (by omega))
  rw [Bool.and_eq_true, Int.toNat_of_nonneg m0] at h1
  cases app
  · exact h1.2
  · exact h1.1
theorem take_hi {x : UInt8} {r : List UInt8} (h : 128 ≤ x.toNat) (b : UInt8) : takeF (x :: r) b = chF (x :: r) b := by
  unfold takeF
  split
  · rename_i e; cases e
  · rename_i e; cases e; exact absurd h (by decide)
  · rename_i e; cases e; exact absurd h (by decide)
  · rename_i e; cases e; exact absurd h (by decide)
  · rfl
theorem take_eh {x : UInt8} {r : List UInt8} (h : 128 ≤ x.toNat) (b : UInt8) : takeF (27 :: x :: r) b = chF (27 :: x :: r) b := by
  unfold takeF
  split
  · rename_i e; cases e
  · rename_i e; cases e
  · rename_i e; cases e; exact absurd h (by decide)
  · rename_i e; cases e; exact absurd h (by decide)
  · rfl
theorem take_es {b : UInt8} (h : 128 ≤ b.toNat) : takeF [27] b = chF [27] b := by
  show (if b = 91 ∨ b = 79 then _ else if b.toNat < 128 then _ else _) = _
  rw [if_neg (fun e => by rcases e with rfl | rfl <;> exact absurd h (by decide)), if_neg (by omega)]
theorem behind_hi {x : UInt8} {r : List UInt8} (h : 128 ≤ x.toNat) : behindF (x :: r) = (x :: r, 0) := by
  unfold behindF
  split
  · rename_i e; cases e; exact absurd h (by decide)
  · rfl
/-- What stands ahead of a character. -/
def preE : Bool → List UInt8
  | true => [27]
  | false => []
def preM2 : Bool → Int
  | true => 2
  | false => 0
theorem behind_pre (e : Bool) {x : UInt8} {r : List UInt8} (h : 128 ≤ x.toNat) : behindF (preE e ++ x :: r) = (x :: r, preM2 e) := by
  cases e
  · exact behind_hi h
  · rfl
theorem take_pre (e : Bool) {x : UInt8} {r : List UInt8} (h : 128 ≤ x.toNat) (b : UInt8) : takeF (preE e ++ x :: r) b = chF (preE e ++ x :: r) b := by
  cases e
  · exact take_hi h b
  · exact take_eh h b
theorem feed_consR (h : List UInt8) (b : UInt8) (r : List UInt8) : feedF h (b :: r) = ((feedF (takeF h b).1 r).1, if (takeF h b).2.1 = 0 then (feedF (takeF h b).1 r).2 else (takeF h b).2 :: (feedF (takeF h b).1 r).2) := rfl
theorem feed_hold {h h' : List UInt8} {b : UInt8} {r : List UInt8} (ht : takeF h b = (h', (0, 0))) : feedF h (b :: r) = feedF h' r := by
  rw [feed_consR, ht]
  show ((feedF h' r).1, if (0 : Int) = 0 then (feedF h' r).2 else _) = _
  rw [if_pos rfl]
theorem chain (e : Bool) {x : UInt8} (hx : 128 ≤ x.toNat) {c : Int} (hc : chrB c = true) (h0 : c ≠ 0) : ∀ (r s : List UInt8), r ≠ [] → (∀ k, k < r.length → fullB ((x :: s) ++ r.take k) = false) → fullB ((x :: s) ++ r) = true →
    ((dec ((x :: s) ++ r)).1 : Int) = c → (dec ((x :: s) ++ r)).2 = ((x :: s) ++ r).length → feedF (preE e ++ x :: s) r = ([], [(c, preM2 e)])
  | [], s, hr, _, _, _, _ => absurd rfl hr
  | [b], s, _, _, hfu, hd1, hd2 => by
    have hch : takeF (preE e ++ x :: s) b = ([], (c, preM2 e)) := by
      rw [take_pre e hx]
      unfold chF
      have hb : behindF (preE e ++ x :: s ++ [b]) = (x :: (s ++ [b]), preM2 e) := by
        rw [List.append_assoc]; exact behind_pre e hx
      have hd2' : (dec (x :: (s ++ [b]))).2 = (x :: (s ++ [b])).length := hd2
      have hd1' : ((dec (x :: (s ++ [b]))).1 : Int) = c := hd1
      have hfu' : fullB (x :: (s ++ [b])) = true := hfu
      simp only [hb]
      rw [if_pos hfu', if_neg (by omega), if_neg, hd1']
      rw [hd1', hc, hd2']
      intro q
      rcases q with q | q
      · simp at q
      · cases q
    rw [feed_consR, hch]
    simp only [feedF]
    rw [if_neg h0]
  | b :: y :: r, s, _, hno, hfu, hd1, hd2 => by
    have h1 : fullB (x :: (s ++ [b])) = false := by have := hno 1 (by simp); simpa using this
    have hch : takeF (preE e ++ x :: s) b = (preE e ++ x :: (s ++ [b]), (0, 0)) := by
      rw [take_pre e hx]
      unfold chF
      have hb : behindF (preE e ++ x :: s ++ [b]) = (x :: (s ++ [b]), preM2 e) := by
        rw [List.append_assoc]; exact behind_pre e hx
      simp only [hb]
      rw [if_neg (by rw [h1]; decide), List.append_assoc]
      rfl
    have ih := chain e hx hc h0 (y :: r) (s ++ [b]) (by simp) (fun k hk => by
      have := hno (k + 1) (by simp at hk ⊢; omega)
      simpa using this) (by simpa using hfu) (by simpa using hd1) (by simpa using hd2)
    rw [feed_hold hch, ih]
theorem chain_all (e : Bool) {x : UInt8} {r : List UInt8} (hx : 128 ≤ x.toNat) {c : Int} (hc : chrB c = true) (h0 : c ≠ 0) (hr : r ≠ []) (hno : ∀ k, k < r.length → fullB (x :: r.take k) = false) (hfu : fullB (x :: r) = true)
    (hd1 : ((dec (x :: r)).1 : Int) = c) (hd2 : (dec (x :: r)).2 = (x :: r).length) : feedF [] (preE e ++ x :: r) = ([], [(c, preM2 e)]) := by
  have h := chain e hx hc h0 r [] hr hno hfu hd1 hd2
  have f1 : fullB [x] = false := by
    have := hno 0 (by cases r with | nil => exact absurd rfl hr | cons _ _ => simp)
    simpa using this
  cases e
  · show feedF [] (x :: r) = _
    have ht : takeF [] x = ([x], (0, 0)) := by
      show take0 x = _
      unfold take0
      rw [if_neg (fun e => by rw [e] at hx; exact absurd hx (by decide)), if_neg (by omega), if_neg (by rw [f1]; decide)]
    rw [feed_hold ht]
    exact h
  · show feedF [] (27 :: x :: r) = _
    have ht : takeF [] 27 = ([27], (0, 0)) := rfl
    have ht2 : takeF [27] x = ([27, x], (0, 0)) := by
      rw [take_es hx]
      unfold chF
      have hb : behindF ([27] ++ [x]) = ([x], 2) := rfl
      simp only [hb]
      rw [if_neg (by rw [f1]; decide)]
      rfl
    rw [feed_hold ht, feed_hold ht2]
    exact h

theorem u8_of {z : Int} (h0 : 0 ≤ z) (h1 : z < 256) : (z.toNat.toUInt8).toNat = z.toNat := by
  rw [Nat.toUInt8_eq, UInt8.toNat_ofNat', Nat.mod_eq_of_lt]
  omega
theorem lead3 {x b : Nat} (hx : 224 ≤ x ∧ x < 240) (hb : 128 ≤ b ∧ b < 192) (h0 : x = 224 → 160 ≤ b) (hd : x = 237 → b < 160) : Lib.firstT x % 8 = 3 ∧ Lib.accLo (Lib.firstT x / 16) ≤ b ∧ b ≤ Lib.accHi (Lib.firstT x / 16) := by
  rcases (by omega : x = 224 ∨ x = 237 ∨ ((225 ≤ x ∧ x < 237) ∨ (238 ≤ x ∧ x < 240))) with e | e | e
  · rw [Lib.firstT_E0 e]; exact ⟨rfl, h0 e, by show b ≤ 191; omega⟩
  · rw [Lib.firstT_ED e]; exact ⟨rfl, hb.1, by show b ≤ 159; have := hd e; omega⟩
  · rw [Lib.firstT_E1 e]; exact ⟨rfl, hb.1, by show b ≤ 191; omega⟩
theorem lead4 {x b : Nat} (hx : 240 ≤ x ∧ x < 245) (hb : 128 ≤ b ∧ b < 192) (h0 : x = 240 → 144 ≤ b) (hd : x = 244 → b < 144) : Lib.firstT x % 8 = 4 ∧ Lib.accLo (Lib.firstT x / 16) ≤ b ∧ b ≤ Lib.accHi (Lib.firstT x / 16) := by
  rcases (by omega : x = 240 ∨ x = 244 ∨ (241 ≤ x ∧ x < 244)) with e | e | e
  · rw [Lib.firstT_F0 e]; exact ⟨rfl, h0 e, by show b ≤ 191; omega⟩
  · rw [Lib.firstT_F4 e]; exact ⟨rfl, hb.1, by show b ≤ 143; have := hd e; omega⟩
  · rw [Lib.firstT_F1 e]; exact ⟨rfl, hb.1, by show b ≤ 191; omega⟩
theorem full1 {x : UInt8} {n : Nat} (h : Lib.firstT x.toNat % 8 = n) : fullB [x] = decide (n ≤ 1) := by
  show (decide (Lib.firstT x.toNat % 8 ≤ 0 + 1) || false) = _
  rw [h, Bool.or_false]
theorem full2 {x b : UInt8} {n : Nat} (h : Lib.firstT x.toNat % 8 = n) (h1 : Lib.accLo (Lib.firstT x.toNat / 16) ≤ b.toNat) (h2 : b.toNat ≤ Lib.accHi (Lib.firstT x.toNat / 16)) : fullB [x, b] = decide (n ≤ 2) := by
  have q : ¬ (b.toNat < Lib.accLo (Lib.firstT x.toNat / 16) ∨ Lib.accHi (Lib.firstT x.toNat / 16) < b.toNat) := by omega
  show (decide (Lib.firstT x.toNat % 8 ≤ 1 + 1) || (decide (b.toNat < Lib.accLo (Lib.firstT x.toNat / 16) ∨ Lib.accHi (Lib.firstT x.toNat / 16) < b.toNat) || false)) = _
  rw [h, decide_eq_false q, Bool.or_false, Bool.or_false]
theorem full3 {x b d : UInt8} {n : Nat} (h : Lib.firstT x.toNat % 8 = n) (h1 : Lib.accLo (Lib.firstT x.toNat / 16) ≤ b.toNat) (h2 : b.toNat ≤ Lib.accHi (Lib.firstT x.toNat / 16)) (hd : 128 ≤ d.toNat ∧ d.toNat < 192) : fullB [x, b, d] = decide (n ≤ 3) := by
  have q : ¬ (b.toNat < Lib.accLo (Lib.firstT x.toNat / 16) ∨ Lib.accHi (Lib.firstT x.toNat / 16) < b.toNat) := by omega
  have q2 : ¬ (d.toNat < 128 ∨ 191 < d.toNat) := by omega
  show (decide (Lib.firstT x.toNat % 8 ≤ 2 + 1) || (decide (b.toNat < Lib.accLo (Lib.firstT x.toNat / 16) ∨ Lib.accHi (Lib.firstT x.toNat / 16) < b.toNat) || decide (d.toNat < 128 ∨ 191 < d.toNat))) = _
  rw [h, decide_eq_false q, decide_eq_false q2, Bool.or_false, Bool.or_false]
theorem full_ok {x : UInt8} {r : List UInt8} {n : Nat} (h : Lib.firstT x.toNat % 8 = n) (hn : n ≤ r.length + 1) : fullB (x :: r) = true := by
  show (decide (Lib.firstT x.toNat % 8 ≤ r.length + 1) || _) = true
  rw [h, decide_eq_true hn, Bool.true_or]
theorem chr_feed (e : Bool) {c : Int} (h0 : 160 ≤ c) (h1 : c ≤ 1114111) (h2 : c < 55296 ∨ 57343 < c) : feedF [] (preE e ++ Lib.encodeRune c) = ([], [(c, preM2 e)]) ∧ (Lib.encodeRune c).length ≤ 4 := by
  have hc : chrB c = true := by simp only [chrB, decide_eq_true_eq]; omega
  obtain ⟨d1, d2⟩ := dec_enc (by omega) h1 h2
  rw [← r8_enc (by omega) h1 h2] at d1 d2 ⊢
  unfold r8F at d1 d2 ⊢
  rw [if_neg (by omega)] at d1 d2 ⊢
  by_cases a : c < 2048
  · rw [if_pos a] at d1 d2 ⊢
    refine ⟨?_, by simp⟩
    have x1 := u8_of (z := 192 + c / 64) (by omega) (by omega)
    have hf : Lib.firstT ((192 + c / 64).toNat.toUInt8).toNat % 8 = 2 := by rw [x1, Lib.firstT_C2 (by omega)]
    refine chain_all e (by rw [x1]; omega) hc (by omega) (by simp) (fun k hk => ?_) ?_ d1 d2
    · have : k = 0 := by simp at hk; omega
      subst this
      rw [List.take_zero, full1 hf]
      rfl
    · exact full_ok hf (by simp)
  · rw [if_neg a] at d1 d2 ⊢
    by_cases b : c < 65536
    · rw [if_pos b] at d1 d2 ⊢
      refine ⟨?_, by simp⟩
      have x1 := u8_of (z := 224 + c / 4096) (by omega) (by omega)
      have x2 := u8_of (z := 128 + c / 64 % 64) (by omega) (by omega)
      have hl := lead3 (x := (224 + c / 4096).toNat) (b := (128 + c / 64 % 64).toNat) (by omega) (by omega) (by omega) (by omega)
      rw [← x1, ← x2] at hl
      refine chain_all e (by rw [x1]; omega) hc (by omega) (by simp) (fun k hk => ?_) ?_ d1 d2
      · rcases (by simp at hk; omega : k = 0 ∨ k = 1) with rfl | rfl
        · rw [List.take_zero, full1 hl.1]; rfl
        · rw [List.take_succ_cons, List.take_zero, full2 hl.1 hl.2.1 hl.2.2]; rfl
      · exact full_ok hl.1 (by simp)
    · rw [if_neg b] at d1 d2 ⊢
      refine ⟨?_, by simp⟩
      have x1 := u8_of (z := 240 + c / 262144) (by omega) (by omega)
      have x2 := u8_of (z := 128 + c / 4096 % 64) (by omega) (by omega)
      have x3 := u8_of (z := 128 + c / 64 % 64) (by omega) (by omega)
      have hl := lead4 (x := (240 + c / 262144).toNat) (b := (128 + c / 4096 % 64).toNat) (by omega) (by omega) (by omega) (by omega)
      rw [← x1, ← x2] at hl
      have hd : 128 ≤ ((128 + c / 64 % 64).toNat.toUInt8).toNat ∧ ((128 + c / 64 % 64).toNat.toUInt8).toNat < 192 := by rw [x3]; omega
      refine chain_all e (by rw [x1]; omega) hc (by omega) (by simp) (fun k hk => ?_) ?_ d1 d2
      · rcases (by simp at hk; omega : k = 0 ∨ k = 1 ∨ k = 2) with rfl | rfl | rfl
        · rw [List.take_zero, full1 hl.1]; rfl
        · rw [List.take_succ_cons, List.take_zero, full2 hl.1 hl.2.1 hl.2.2]; rfl
        · rw [List.take_succ_cons, List.take_succ_cons, List.take_zero, full3 hl.1 hl.2.1 hl.2.2 hd]; rfl
      · exact full_ok hl.1 (by simp)
theorem flush_nil : flushF [] = [] := rfl
theorem bytes_high {c m : Int} (app : Bool) (hv : validB c m = true) (h0 : 128 ≤ c) (hc : chrB c = true) (e : Bool) (he : m = preM2 e) : bytesF c m app = preE e ++ Lib.encodeRune c := by
  unfold bytesF
  rw [if_pos hv]
  have hc' := hc
  simp only [chrB, decide_eq_true_eq] at hc'
  rw [if_neg (by omega), if_neg (by simp only [spcB, decide_eq_true_eq]; omega)]
  subst he
  cases e <;> rfl
/-- The bytes of a key, and a flush, tell it. -/
theorem key_told {c m : Int} (hv : validB c m = true) (app : Bool) : (feedF [] (bytesF c m app)).2 ++ flushF (feedF [] (bytesF c m app)).1 = [(c, m)] ∧ (excB c m = false → feedF [] (bytesF c m app) = ([], [(c, m)])) ∧ (bytesF c m app).length ≤ 7 := by
  rcases valid_where hv with ⟨m0, m7, hc⟩ | ⟨hm, h128, hc⟩
  · have hr : rouB c m app = true := by
      rcases hc with hc | hc
      · have h := (List.all_eq_true.1 rou_low) c.toNat (List.mem_range.2 (by omega))
        rw [Int.toNat_of_nonneg hc.1] at h
        exact row_of h m0 m7 app
      · have h := (List.all_eq_true.1 rou_spc) (c - 16777217).toNat (List.mem_range.2 (by omega))
        rw [Int.toNat_of_nonneg (by omega), (by omega : 16777217 + (c - 16777217) = c)] at h
        exact row_of h m0 m7 app
    unfold rouB at hr
    rw [hv] at hr
    simp only [Bool.not_true, Bool.false_or, Bool.and_eq_true, Bool.or_eq_true, decide_eq_true_eq] at hr
    refine ⟨hr.1.1, fun he => ?_, hr.2⟩
    rcases hr.1.2 with h | h
    · rw [he] at h; cases h
    · exact h
  · obtain ⟨k0, k1, k2, k3, k4⟩ := chr_of hc
    have h160 : 160 ≤ c := by have hc' := hc; simp only [chrB, decide_eq_true_eq] at hc'; omega
    obtain ⟨e, he⟩ : ∃ e, m = preM2 e := by
      rcases hm with h | h
      · exact ⟨false, h⟩
      · exact ⟨true, h⟩
    obtain ⟨h1, h2⟩ := chr_feed e h160 k1 k2
    rw [bytes_high app hv h128 hc e he, h1, he]
    refine ⟨rfl, fun _ => rfl, ?_⟩
    rw [List.length_append]
    have : (preE e).length ≤ 1 := by cases e <;> decide
    omega

theorem flush_pi {w3 X : World} {db : Nat} {h : List UInt8} {L : List KL} (hp : Pi w3 X db h L) (hl : h.length ≤ 999) :
    Calls Tryd.prog 16 #[.pointer (some ⟨db, 0, none⟩)] X fun r X' => ∃ a c, r = .returned (.slice a (flushF h).length c) ∧ Pi w3 X' db [] ((.slice a (flushF h).length c, flushF h) :: L) := by
  obtain ⟨v, hd⟩ := hp.dc
  refine (flush_any hd hl).mono ?_
  rintro e w' ⟨lv, rfl, hf⟩
  obtain ⟨a, c, rfl⟩ := hf.keys.slice
  exact ⟨a, c, rfl, hp.feed hf⟩
theorem Pi.lit {w3 X : World} {db : Nat} {h : List UInt8} {L : List KL} (hp : Pi w3 X db h L) (x y : Int) : Pi w3 (X.alloc (.cells #[.int .i64 x, .int .i64 y] 30)) db h ((.slice (some ⟨X.heap.size, 0, none⟩) 1 1, [(x, y)]) :: L) := by
  have hm := hp.more ((Below.refl _ _).alloc (Nat.le_refl _) (.cells #[.int .i64 x, .int .i64 y] 30))
  obtain ⟨v, hd⟩ := hp.dc
  refine ⟨hm.dc, fun p hq => ?_, fun p hq g hg => ?_, ?_⟩
  · rcases List.mem_cons.1 hq with e | e
    · rw [e]
      refine ⟨rfl, .inr ⟨X.heap.size, 0, 1, #[.int .i64 x, .int .i64 y], rfl, heap_alloc_new X _, Nat.le_refl _, by decide, Nat.le_refl _, fun j u hu => ?_⟩⟩
      rw [Nat.zero_add]
      simpa [keyV] using hu
    · exact hm.rows p e
  · rcases List.mem_cons.1 hq with e | e
    · rw [e] at hg
      cases hg
      exact hd.ap.size
    · exact hp.young p e g hg
  · refine List.pairwise_cons.2 ⟨fun q hq g hg hq2 => ?_, hp.apart⟩
    cases hg
    have h2 := (hp.rows q hq).lt _ hq2
    exact absurd h2 (Nat.lt_irrefl _)
theorem Pi.last {w3 X : World} {db : Nat} {h : List UInt8} {L : List KL} {p : KL} (hp : Pi w3 X db h (p :: L)) : Pi w3 X db h (L ++ [p]) := hp.perm (List.perm_append_singleton p L).symm
theorem Pi.swap {w3 X : World} {db : Nat} {h : List UInt8} {L : List KL} {p q r : KL} (hp : Pi w3 X db h (p :: q :: r :: L)) : Pi w3 X db h (p :: r :: q :: L) := hp.perm (List.Perm.cons _ (List.Perm.swap _ _ _))
/-- What is gathered. -/
def goodB (k : Int × Int) : Bool := validB k.1 k.2 && !excB k.1 k.2
def wantF (l : List (Int × Int)) : List (Int × Int) := l.filter goodB
def txtF (app : Bool) (l : List (Int × Int)) : List UInt8 := (wantF l).flatMap fun k => bytesF k.1 k.2 app
theorem want_add (l : List (Int × Int)) (k : Int × Int) : wantF (l ++ [k]) = if goodB k then wantF l ++ [k] else wantF l := by
  unfold wantF
  rw [List.filter_append]
  cases h : goodB k <;> simp [h]
theorem txt_add (app : Bool) (l : List (Int × Int)) (k : Int × Int) (h : goodB k = true) : txtF app (l ++ [k]) = txtF app l ++ bytesF k.1 k.2 app := by
  unfold txtF
  rw [want_add, if_pos h, List.flatMap_append]
  simp
theorem txt_not (app : Bool) (l : List (Int × Int)) (k : Int × Int) (h : goodB k = false) : txtF app (l ++ [k]) = txtF app l ∧ wantF (l ++ [k]) = wantF l := by
  unfold txtF
  rw [want_add, if_neg (by rw [h]; decide)]
  exact ⟨rfl, rfl⟩
theorem txt_feed (app : Bool) : ∀ l : List (Int × Int), (∀ k ∈ l, validB k.1 k.2 = true ∧ excB k.1 k.2 = false) → feedF [] (l.flatMap fun k => bytesF k.1 k.2 app) = ([], l)
  | [], _ => rfl
  | k :: l, h => by
    obtain ⟨h1, h2⟩ := h k List.mem_cons_self
    have hk := (key_told h1 app).2.1 h2
    have ih := txt_feed app l fun q hq => h q (List.mem_cons_of_mem _ hq)
    rw [List.flatMap_cons, feed_append, hk]
    simp only []
    rw [ih]
    rfl
theorem txt_told (app : Bool) (l : List (Int × Int)) : feedF [] (txtF app l) = ([], wantF l) := txt_feed app _ fun k hk => by
  have h := (List.mem_filter.1 hk).2
  unfold goodB at h
  simp only [Bool.and_eq_true, Bool.not_eq_true'] at h
  exact h
theorem want_len (l : List (Int × Int)) : (wantF l).length ≤ l.length := List.length_filter_le _ _
theorem txt_long (app : Bool) : ∀ l : List (Int × Int), (∀ k ∈ l, validB k.1 k.2 = true) → (l.flatMap fun k => bytesF k.1 k.2 app).length ≤ 7 * l.length
  | [], _ => Nat.le_refl _
  | k :: l, h => by
    have h1 := (key_told (h k List.mem_cons_self) app).2.2
    have ih := txt_long app l fun q hq => h q (List.mem_cons_of_mem _ hq)
    rw [List.flatMap_cons, List.length_append, List.length_cons]
    omega
theorem txt_len (app : Bool) (l : List (Int × Int)) : (txtF app l).length ≤ 7 * l.length := by
  have h := txt_long app (wantF l) fun k hk => by
    have h := (List.mem_filter.1 hk).2
    unfold goodB at h
    simp only [Bool.and_eq_true] at h
    exact h.1
  have := want_len l
  unfold txtF
  omega
/-- What was below w stands, behind a decoder. -/
theorem below_one {w W1 X : World} {d : Nat} (hd : w.heap.size ≤ d) (b : Below w.heap.size w W1) (k2 : Ap W1.heap.size d W1 X) : Below w.heap.size w X := by
  refine ⟨k2.os.trans b.os, k2.tape.trans b.tape, k2.output.trans b.output, Nat.le_trans b.size k2.size, fun k hk => ?_⟩
  have := b.size
  rw [k2.block k (by omega) (by omega), b.block k hk]
/-- A decoder that was just made. -/
theorem Pi.new {w1 : World} (hT : Tabs w1) : Pi (w1.alloc (.cells #[.slice none 0 0] 54)) (w1.alloc (.cells #[.slice none 0 0] 54)) w1.heap.size [] [] :=
  ⟨⟨_, new_dc hT⟩, fun p hm => (by cases hm), fun p hm => (by cases hm), List.Pairwise.nil⟩
theorem Pi.tabs {w3 X : World} {db : Nat} {h : List UInt8} {L : List KL} (hp : Pi w3 X db h L) (hT : Tabs w3) : Tabs X := by
  obtain ⟨v, hd⟩ := hp.dc
  exact hd.tabs hT
theorem Pi.under {w w3 X : World} {db : Nat} {h : List UInt8} {L : List KL} (hp : Pi w3 X db h L) (hd : w.heap.size ≤ db) (b : Below w.heap.size w w3) : Below w.heap.size w X := by
  obtain ⟨v, hd2⟩ := hp.dc
  exact below_one hd b hd2.ap
theorem Pi.old {w3 X : World} {db B : Nat} {h : List UInt8} {L : List KL} {v vb : Value} {ks : List (Int × Int)} (hp : Pi w3 X db h L) (hk : KeysAt w3 B v ks) (hb : w3.heap[db]? = some (.cells #[vb] 54 (0, 0))) : KeysAt X B v ks := by
  obtain ⟨v, hd2⟩ := hp.dc
  exact hk.aside hd2.ap hb
open Go.ChangeShapes Go.WideShapes

theorem cell_blockL {w : World} {a : Addr} {v : Value} (h : w.cell? a = some v) : a.block < w.heap.size := by
  rcases Nat.lt_or_ge a.block w.heap.size with h1 | h1
  · exact h1
  · simp [World.cell?, Array.getElem?_eq_none h1] at h
theorem underKeysL : Tryd.prog.underlying 24 = some (.slice 30) := by kernel_rfl
theorem add_plainL (b o j : Nat) : (⟨b, o, none⟩ : Addr).add j = ⟨b, o + j, none⟩ := by unfold Addr.add; split <;> simp_all
theorem bulk_lenL {H : Type} (D : Nat → DataW H) : ∀ (L : List Nat), (∀ i ∈ L, 1 ≤ Rows.uptoBulk (D i)) → L.length ≤ Rows.uptoBulkAll (L.map D)
  | [], _ => Nat.zero_le _
  | j :: L, h => by
    have h1 := h j List.mem_cons_self
    have := bulk_lenL D L fun i hi => h i (List.mem_cons_of_mem _ hi)
    simp only [List.map_cons, Rows.uptoBulkAll, List.length_cons]
    omega
theorem open_key1 {H : Type} {enc : TypeId × Value → H} {W : World} {base : Nat} {spare : Nat → Bool} {held : Bool} {fuel : Nat} {cs : List Value} {x : DataW H × List MemPlace} (h : DataW.trod enc Tryd.prog W base spare held fuel 30 cs = some x) :
    ∃ p : Int × Int, cs = [.int .i64 p.1, .int .i64 p.2] ∧ x.2 = [] ∧ 1 ≤ Rows.uptoBulk x.1 := by
  obtain ⟨xs, n, _, hx, hl, hlen, hfs⟩ := DataW.trod_struct fieldsKey h
  rw [cellsKeyU] at hl
  match cs, hl, xs, hlen with
  | [c0, c1], _, [y0, y1], _ =>
    have t0 : DataW.trod enc Tryd.prog W base spare held n 3 [c0] = some y0 := by have h := hfs 0 _ rfl; simpa [cells3U] using h
    have t1 : DataW.trod enc Tryd.prog W base spare held n 3 [c1] = some y1 := by have h := hfs 1 _ rfl; simpa [cells3U] using h
    obtain ⟨z0, e0, rfl, w0⟩ := DataW.trod_int Tryd.underlying3 t0
    obtain ⟨z1, e1, rfl, w1⟩ := DataW.trod_int Tryd.underlying3 t1
    obtain rfl := (List.cons.inj e0).1
    obtain rfl := (List.cons.inj e1).1
    refine ⟨(z0, z1), rfl, by rw [hx]; rfl, ?_⟩
    rw [hx]
    simp [Rows.uptoBulk, Rows.uptoBulkAll]
/-- The keys, and how much they weigh. -/
theorem open_keys {H : Type} {enc : TypeId × Value → H} {W : World} {r : Reach} {b0 base : Nat} {spare : Nat → Bool} {held : Bool} {v : Value} {d : DataW H} {p : List MemPlace} (hv : Value.okWide Tryd.prog W r b0 24 v) (h : DataW.Trod enc Tryd.prog W base spare held 24 v d p) :
    ∃ ks : List (Int × Int), SeeK W v ks ∧ ks.length ≤ Rows.uptoBulk d ∧ ∀ x ∈ p, x.block < W.heap.size := by
  obtain ⟨ad, len, cap, rfl⟩ := okWide_slice underKeysL hv
  obtain ⟨fuel, hf⟩ := h
  rcases Deep.open_slice underKeysL hf with ⟨h0, hx⟩ | ⟨a, len', cap', m, n, D, Pl, h0, hb, hl, hm, hmm, hx, hall⟩
  · simp [Value.cells] at h0
    obtain ⟨rfl, rfl, rfl⟩ := h0
    simp only [Prod.mk.injEq] at hx
    obtain ⟨rfl, rfl⟩ := hx
    exact ⟨[], ⟨none, 0, rfl, fun h => absurd rfl h⟩, Nat.zero_le _, fun x hx => absurd hx List.not_mem_nil⟩
  · simp [Value.cells] at h0
    obtain ⟨rfl, rfl, rfl⟩ := h0
    simp only [Prod.mk.injEq] at hx
    obtain ⟨rfl, rfl⟩ := hx
    have hlm : len ≤ m := by rw [hmm]; split <;> omega
    rw [cellsKeyU] at hall ⊢
    have each : ∀ i, i < m → ∃ q : Int × Int, Pl i = [] ∧ W.cell? ((a.add (i * 2)).add 0) = some (.int .i64 q.1) ∧ W.cell? ((a.add (i * 2)).add 1) = some (.int .i64 q.2) ∧ 1 ≤ Rows.uptoBulk (D i) := fun i hi => by
      obtain ⟨cs', h1, h2⟩ := hall i hi
      obtain ⟨_, _, hcell⟩ := World.cells?_some h1
      obtain ⟨q, rfl, hx, hr⟩ := open_key1 h2
      exact ⟨q, hx, by rw [hcell 0 (by decide)]; rfl, by rw [hcell 1 (by decide)]; rfl, hr⟩
    have hplaces : ∀ x ∈ MemPlace.row a (m * 2) ++ (List.range m).flatMap Pl, x.block < W.heap.size := fun x hx => by
      rcases List.mem_append.1 hx with hx | hx
      · obtain ⟨i, hi, rfl⟩ := MemPlace.mem_row.1 hx
        obtain ⟨q, _, hc, _⟩ := each 0 (by omega)
        have h0 := cell_blockL hc
        rw [Deep.add_add] at h0
        show a.block < W.heap.size
        simpa [Addr.add] using h0
      · obtain ⟨i, hi, hx⟩ := List.mem_flatMap.1 hx
        obtain ⟨q, hp, _⟩ := each i (List.mem_range.1 hi)
        rw [hp] at hx
        cases hx
    obtain ⟨E, hEv⟩ := Deep.choose_lt each
    have hlen : ((List.range len).map E).length = len := by rw [List.length_map, List.length_range]
    have hbl := bulk_lenL D (List.range len) fun i hi => by have := (hEv i (by have := List.mem_range.1 hi; omega)).2.2.2; omega
    rw [List.length_range] at hbl
    refine ⟨(List.range len).map E, ?_, ?_, hplaces⟩
    · refine ⟨some a, cap, by rw [hlen], fun hne => ?_⟩
      have hpos : 0 < len := by
        rcases Nat.eq_zero_or_pos len with e | e
        · rw [e] at hne; exact absurd rfl hne
        · exact e
      obtain ⟨b, off, spot⟩ := a
      obtain ⟨_, z0, _, _⟩ := hEv 0 (by omega)
      have hspot : spot = none := by
        have := World.cell?_spot z0
        simpa [Addr.add] using this
      subst hspot
      refine ⟨b, off, rfl, fun j hj => ?_⟩
      rw [hlen] at hj
      obtain ⟨_, g0, g1, _⟩ := hEv j (by omega)
      rw [add_plainL, add_plainL] at g0 g1
      rw [List.getElem_map, List.getElem_range]
      exact ⟨g0, g1⟩
    · rw [hlen]
      simp only [Rows.uptoBulk]
      omega
end Go.Proofs.YtghepjjfdaecgaaDoor
