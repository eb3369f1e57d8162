/- Quiet, ready and tallies: both sides; the law. -/
import Derived.Test.YtajnglhkdglglaaGreatDoorRunWatchesMath13
namespace Go.Ev.RunWatches
open Go Go.Ev Go.Proofs
set_option linter.unusedVariables false
theorem same1 (F : Nat) (l : List Int) (hl : l.length ≤ 1000) : ∀ (k N i : Nat), k = l.length - i → i ≤ l.length → k < N → Jr F N l l i = some true
 | k, 0, i, _, _, h => by omega
 | 0, N + 1, i, hk, hi, _ => by rw [Jr, Tq (by omega)]
 | k + 1, N + 1, i, hk, hi, hN => by
  obtain ⟨x, hx⟩ := K6 (l := l) (i := i) (by omega)
  rw [Jr, Tp (by omega), Qg, hx, Td, Td, beq_self_eq_true, Bool.not_true, cond_false, up (by omega)]
  exact same1 F l hl k N (i + 1) (by omega) (by omega) (by omega)
theorem same_ok (F : Nat) (hF : 1000 < F) (l : List Int) (hl : l.length ≤ 1000) : Gw F l l = some true := by
 unfold Gw
 rw [beq_self_eq_true, Bool.not_true, cond_false]
 exact same1 F l hl l.length F 0 rfl (by omega) (by omega)
section
variable (F : Nat) (a : Th) (hF : 1000 < F) (r : Int) (hc : J7 F (Ji a) = some r) (hr : Kf F a = some r) (hg : r = 0 → Good F (Ji a))
include hF hc
theorem chkO : Zh F a = some r := by
 have _h := hF
 show bnd (J7 F (Ji a)) _ = _
 rw [hc, Td]
theorem detO (d : Int) : Ki F a d = some (bif !(r == 0) then r else bif inR 0 d 1 then 0 else 8) := by
 unfold Ki Y6
 rw [chkO F a hF r hc, Td, Xl, Td, Td]
 cases r == 0 <;> cases inR 0 d 1 <;> rfl
include hr hg
theorem Quiet_same (d : Int) : ∃ w, Z8 F a d = some w ∧ Xz F a d = some w ∧ w.1.length ≤ 1000 := by
 unfold Z8 Xz
 rw [detO F a hF r hc, hr, Td, Td, rIn, Td]
 by_cases h0 : r = 0
 ·subst h0
  have g := hg rfl
  have t1 : a.Data.e0.length ≤ 512 := g.top
  rw [show (!((0 : Int) == 0)) = false from rfl, cond_false, cond_false]
  cases h : inR 0 d 1 with
  | false => exact ⟨([], 8), rfl, rfl, Nat.zero_le _⟩
  | true =>
   rw [inR_iff] at h
   have hd : d = 0 ∨ d = 1 := by omega
   refine ⟨(QL (quP a.Work (Ql (Ji a) d)) a.Data.e0.length, 0), ?_, ?_, by rw [Zj]; omega⟩
   ·rw [cond_true, show (!((0 : Int) == 0)) = false from rfl, cond_false]
    have := Zq F hF (Ji a) g d hd
    show bnd (K7 F (Ji a) d) _ = _
    rw [this, Td]
    rfl
   ·exact rQu1 F hF a g d hd a.Data.e0.length F 0 rfl (by omega) (by omega)
 ·rw [show (!(r == 0)) = true by simp [h0], cond_true, cond_true, show (!(r == 0)) = true by simp [h0], cond_true]
  exact ⟨([], r), rfl, rfl, Nat.zero_le _⟩
theorem rrd1 (g : Good F (Ji a)) (d : Int) (hd : d = 0 ∨ d = 1) (s len : Nat) (h1 : s ≤ 512) (h2 : len ≤ 512) : ∀ (k N t : Nat), k = s + len - t → t ≤ s + len → k < N → Kw F N d s len t a.Duties a.Work a.Vetoes.e0 a.Vetoes.e1 a.Data.e0 a.Data.e1 = some (W9 (quP a.Work (Ql (Ji a) d)) t k)
 | k, 0, t, _, _, h => by have _h := And.intro hc (And.intro hr hg); omega
 | 0, N + 1, t, hk, hi, _ => by
  rw [Kw, Xu (n := (s : Int) + (len : Int)) (by omega) (by omega), Tq (by omega)]
  rfl
 | k + 1, N + 1, t, hk, hi, hN => by
  have ih := rrd1 g d hd s len h1 h2 k N (t + 1) (by omega) (by omega) (by omega)
  have e : W9 (quP a.Work (Ql (Ji a) d)) t (k + 1) = (quP a.Work (Ql (Ji a) d) t && W9 (quP a.Work (Ql (Ji a) d)) ((t : Int) + 1) k) := rfl
  rw [Kw, Xu (n := (s : Int) + (len : Int)) (by omega) (by omega), Tp (by omega), e]
  show bnd (K5 F a d t) _ = _
  rw [rqu F hF a g d hd t, Td, up (by omega), ih, show ((t + 1 : Nat) : Int) = (t : Int) + 1 by omega]
  cases quP a.Work (Ql (Ji a) d) t <;> rfl
theorem rrd (g : Good F (Ji a)) (d : Int) (hd : d = 0 ∨ d = 1) (s len : Nat) (h1 : s ≤ 512) (h2 : len ≤ 512) : Y3 F a d s len = some (decide (s + len ≤ a.Data.e0.length) && W9 (quP a.Work (Ql (Ji a) d)) s len) := by
 have := rrd1 F a hF r hc hr hg g d hd s len h1 h2 len F s (by omega) (by omega) (by omega)
 unfold Y3
 rw [Xu (n := (s : Int) + (len : Int)) (by omega) (by omega), this]
 by_cases h : s + len ≤ a.Data.e0.length
 ·rw [Tq (by omega), decide_eq_true h, Bool.true_and]
 ·rw [Tp (by omega), decide_eq_false h, Bool.false_and]
theorem rRd2 (g : Good F (Ji a)) (d : Int) (hd : d = 0 ∨ d = 1) (len : Nat) (h1 : 1 ≤ len) (h2 : len ≤ 512) : ∀ (k N i m m' : Nat), k = a.Data.e0.length - i → i ≤ a.Data.e0.length → k < N → m = min i (a.Data.e0.length + 1 - len) → m' = a.Data.e0.length + 1 - len → Jk F N d len i a.Duties a.Work a.Vetoes.e0 a.Vetoes.e1 a.Data.e0 a.Data.e1 (stL (quP a.Work (Ql (Ji a) d)) len m) = some (stL (quP a.Work (Ql (Ji a) d)) len m', 0)
 | k, 0, i, m, m', _, _, h, _, _ => by omega
 | 0, N + 1, i, m, m', hk, hi, _, hm, hm' => by
  obtain rfl : m = m' := by omega
  rw [Jk, Tq (by omega)]
 | k + 1, N + 1, i, m, m', hk, hi, hN, hm, hm' => by
  have t1 : a.Data.e0.length ≤ 512 := g.top
  have hl := Wa (quP a.Work (Ql (Ji a) d)) len m
  have ih := rRd2 g d hd len h1 h2 k N (i + 1) (min (i + 1) (a.Data.e0.length + 1 - len)) m' (by omega) (by omega) (by omega) rfl hm'
  rw [Jk, Tp (by omega)]
  show bnd (Y3 F a d i len) _ = _
  rw [rrd F a hF r hc hr hg g d hd i len (by omega) h2, Td]
  unfold Xn
  rw [up (by omega)]
  by_cases h : i + len ≤ a.Data.e0.length
  ·obtain rfl : m = i := by omega
   rw [show min (m + 1) (a.Data.e0.length + 1 - len) = m + 1 by omega] at ih
   have e : stL (quP a.Work (Ql (Ji a) d)) len (m + 1) = stL (quP a.Work (Ql (Ji a) d)) len m ++ bif W9 (quP a.Work (Ql (Ji a) d)) m len then [(m : Int)] else [] := rfl
   rw [e] at ih
   rw [decide_eq_true h, Bool.true_and]
   cases hq : W9 (quP a.Work (Ql (Ji a) d)) m len with
   | true =>
    rw [hq, cond_true] at ih
    rw [cond_true, Vv (by simp; omega) (by omega), Td]
    exact ih
   | false =>
    rw [hq, cond_false, List.append_nil] at ih
    rw [cond_false]
    exact ih
  ·rw [show min (i + 1) (a.Data.e0.length + 1 - len) = m by omega] at ih
   rw [decide_eq_false h, Bool.false_and, cond_false]
   exact ih
theorem Ready_same (d x : Int) : ∃ w, Za F a d x = some w ∧ Y1 F a d x = some w ∧ w.1.length ≤ 1000 := by
 unfold Za Y1 Xo
 rw [detO F a hF r hc, hr, Td, Td, rIn, Td, rIn, Td, Xl, Td]
 by_cases h0 : r = 0
 ·subst h0
  have g := hg rfl
  have t1 : a.Data.e0.length ≤ 512 := g.top
  rw [show (!((0 : Int) == 0)) = false from rfl, cond_false, cond_false]
  cases h : inR 0 d 1 with
  | false => exact ⟨([], 8), rfl, rfl, Nat.zero_le _⟩
  | true =>
   cases h2 : inR 1 x 512 with
   | false => exact ⟨([], 8), rfl, rfl, Nat.zero_le _⟩
   | true =>
    rw [inR_iff] at h h2
    have hd : d = 0 ∨ d = 1 := by omega
    obtain ⟨len, rfl⟩ : ∃ len : Nat, x = len := ⟨x.toNat, by omega⟩
    have hl := Wa (quP a.Work (Ql (Ji a) d)) len (a.Data.e0.length + 1 - len)
    refine ⟨(stL (quP a.Work (Ql (Ji a) d)) len (a.Data.e0.length + 1 - len), 0), ?_, ?_, by show (stL _ _ _).length ≤ 1000; omega⟩
    ·rw [cond_true, show (!((0 : Int) == 0)) = false from rfl, cond_false, Bool.not_true, cond_false]
     have q := Zq F hF (Ji a) g d hd
     have e : Gi F (Ji a) d len = some (stL (quP a.Work (Ql (Ji a) d)) len (a.Data.e0.length + 1 - len)) := by
      unfold Gi
      rw [q, Td, Zj]
      have := prd1 F (quP a.Work (Ql (Ji a) d)) a.Data.e0.length len t1 (by omega) (by omega) a.Data.e0.length F 0 0 rfl (by omega) (by omega) (Int.le_refl _) (Int.le_refl _) (fun t h1 h2 => by omega) (.inl rfl)
      rw [show 0 + 1 - len = 0 by omega] at this
      exact this
     show bnd (Gi F (Ji a) d len) _ = _
     rw [e, Td]
    ·exact rRd2 F a hF 0 hc hr hg g d hd len (by omega) (by omega) a.Data.e0.length F 0 0 _ rfl (by omega) (by omega) (by omega) rfl
 ·rw [show (!(r == 0)) = true by simp [h0], cond_true, cond_true, show (!(r == 0)) = true by simp [h0], cond_true]
  exact ⟨([], r), rfl, rfl, Nat.zero_le _⟩
end
end Go.Ev.RunWatches
namespace Go.Ev.RunWatches
open Go Go.Ev Go.Proofs
set_option linter.unusedVariables false
theorem cnT_le (p : Int → Bool) : ∀ n : Nat, cnT p n ≤ n
 | 0 => Nat.le_refl _
 | n + 1 => by
  have := cnT_le p n
  rw [cnT]
  cases p (n : Int) <;> simp <;> omega
theorem cnT_t {p : Int → Bool} {n : Nat} (h : p (n : Int) = true) : cnT p (n + 1) = cnT p n + 1 := by rw [cnT, h]; rfl
theorem cnT_f {p : Int → Bool} {n : Nat} (h : p (n : Int) = false) : cnT p (n + 1) = cnT p n := by rw [cnT, h]; rfl
theorem tal1 (F : Nat) (p : Int → Bool) (n : Nat) (hn : n ≤ 512) (c : T9) : ∀ (k N i : Nat), k = n - i → i ≤ n → k < N → Kj F N (QL p n) (cnT p i : Nat) (QL p n) n i c = some (T9.mk (cnT p n : Nat) n)
 | k, 0, i, _, _, h => by omega
 | 0, N + 1, i, hk, hi, _ => by
  obtain rfl : i = n := by omega
  rw [Kj, Tq (by omega), Zj]
 | k + 1, N + 1, i, hk, hi, hN => by
  have hx := Vc p n i (by omega)
  have hl := cnT_le p i
  have ih := tal1 F p n hn c k N (i + 1) (by omega) (by omega) (by omega)
  rw [Kj, Tp (by omega), Qg, hx, Td]
  unfold Yu
  rw [up (by omega : i < 9223372036854775807), up (by omega : cnT p i < 9223372036854775807)]
  cases hp : p (i : Int) with
  | true =>
   rw [cnT_t hp] at ih
   rw [cond_true]
   exact ih
  | false =>
   rw [cnT_f hp] at ih
   rw [cond_false]
   exact ih
theorem tal (F : Nat) (hF : 1000 < F) (p : Int → Bool) (n : Nat) (hn : n ≤ 512) : Yx F (QL p n) = some (T9.mk (cnT p n : Nat) n) := by
 unfold Yx
 have := tal1 F p n hn (T9.mk 0 0) n F 0 rfl (by omega) (by omega)
 rw [Zj]
 exact this
def talL (p q : Int → Bool) (n : Nat) : List T9 := [T9.mk (cnT p n : Nat) n, T9.mk (cnT q n : Nat) n, T9.mk (cnT (fun t => p t && q t) n : Nat) n]
theorem tls1 (F : Nat) (hF : 1000 < F) (p q : Int → Bool) (n : Nat) (hn : n ≤ 512) : ∀ (k N i : Nat) (l : List Bool), k = n - i → i ≤ n → k < N → l.length = n → (∀ j : Nat, j < i → l[j]? = some (p (j : Int) && q (j : Int))) → Qb F N n i (QL p n) (QL q n) l = some (talL p q n)
 | k, 0, i, l, _, _, h, _, _ => by omega
 | 0, N + 1, i, l, hk, hi, _, hl, hj => by
  obtain rfl : i = n := by omega
  have e : l = QL (fun t => p t && q t) i := QL_ext l _ i hl hj
  rw [Qb, Tq (by omega), tal F hF p i hn, Td, tal F hF q i hn, Td, e, tal F hF _ i hn, Td]
  rfl
 | k + 1, N + 1, i, l, hk, hi, hN, hl, hj => by
  have hx := Vc p n i (by omega)
  have hy := Vc q n i (by omega)
  have hs : ∀ b, b = (p (i : Int) && q (i : Int)) → Ke F (Qb F N) n i i b (QL p n) (QL q n) l = some (talL p q n) := by
   intro b hb
   unfold Ke
   rw [inn_at (by omega), Td, upd_at (by omega), Td, up (by omega)]
   refine tls1 F hF p q n hn k N (i + 1) (l.set i b) (by omega) (by omega) (by omega) (by rw [List.length_set, hl]) (fun j h => ?_)
   by_cases h2 : j = i
   ·subst h2
    rw [List.getElem?_set_self (by omega), hb]
   ·rw [List.getElem?_set_ne (by omega)]
    exact hj j (by omega)
  rw [Qb, Tp (by omega), Qg, hx, Td]
  cases hp : p (i : Int) with
  | true =>
   rw [cond_true, Qg, hy, Td]
   exact hs _ (by rw [hp]; rfl)
  | false =>
   rw [cond_false]
   exact hs _ (by rw [hp]; rfl)
section
variable (F : Nat) (a : Th) (hF : 1000 < F) (r : Int) (hc : J7 F (Ji a) = some r) (hr : Kf F a = some r) (hg : r = 0 → Good F (Ji a))
include hF hc hr hg
theorem tls (g : Good F (Ji a)) : Kt F (Ji a) = some (talL (quP a.Work (Ql (Ji a) 0)) (quP a.Work (Ql (Ji a) 1)) a.Data.e0.length) := by
 have _h := And.intro hc (And.intro hr hg)
 have t1 : a.Data.e0.length ≤ 512 := g.top
 unfold Kt Jb
 rw [Zq F hF (Ji a) g 0 (.inl rfl), Td, Zq F hF (Ji a) g 1 (.inr rfl), Td, Td, show (Ji a).data = a.Data from rfl, mk_ok (by omega) (by omega), Td, List.length_replicate]
 exact tls1 F hF _ _ a.Data.e0.length t1 a.Data.e0.length F 0 (List.replicate a.Data.e0.length false) rfl (by omega) (by omega) (List.length_replicate ..) (fun j h => by omega)
theorem rDu1 (g : Good F (Ji a)) (p q : Int → Bool) (hp : p = quP a.Work (Ql (Ji a) 0)) (hq : q = quP a.Work (Ql (Ji a) 1)) (n : Nat) (hn : n = a.Data.e0.length) : ∀ (k N i : Nat), k = n - i → i ≤ n → k < N → K9 F N n (cnT p i : Nat) (cnT q i : Nat) (cnT (fun t => p t && q t) i : Nat) i a.Duties a.Work a.Vetoes.e0 a.Vetoes.e1 a.Data.e0 a.Data.e1 = some (talL p q n, 0)
 | k, 0, i, _, _, h => by have _h := And.intro hc (And.intro hr hg); omega
 | 0, N + 1, i, hk, hi, _ => by
  obtain rfl : i = n := by omega
  rw [K9, Tq (by omega)]
  rfl
 | k + 1, N + 1, i, hk, hi, hN => by
  have t1 : a.Data.e0.length ≤ 512 := g.top
  have l1 := cnT_le p i
  have l2 := cnT_le q i
  have l3 := cnT_le (fun t => p t && q t) i
  have ih := rDu1 g p q hp hq n hn k N (i + 1) (by omega) (by omega) (by omega)
  have q0 : K5 F a 0 i = some (p i) := by rw [hp]; exact rqu F hF a g 0 (.inl rfl) i
  have q1 : K5 F a 1 i = some (q i) := by rw [hq]; exact rqu F hF a g 1 (.inr rfl) i
  rw [K9, Tp (by omega)]
  show bnd (K5 F a 0 i) _ = _
  rw [q0, Td]
  show bnd (K5 F a 1 i) _ = _
  rw [q1, Td]
  unfold Yb Y8 Y7 Ya
  rw [up (by omega : i < 9223372036854775807), up (by omega : cnT p i < 9223372036854775807), up (by omega : cnT q i < 9223372036854775807), up (by omega : cnT (fun t => p t && q t) i < 9223372036854775807)]
  cases h1 : p (i : Int) <;> cases h2 : q (i : Int)
  ·have h3 : (fun t => p t && q t) (i : Int) = false := by show (p i && q i) = false; rw [h1, h2]; rfl
   rw [cnT_f h1, cnT_f h2, cnT_f h3] at ih
   exact ih
  ·have h3 : (fun t => p t && q t) (i : Int) = false := by show (p i && q i) = false; rw [h1, h2]; rfl
   rw [cnT_f h1, cnT_t h2, cnT_f h3] at ih
   exact ih
  ·have h3 : (fun t => p t && q t) (i : Int) = false := by show (p i && q i) = false; rw [h1, h2]; rfl
   rw [cnT_t h1, cnT_f h2, cnT_f h3] at ih
   exact ih
  ·have h3 : (fun t => p t && q t) (i : Int) = true := by show (p i && q i) = true; rw [h1, h2]; rfl
   rw [cnT_t h1, cnT_t h2, cnT_t h3] at ih
   exact ih
theorem Duty_same : ∃ w, Zr F a = some w ∧ Ys F a = some w ∧ w.1.length ≤ 3 := by
 unfold Zr Ys
 rw [chkO F a hF r hc, hr, Td, Td]
 by_cases h0 : r = 0
 ·subst h0
  have g := hg rfl
  have t1 : a.Data.e0.length ≤ 512 := g.top
  rw [show (!((0 : Int) == 0)) = false from rfl, cond_false, cond_false]
  refine ⟨(talL (quP a.Work (Ql (Ji a) 0)) (quP a.Work (Ql (Ji a) 1)) a.Data.e0.length, 0), ?_, ?_, Nat.le_refl 3⟩
  ·show bnd (Kt F (Ji a)) _ = _
   rw [tls F a hF 0 hc hr hg g, Td]
  ·exact rDu1 F a hF 0 hc hr hg g _ _ rfl rfl a.Data.e0.length rfl a.Data.e0.length F 0 rfl (by omega) (by omega)
 ·rw [show (!(r == 0)) = true by simp [h0], cond_true, cond_true]
  exact ⟨([], r), rfl, rfl, Nat.zero_le _⟩
end
theorem lw5 (F : Nat) (hw : works F = some true) (l : List T9) (hl : l.length ≤ 3) : ∀ (k N i : Nat), k = l.length - i → i ≤ l.length → k < N → Je F N i l l = some true
 | k, 0, i, _, _, h => by omega
 | 0, N + 1, i, hk, hi, _ => by rw [Je, Tq (by omega), hw, Td]
 | k + 1, N + 1, i, hk, hi, hN => by
  obtain ⟨x, hx⟩ := K6 (l := l) (i := i) (by omega)
  rw [Je, Tp (by omega), Qg, hx, Td, Td, beq_self_eq_true, beq_self_eq_true, Bool.and_true, Bool.and_true, Bool.not_true, cond_false, up (by omega)]
  exact lw5 F hw l hl k N (i + 1) (by omega) (by omega) (by omega)
theorem law_eq (F : Nat) (a : Th) (x : Qp) (hD : a.Duties.length ≤ 9223372036854775807) (hW : a.Work.length ≤ 9223372036854775807) (hF : 1000 + a.Duties.length + a.Work.length < F) (hw : works F = some true) : X4 F a x = some true := by
 have hF' : 1000 < F := by omega
 obtain ⟨r, hc, hg⟩ := chk_ex F hF' (Ji a)
 have hr : Kf F a = some r := (Check_same F a hD hW hF).trans hc
 obtain ⟨w1, e1, e2⟩ := Watcher_same F a hF' r hc hr hg x.Time
 obtain ⟨w2, e3, e4, e5⟩ := Quiet_same F a hF' r hc hr hg x.Detector
 obtain ⟨w3, e6, e7, e8⟩ := Ready_same F a hF' r hc hr hg x.Detector x.Length
 obtain ⟨w4, e9, f1, f2⟩ := Duty_same F a hF' r hc hr hg
 unfold X4
 rw [e1, Td, e2, Td, beq_self_eq_true, beq_self_eq_true, Bool.not_true, cond_false]
 unfold G1
 rw [cond_false]
 show bnd (Z8 F a x.Detector) _ = _
 rw [e3, Td]
 show bnd (Xz F a x.Detector) _ = _
 rw [e4, Td, sameB F hF' w2.1 e5, Td, beq_self_eq_true, Bool.not_true, cond_false]
 unfold Ky
 rw [cond_false]
 show bnd (Za F a x.Detector x.Length) _ = _
 rw [e6, Td]
 show bnd (Y1 F a x.Detector x.Length) _ = _
 rw [e7, Td, same_ok F hF' w3.1 e8, Td, beq_self_eq_true, Bool.not_true, cond_false]
 unfold Ku
 rw [cond_false]
 show bnd (Zr F a) _ = _
 rw [e9, Td]
 show bnd (Ys F a) _ = _
 rw [f1, Td, beq_self_eq_true, beq_self_eq_true, Bool.not_true, cond_false]
 unfold Kv
 rw [cond_false]
 exact lw5 F hw w4.1 f2 w4.1.length F 0 rfl (by omega) (by omega)
end Go.Ev.RunWatches
