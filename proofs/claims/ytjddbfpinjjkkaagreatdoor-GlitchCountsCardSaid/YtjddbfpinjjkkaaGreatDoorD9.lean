/- math/bits.Div64: the quotient and the rest of two words by one; the condition: the upper word is less than the divisor. -/
import Derived.Test.YtjddbfpinjjkkaaGreatDoorS9
namespace Go.Proofs.YtjddbfpinjjkkaaGreatDoor
open Go.RowKit
def RetQ2 (w : World) (a b : Value) (e : Ending) (w' : World) : Prop := e = .returned (.tuple #[a, b]) ∧ Drew w w'
theorem wrap_nat (n : Nat) : IntKind.u64.wrap (n : Int) = ((n % 18446744073709551616 : Nat) : Int) := by rw [IntKind.wrap_u64]; omega
theorem wrap_mul (m n : Nat) : IntKind.u64.wrap ((m : Int) * (n : Int)) = ((m * n % 18446744073709551616 : Nat) : Int) := by rw [← Int.natCast_mul, wrap_nat]
structure Digit (U n a Y q0 p0 Q R V1 V2 V3 : Nat) : Prop where
  q : (U : Int) / (a : Int) = (q0 : Int)
  p : IntKind.u64.wrap ((q0 : Int) * (a : Int)) = (p0 : Int)
  pU : p0 ≤ U
  ra : U - p0 < a
  q33 : q0 < 8589934592
  sum : q0 * a + (U - p0) = U
  hQ : Q = (U * 4294967296 + n) / Y
  hR : R = (U * 4294967296 + n) % Y
  ge : Q ≤ q0
  Qlt : Q < 4294967296
  RY : R < Y
  v1 : IntKind.u64.wrap ((U : Int) * 4294967296) = (V1 : Int)
  v2 : IntKind.u64.wrap ((V1 : Int) + (n : Int)) = (V2 : Int)
  v3 : IntKind.u64.wrap ((Q : Int) * (Y : Int)) = (V3 : Int)
  v4 : IntKind.u64.wrap ((V2 : Int) - (V3 : Int)) = (R : Int)
theorem digit_pack {U n a b Y : Nat} (hn : n < 4294967296) (ha : 2147483648 ≤ a) (ha2 : a < 4294967296) (hb : b < 4294967296) (hY : Y = a * 4294967296 + b) (hU : U < Y) :
    ∃ q0 p0 Q R V1 V2 V3 : Nat, Digit U n a Y q0 p0 Q R V1 V2 V3 := by
  have hap : 0 < a := by omega
  have h1 := Nat.div_add_mod U a
  have h2 := Nat.mod_lt U hap
  rw [Nat.mul_comm] at h1
  have hdm := Nat.div_add_mod (U * 4294967296 + n) Y
  have hml := Nat.mod_lt (U * 4294967296 + n) (show 0 < Y by omega)
  refine ⟨U / a, U / a * a, (U * 4294967296 + n) / Y, (U * 4294967296 + n) % Y, U * 4294967296 % 18446744073709551616, (U * 4294967296 + n) % 18446744073709551616, (U * 4294967296 + n) / Y * Y % 18446744073709551616, ?_⟩
  refine ⟨by rw [Int.natCast_ediv], ?_, Nat.div_mul_le_self U a, ?_, ?_, ?_, rfl, rfl, ?_, ?_, hml, ?_, ?_, wrap_mul _ _, ?_⟩
  · rw [wrap_mul]
    have := Nat.div_mul_le_self U a
    rw [Nat.mod_eq_of_lt (by omega)]
  · omega
  · rw [Nat.div_lt_iff_lt_mul hap]; omega
  · omega
  · rw [hY]; exact dig_ge hn hap
  · rw [hY]; exact dig_lt hn (by omega)
  · have := wrap_mul U 4294967296
    exact this
  · rw [← Int.natCast_add, wrap_nat]; congr 1; omega
  · rw [Nat.mul_comm] at hdm
    generalize (U * 4294967296 + n) / Y * Y = z at *
    generalize (U * 4294967296 + n) % Y = r at *
    rw [IntKind.wrap_u64]
    omega
set_option maxHeartbeats 1000000 in
set_option maxRecDepth 100000 in
theorem div64_zero (lo y : Nat) (hlo : lo < 18446744073709551616) (hy : y < 18446744073709551616) (h0 : 0 < y) (w : World) :
    Calls Tryz.prog 251 #[.int .u64 0, .int .u64 (lo : Int), .int .u64 (y : Int)] w (RetQ2 w (.int .u64 ((lo / y : Nat) : Int)) (.int .u64 ((lo % y : Nat) : Int))) := by
  have h1 : ((y : Int) == 0) = false := by rw [beq_eq_false_iff_ne]; omega
  have h2 : ((y : Int) ≤ 0) = False := by simp; omega
  have h3 : IntKind.u64.wrap ((lo : Int) / (y : Int)) = ((lo / y : Nat) : Int) := by
    rw [← Int.natCast_ediv, wrap_nat, Nat.mod_eq_of_lt (Nat.lt_of_le_of_lt (Nat.div_le_self _ _) hlo)]
  have H3 := Lib.hid h3
  clear h3
  go_enter Tryz.func251, Tryz.ntmps251
  go_wp2_with fail
  go_quiet (fail)
  go_wp2
  refine bodyPost_ret (v := .tuple #[.int .u64 (IntKind.u64.wrap ((lo : Int) / (y : Int))), .int .u64 ((lo : Int) % (y : Int))]) (by simp [results, Tryz.results251]) rfl ?_
  rw [H3.out, ← Int.natCast_emod]
  exact ⟨rfl, Drew.step (Drew.refl _) _⟩
theorem norm_lt {y s : Nat} (hy : y < 18446744073709551616) (hs : 64 - nb y = s) : y * 2 ^ s < 18446744073709551616 := by
  have h1 := nb_lt y
  have h2 := nb_le64 hy
  have e : (18446744073709551616 : Nat) = 2 ^ nb y * 2 ^ s := by rw [← Nat.pow_add, show nb y + s = 64 by omega]
  rw [e]
  exact Nat.mul_lt_mul_of_pos_right h1 (Nat.pow_pos (by decide))
theorem norm_ge {y s : Nat} (h0 : y ≠ 0) (hs : 64 - nb y = s) (hle : nb y ≤ 64) : 9223372036854775808 ≤ y * 2 ^ s := by
  have h1 := nb_ge h0
  have h3 : 0 < nb y := by unfold nb; rw [if_neg h0]; omega
  have e : (9223372036854775808 : Nat) = 2 ^ (nb y - 1) * 2 ^ s := by rw [← Nat.pow_add, show nb y - 1 + s = 63 by omega]
  rw [e]
  exact Nat.mul_le_mul_right _ h1
set_option maxHeartbeats 4000000 in
set_option maxRecDepth 1000000 in
theorem div64_big (hi lo y : Nat) (hlo : lo < 18446744073709551616) (hy : y < 18446744073709551616) (h0 : 0 < hi) (hhi : hi < y) (w : World) :
    Calls Tryz.prog 251 #[.int .u64 (hi : Int), .int .u64 (lo : Int), .int .u64 (y : Int)] w (RetQ2 w (.int .u64 (((hi * 18446744073709551616 + lo) / y : Nat) : Int)) (.int .u64 (((hi * 18446744073709551616 + lo) % y : Nat) : Int))) := by
  have h1 : ((y : Int) == 0) = false := by rw [beq_eq_false_iff_ne]; omega
  have h3 : ((hi : Int) == 0) = false := by rw [beq_eq_false_iff_ne]; omega
  obtain ⟨s, hs⟩ : ∃ s, 64 - nb y = s := ⟨_, rfl⟩
  have hlz := lz64 y hy w
  rw [hs] at hlz
  have HLZ := Lib.hid hlz
  have hs63 : s ≤ 63 := by have : 0 < nb y := by unfold nb; rw [if_neg (by omega)]; omega
                           omega
  obtain ⟨Y, hY⟩ : ∃ Y, y * 2 ^ s = Y := ⟨_, rfl⟩
  have hYlt : Y < 18446744073709551616 := by
    rw [← hY]; exact norm_lt hy hs
  have hYge : 9223372036854775808 ≤ Y := by
    rw [← hY]; exact norm_ge (by omega) hs (nb_le64 hy)
  clear hs hlz
  have hle : ¬ y ≤ hi := by omega
  have c2 : ((y : Int) * 2 ^ s) = (Y : Int) := by rw [← hY, Int.natCast_mul, Int.natCast_pow]; rfl
  have e2 : IntKind.u64.wrap ((y : Int) * 2 ^ s) = (Y : Int) := by rw [IntKind.wrap_u64, c2]; omega
  obtain ⟨a, ha⟩ : ∃ a, a = Y / 4294967296 := ⟨_, rfl⟩
  obtain ⟨b, hb⟩ : ∃ b, b = Y % 4294967296 := ⟨_, rfl⟩
  obtain ⟨H, hH⟩ : ∃ H, hi * 2 ^ s = H := ⟨_, rfl⟩
  obtain ⟨M, hM⟩ : ∃ M, lo * 2 ^ s % 18446744073709551616 = M := ⟨_, rfl⟩
  have e9 : (Y : Int) / 4294967296 = (a : Int) := by omega
  have e10 : bits .and .u64 (Y : Int) 4294967295 = (b : Int) := by rw [Mul64.maskN Y hYlt, hb]
  have hHY : H < Y := by
    rw [← hH, ← hY]; exact Nat.mul_lt_mul_of_pos_right hhi (Nat.pow_pos (by decide))
  have c46 : ((hi : Int) * 2 ^ s) = (H : Int) := by rw [← hH, Int.natCast_mul, Int.natCast_pow]; rfl
  have e46 : IntKind.u64.wrap ((hi : Int) * 2 ^ s) = (H : Int) := by rw [IntKind.wrap_u64, c46]; omega
  have e54 : IntKind.u64.wrap ((lo : Int) * 2 ^ s) = (M : Int) := by
    rw [IntKind.wrap_u64, ← hM, Int.natCast_emod, Int.natCast_mul, Int.natCast_pow]; rfl
  obtain ⟨L, hL⟩ : ∃ L, lo / 2 ^ (64 - s) = L := ⟨_, rfl⟩
  obtain ⟨n1, hn1⟩ : ∃ n1, n1 = M / 4294967296 := ⟨_, rfl⟩
  obtain ⟨n0, hn0⟩ : ∃ n0, n0 = M % 4294967296 := ⟨_, rfl⟩
  have hMlt : M < 18446744073709551616 := by rw [← hM]; exact Nat.mod_lt _ (by decide)
  have htop := up_top hs63 hlo
  have hsplit := up_split lo s
  rw [hL] at htop
  have hNN : (hi * 18446744073709551616 + lo) * 2 ^ s = (H + L) * 18446744073709551616 + M := by
    rw [Nat.add_mul, Nat.mul_right_comm, hH, ← hsplit, hM, ← htop.1, Nat.add_mul]; omega
  have hU : H + L < Y := by
    have h5 : hi * 18446744073709551616 + lo < y * 18446744073709551616 := by omega
    have h6 := Nat.mul_lt_mul_of_pos_right h5 (Nat.pow_pos (n := s) (show 0 < 2 by decide))
    rw [hNN, Nat.mul_right_comm, hY] at h6
    omega
  have eL : (lo : Int) / 2 ^ (64 - s) = (L : Int) := by rw [← hL, Int.natCast_ediv, Int.natCast_pow]; rfl
  obtain ⟨U, hUU⟩ : ∃ U, H + L = U := ⟨_, rfl⟩
  have eU : bits .or .u64 (H : Int) (L : Int) = (U : Int) := by
    rw [bits_or_u64_nat H L (by omega) (by omega), ← hUU, ← hH, Nat.mul_comm, ← Nat.two_pow_add_eq_or_of_lt (by rw [htop.1]; exact htop.2)]
  have e13 : (M : Int) / 4294967296 = (n1 : Int) := by omega
  have e14 : bits .and .u64 (M : Int) 4294967295 = (n0 : Int) := by rw [Mul64.maskN M hMlt, hn0]
  rw [hUU] at hU hNN
  have ha31 : 2147483648 ≤ a := by omega
  have ha32 : a < 4294967296 := by omega
  have hb32 : b < 4294967296 := by omega
  have hn132 : n1 < 4294967296 := by omega
  have hn032 : n0 < 4294967296 := by omega
  have hYab : Y = a * 4294967296 + b := by omega
  obtain ⟨q0, p0, Q1, R1, V1, V2, V3, hD1⟩ := digit_pack hn132 ha31 ha32 hb32 hYab hU
  obtain ⟨q2, p2, Q2, R2, W1, W2, W3, hD2⟩ := digit_pack hn032 ha31 ha32 hb32 hYab hD1.RY
  have hap : 0 < a := by omega
  have ha0 : ((a : Int) == 0) = false := by rw [beq_eq_false_iff_ne]; omega
  have hM2 : M = n1 * 4294967296 + n0 := by omega
  have HYAB := Lib.hid hYab
  have HY := Lib.hid hY
  have HNN := Lib.hid hNN
  have HM2 := Lib.hid hM2
  have HD1 := Lib.hid hD1
  have HD2 := Lib.hid hD2
  have f1 := hD1.q
  have f2 := hD1.p
  have f3 := hD1.v1
  have f4 := hD1.v2
  have f5 := hD1.v3
  have f6 := hD1.v4
  have f7 := hD1.pU
  have f8 := hD1.q33
  have f9 := hD1.Qlt
  have f10 := hD1.RY
  have k1 := hD2.q
  have k2 := hD2.p
  have k3 := hD2.v1
  have k4 := hD2.v2
  have k5 := hD2.v3
  have k6 := hD2.v4
  have k7 := hD2.pU
  have k8 := hD2.q33
  have k9 := hD2.Qlt
  have k10 := hD2.RY
  clear c2 c46 ha hb hY hH hM hL hn1 hn0 hNN hUU htop hsplit hYab hM2 hD1 hD2
  go_enter Tryz.func251, Tryz.ntmps251
  go_upto_block 0 with (go_at_call 243; refine HLZ.out.mono ?_; rintro e w' ⟨rfl, rfl⟩)
  go_cut [15, 16] (fun v r wx => v = .int .u64 (Q1 : Int) ∧ wx = w)
  case first =>
    go_wp2_with fail
    go_loop [15, 16] (fun v x => ∃ q r : Nat, v = .int .u64 (q : Int) ∧ x = .int .u64 (r : Int) ∧ q * a + r = U ∧ Q1 ≤ q ∧ q < 8589934592 ∧ r < 4294967296) (fun v _ => (intOf v).toNat)
    case atStart => exact ⟨q0, U - p0, rfl, by go_num, HD1.out.sum, HD1.out.ge, HD1.out.q33, by have := HD1.out.ra; omega⟩
    case round =>
      obtain ⟨q, r, rfl, rfl, hs1, hge1, hq1, hr1⟩ := hrel
      clear e2 e9 e10 e46 e54 eL eU e13 e14 f1 f2 f3 f4 f5 f6 k1 k2 k3 k4 k5 k6 h1 h3 hle hhi hMlt hHY hYge f7 f8 f9 k7 k8 k9 k10 hs63
      have HS1 := Lib.hid hs1
      have HGE1 := Lib.hid hge1
      clear hs1 hge1
      have down : Q1 < q → (q - 1) * a + (r + a) = U ∧ Q1 ≤ q - 1 := fun h => by
        have e : q * a = (q - 1) * a + a := by
          obtain ⟨z, rfl⟩ : ∃ z, q = z + 1 := ⟨q - 1, by omega⟩
          rw [Nat.add_sub_cancel, Nat.succ_mul]
        have := HS1.out
        omega
      have fin : Q1 < q → 4294967296 ≤ r + a → q - 1 = Q1 := fun h ho => by
        obtain ⟨d1, d2⟩ := down h
        have d3 := dig_small d1 (by rw [← HYAB.out]; first | exact hU | exact f10) (show b ≤ r + a by omega)
        have d4 := dig_done (n := n1) d1 hap (show 0 < 4294967296 by decide) (dig_out (Nat.le_of_lt d3) (Nat.le_of_lt hb32) ho)
        rw [← HYAB.out, ← HD1.out.hQ] at d4
        exact Nat.le_antisymm d4 d2
      have HD := Lib.hid down
      have HF := Lib.hid fin
      clear down fin
      by_cases hbig : 4294967296 ≤ q
      · have HLT : Hid (Q1 < q) := Lib.hid (Nat.lt_of_lt_of_le HD1.out.Qlt hbig)
        have hrb : r < b := by
          have h1 := HS1.out
          have h2 := HYAB.out
          have h3 := Nat.mul_le_mul_right a hbig
          have h4 := f10
          omega
        have g1 : (4294967296 : Int) ≤ (q : Int) := by omega
        have HBIG := Lib.hid hbig
        clear hbig
        by_cases hout : 4294967296 ≤ r + a
        · have g3 : (4294967296 : Int) ≤ (r : Int) + (a : Int) := by omega
          have HE := Lib.hid (HF.out HLT.out hout)
          clear hout
          go_wp2_with fail
          go_meet
          exact ⟨by rw [← HE.out]; go_num, rfl⟩
        · have g3 : (r : Int) + (a : Int) < (4294967296 : Int) := by omega
          have g6 : decide ((4294967296 : Int) ≤ (r : Int) + (a : Int)) = false := decide_eq_false (by omega)
          have HE := Lib.hid (HD.out HLT.out)
          have HO := Lib.hid hout
          clear hout
          go_wp2_with fail
          go_round
          case rel => exact ⟨q - 1, r + a, by go_num, by go_num, HE.out.1, HE.out.2, by omega, by have := HO.out; omega⟩
          case measure => simp [intOf]; omega
      · obtain ⟨m, hm⟩ : ∃ m, q * b = m := ⟨_, rfl⟩
        have em : IntKind.u64.wrap ((q : Int) * (b : Int)) = (m : Int) := by
          rw [wrap_mul, hm, Nat.mod_eq_of_lt]
          rw [← hm]
          have := Nat.mul_le_mul (show q ≤ 4294967295 by omega) (show b ≤ 4294967295 by omega)
          omega
        have HM' := Lib.hid hm
        have g1 : (q : Int) < (4294967296 : Int) := by omega
        have g4 : decide ((4294967296 : Int) ≤ (q : Int)) = false := decide_eq_false (by omega)
        clear hm hbig
        by_cases hgt : 4294967296 * r + n1 < m
        · have HLT : Hid (Q1 < q) := Lib.hid (by
            rw [HD1.out.hQ, HYAB.out]; exact dig_more HS1.out hap (by decide) (by rw [HM'.out]; exact hgt))
          have g2 : (4294967296 : Int) * (r : Int) + (n1 : Int) < (m : Int) := by omega
          have g5 : 1 ≤ q := by have := HLT.out; omega
          have HG := Lib.hid hgt
          clear hgt
          by_cases hout : 4294967296 ≤ r + a
          · have g3 : (4294967296 : Int) ≤ (r : Int) + (a : Int) := by omega
            have HE := Lib.hid (HF.out HLT.out hout)
            clear hout
            go_wp2_with fail
            go_meet
            exact ⟨by rw [← HE.out]; go_num, rfl⟩
          · have g3 : (r : Int) + (a : Int) < (4294967296 : Int) := by omega
            have g6 : decide ((4294967296 : Int) ≤ (r : Int) + (a : Int)) = false := decide_eq_false (by omega)
            have HE := Lib.hid (HD.out HLT.out)
            have HO := Lib.hid hout
            clear hout
            go_wp2_with fail
            go_round
            case rel => exact ⟨q - 1, r + a, by go_num, by go_num, HE.out.1, HE.out.2, by omega, by have := HO.out; omega⟩
            case measure => simp [intOf]; omega
        · have HE : Hid (q = Q1) := Lib.hid (by
            have d4 := dig_done (n := n1) HS1.out hap (show 0 < 4294967296 by decide) (by rw [HM'.out]; omega)
            rw [← HYAB.out, ← HD1.out.hQ] at d4
            exact Nat.le_antisymm d4 HGE1.out)
          have g2 : (m : Int) ≤ (4294967296 : Int) * (r : Int) + (n1 : Int) := by omega
          have g8 : decide ((4294967296 : Int) * (r : Int) + (n1 : Int) < (m : Int)) = false := decide_eq_false (by omega)
          clear hgt
          go_wp2_with fail
          go_meet
          exact ⟨by rw [HE.out], rfl⟩
  case rest =>
    obtain ⟨rfl, rfl⟩ := hcut
    go_upto_block 2 with fail
    go_cut [18, 16] (fun v r wx => v = .int .u64 (Q2 : Int) ∧ wx = wc)
    case first =>
      go_wp2_with fail
      go_loop [18, 16] (fun v x => ∃ q r : Nat, v = .int .u64 (q : Int) ∧ x = .int .u64 (r : Int) ∧ q * a + r = R1 ∧ Q2 ≤ q ∧ q < 8589934592 ∧ r < 4294967296) (fun v _ => (intOf v).toNat)
      case atStart => exact ⟨q2, R1 - p2, rfl, by go_num, HD2.out.sum, HD2.out.ge, HD2.out.q33, by have := HD2.out.ra; omega⟩
      case round =>
        obtain ⟨q, r, rfl, rfl, hs1, hge1, hq1, hr1⟩ := hrel
        clear e2 e9 e10 e46 e54 eL eU e13 e14 f1 f2 f3 f4 f5 f6 k1 k2 k3 k4 k5 k6 h1 h3 hle hhi hMlt hHY hYge f7 f8 f9 k7 k8 k9 k10 hs63
        have HS1 := Lib.hid hs1
        have HGE1 := Lib.hid hge1
        clear hs1 hge1
        have down : Q2 < q → (q - 1) * a + (r + a) = R1 ∧ Q2 ≤ q - 1 := fun h => by
          have e : q * a = (q - 1) * a + a := by
            obtain ⟨z, rfl⟩ : ∃ z, q = z + 1 := ⟨q - 1, by omega⟩
            rw [Nat.add_sub_cancel, Nat.succ_mul]
          have := HS1.out
          omega
        have fin : Q2 < q → 4294967296 ≤ r + a → q - 1 = Q2 := fun h ho => by
          obtain ⟨d1, d2⟩ := down h
          have d3 := dig_small d1 (by rw [← HYAB.out]; first | exact hU | exact f10) (show b ≤ r + a by omega)
          have d4 := dig_done (n := n0) d1 hap (show 0 < 4294967296 by decide) (dig_out (Nat.le_of_lt d3) (Nat.le_of_lt hb32) ho)
          rw [← HYAB.out, ← HD2.out.hQ] at d4
          exact Nat.le_antisymm d4 d2
        have HD := Lib.hid down
        have HF := Lib.hid fin
        clear down fin
        by_cases hbig : 4294967296 ≤ q
        · have HLT : Hid (Q2 < q) := Lib.hid (Nat.lt_of_lt_of_le HD2.out.Qlt hbig)
          have hrb : r < b := by
            have h1 := HS1.out
            have h2 := HYAB.out
            have h3 := Nat.mul_le_mul_right a hbig
            have h4 := f10
            omega
          have g1 : (4294967296 : Int) ≤ (q : Int) := by omega
          have HBIG := Lib.hid hbig
          clear hbig
          by_cases hout : 4294967296 ≤ r + a
          · have g3 : (4294967296 : Int) ≤ (r : Int) + (a : Int) := by omega
            have HE := Lib.hid (HF.out HLT.out hout)
            clear hout
            go_wp2_with fail
            go_meet
            exact ⟨by rw [← HE.out]; go_num, rfl⟩
          · have g3 : (r : Int) + (a : Int) < (4294967296 : Int) := by omega
            have g6 : decide ((4294967296 : Int) ≤ (r : Int) + (a : Int)) = false := decide_eq_false (by omega)
            have HE := Lib.hid (HD.out HLT.out)
            have HO := Lib.hid hout
            clear hout
            go_wp2_with fail
            go_round
            case rel => exact ⟨q - 1, r + a, by go_num, by go_num, HE.out.1, HE.out.2, by omega, by have := HO.out; omega⟩
            case measure => simp [intOf]; omega
        · obtain ⟨m, hm⟩ : ∃ m, q * b = m := ⟨_, rfl⟩
          have em : IntKind.u64.wrap ((q : Int) * (b : Int)) = (m : Int) := by
            rw [wrap_mul, hm, Nat.mod_eq_of_lt]
            rw [← hm]
            have := Nat.mul_le_mul (show q ≤ 4294967295 by omega) (show b ≤ 4294967295 by omega)
            omega
          have HM' := Lib.hid hm
          have g1 : (q : Int) < (4294967296 : Int) := by omega
          have g4 : decide ((4294967296 : Int) ≤ (q : Int)) = false := decide_eq_false (by omega)
          clear hm hbig
          by_cases hgt : 4294967296 * r + n0 < m
          · have HLT : Hid (Q2 < q) := Lib.hid (by
              rw [HD2.out.hQ, HYAB.out]; exact dig_more HS1.out hap (by decide) (by rw [HM'.out]; exact hgt))
            have g2 : (4294967296 : Int) * (r : Int) + (n0 : Int) < (m : Int) := by omega
            have g5 : 1 ≤ q := by have := HLT.out; omega
            have HG := Lib.hid hgt
            clear hgt
            by_cases hout : 4294967296 ≤ r + a
            · have g3 : (4294967296 : Int) ≤ (r : Int) + (a : Int) := by omega
              have HE := Lib.hid (HF.out HLT.out hout)
              clear hout
              go_wp2_with fail
              go_meet
              exact ⟨by rw [← HE.out]; go_num, rfl⟩
            · have g3 : (r : Int) + (a : Int) < (4294967296 : Int) := by omega
              have g6 : decide ((4294967296 : Int) ≤ (r : Int) + (a : Int)) = false := decide_eq_false (by omega)
              have HE := Lib.hid (HD.out HLT.out)
              have HO := Lib.hid hout
              clear hout
              go_wp2_with fail
              go_round
              case rel => exact ⟨q - 1, r + a, by go_num, by go_num, HE.out.1, HE.out.2, by omega, by have := HO.out; omega⟩
              case measure => simp [intOf]; omega
          · have HE : Hid (q = Q2) := Lib.hid (by
              have d4 := dig_done (n := n0) HS1.out hap (show 0 < 4294967296 by decide) (by rw [HM'.out]; omega)
              rw [← HYAB.out, ← HD2.out.hQ] at d4
              exact Nat.le_antisymm d4 HGE1.out)
            have g2 : (m : Int) ≤ (4294967296 : Int) * (r : Int) + (n0 : Int) := by omega
            have g8 : decide ((4294967296 : Int) * (r : Int) + (n0 : Int) < (m : Int)) = false := decide_eq_false (by omega)
            clear hgt
            go_wp2_with fail
            go_meet
            exact ⟨by rw [HE.out], rfl⟩
    case rest =>
      obtain ⟨rfl, rfl⟩ := hcut
      go_wp2_with fail
      have t1 := dig_two 4294967296 U n1 n0 Y (by omega)
      have t2 := shift_div (hi * 18446744073709551616 + lo) y s
      rw [HNN.out, HY.out] at t2
      rw [← HM2.out, ← HD1.out.hQ, ← HD1.out.hR, ← HD2.out.hQ, ← HD2.out.hR] at t1
      have t3 : U * (4294967296 * 4294967296) + M = U * 18446744073709551616 + M := rfl
      rw [t3] at t1
      rw [t1.1] at t2
      rw [t1.2] at t2
      refine bodyPost_ret (v := .tuple #[.int .u64 ((Q1 : Int) * 4294967296 + (Q2 : Int)), .int .u64 ((R2 : Int) / 2 ^ s)]) (by simp [results, Tryz.results251]) rfl ?_
      refine ⟨?_, Drew.refl _⟩
      rw [← t2.1, ← t2.2, Int.natCast_add, Int.natCast_mul, Int.natCast_ediv, Int.natCast_pow]
      rfl
theorem div64 (hi lo y : Nat) (hlo : lo < 18446744073709551616) (hy : y < 18446744073709551616) (hhi : hi < y) (w : World) :
    Calls Tryz.prog 251 #[.int .u64 (hi : Int), .int .u64 (lo : Int), .int .u64 (y : Int)] w (RetQ2 w (.int .u64 (((hi * 18446744073709551616 + lo) / y : Nat) : Int)) (.int .u64 (((hi * 18446744073709551616 + lo) % y : Nat) : Int))) := by
  rcases Nat.eq_zero_or_pos hi with rfl | h
  · have := div64_zero lo y hlo hy hhi w
    simpa using this
  · exact div64_big hi lo y hlo hy h hhi w
end Go.Proofs.YtjddbfpinjjkkaaGreatDoor
