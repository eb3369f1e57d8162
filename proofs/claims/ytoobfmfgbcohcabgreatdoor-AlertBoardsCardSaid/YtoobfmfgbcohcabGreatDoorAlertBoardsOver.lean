/- The row holds: the call answers true whatever its arguments are, and they read behind it as before. -/
import Derived.Test.YtoobfmfgbcohcabGreatDoorAlertBoardsMath9
import Derived.Test.YtoobfmfgbcohcabGreatDoorAlertBoardsFacts
import Derived.Test.YtoobfmfgbcohcabGreatDoorRows
import Derived.WalkKit
import Derived.ProofKit
import Derived.OpenShut
import Derived.LaidMore
import Derived.Stop.Joined
import Derived.Lib.SmallJoins
import Derived.Test.YtoobfmfgbcohcabGreatDoorEvL18
namespace Go.Proofs.YtoobfmfgbcohcabGreatDoor.alertBoards
open Go.ChangeShapes Go.WideShapes Go.ChangeAt Go.RowKit Go.Joins Go.Ev Go.Ev.AlertBoards

set_option linter.unusedVariables false
theorem own : ownKnob Tryz.prog.godebug = none := by kernel_rfl
theorem mixed : Tryz.prog.follows .mixedOrders = true := by kernel_rfl
theorem kids : Kids Tryz.prog (· < Tryz.prog.types.size) := kids_rows (by kernel_rfl) (by kernel_rfl)
theorem full : ∀ t e, t < Tryz.prog.types.size → Tryz.prog.underlying t = some (.slice e) → 0 < Tryz.prog.cellsOf e := slices_full_of Tryz.prog (by kernel_rfl)
theorem within : ∀ t ∈ Tryz.f3.params.toList, t < Tryz.prog.types.size := by
  have h : (Tryz.f3.params.toList.all fun t => decide (t < Tryz.prog.types.size)) = true := by kernel_rfl
  intro t ht
  exact of_decide_eq_true (List.all_eq_true.1 h t ht)

theorem door_met (os : Os) (args : Array Value) : laidMetH Tryz.prog Rows.alertBoardsRow.laid ((World.doorLaid Tryz.prog 400 os).forCall (fun _ _ => 0) ⟨#[], args, []⟩).memory :=
  laidMetH_of_parts3 (fuel := 8) (laidMet_of_run' 8 (by kernel_rfl) (by kernel_rfl)) (by kernel_rfl) (by kernel_rfl)

set_option maxRecDepth 100000 in
theorem fix_ok {W : World} (h : laidMetH Tryz.prog Rows.alertBoardsRow.laid W) : FixOK W Go.Proofs.YtoobfmfgbcohcabGreatDoor.works.fixes := by
  rw [MakeChecks.laidMetH_plain _ _ _ (by kernel_rfl)] at h
  intro x hx
  simp only [Go.Proofs.YtoobfmfgbcohcabGreatDoor.works.fixes, List.mem_cons, List.not_mem_nil, or_false] at hx
  rcases hx with rfl | rfl | rfl
  · exact laid_tab h (name := "math/bits.deBruijn32tab") (k := .u8) (zs := [0, 1, 28, 2, 29, 14, 24, 3, 30, 22, 20, 15, 25, 17, 4, 8, 31, 27, 13, 23, 21, 19, 16, 7, 26, 12, 18, 6, 11, 5, 10, 9]) (g := 4) (t := 408) (e := 5) (n := 32) (by unfold Rows.alertBoardsRow; exact .head _) (by kernel_rfl) (by kernel_rfl) (by kernel_rfl) (by kernel_rfl) (by kernel_rfl) (by kernel_rfl) (by simp)
  · exact laid_tab h (name := "math/bits.deBruijn64tab") (k := .u8) (zs := [0, 1, 56, 2, 57, 49, 28, 3, 61, 58, 42, 50, 38, 29, 17, 4, 62, 47, 59, 36, 45, 43, 51, 22, 53, 39, 33, 30, 24, 18, 12, 5, 63, 55, 48, 27, 60, 41, 37, 16, 46, 35, 44, 21, 52, 32, 23, 11, 54, 26, 40, 15, 34, 20, 31, 10, 25, 14, 19, 9, 13, 8, 7, 6]) (g := 5) (t := 409) (e := 5) (n := 64) (by unfold Rows.alertBoardsRow; exact .tail _ (.head _)) (by kernel_rfl) (by kernel_rfl) (by kernel_rfl) (by kernel_rfl) (by kernel_rfl) (by kernel_rfl) (by simp)
  · exact laid_tab h (name := "internal/strconv.uint64pow10") (k := .u64) (zs := [1, 10, 100, 1000, 10000, 100000, 1000000, 10000000, 100000000, 1000000000, 10000000000, 100000000000, 1000000000000, 10000000000000, 100000000000000, 1000000000000000, 10000000000000000, 100000000000000000, 1000000000000000000, 10000000000000000000]) (g := 3) (t := 402) (e := 320) (n := 20) (by unfold Rows.alertBoardsRow; exact .tail _ (.tail _ (.head _))) (by kernel_rfl) (by kernel_rfl) (by kernel_rfl) (by kernel_rfl) (by kernel_rfl) (by kernel_rfl) (by simp)

theorem cells24 : Tryz.prog.cellsOf 24 = 2 := by kernel_rfl
theorem arr2 {α : Type} {cs : Array α} (h : cs.size = 2) : ∃ c0 c1, cs = #[c0, c1] := by
  obtain ⟨l⟩ := cs
  match l, h with
  | [c0, c1], _ => exact ⟨c0, c1, rfl⟩
theorem types24 : Tryz.prog.cellTypes Tryz.prog.depth 24 = some [22, 3] := by kernel_rfl
theorem weights0 {P : Program} {H : Type} {t0 : TypeId} {ts : List TypeId} {f0 : DataW H} {gs : List (DataW H)} {y : Nat} (h : y ∈ DataW.weights P t0 f0) : y ∈ DataW.weightsEach P (t0 :: ts) (f0 :: gs) := by
  simp only [DataW.weightsEach, List.mem_append]
  exact .inl h
theorem list2 {α : Type} : ∀ {l : List α}, l.length = 2 → ∃ a0 a1, l = [a0, a1]
  | [a0, a1], _ => ⟨a0, a1, rfl⟩
theorem cells22 : Tryz.prog.cellsOf 22 = 1 := by kernel_rfl
theorem cells3 : Tryz.prog.cellsOf 3 = 1 := by kernel_rfl
theorem read3 {H : Type} {enc : TypeId × Value → H} {W : World} {held : Bool} (n : Nat) (cs : List Value) (x : DataW H × List MemPlace) (h : DataW.trod enc Tryz.prog W 0 (fun _ => true) held n 3 cs = some x) : ∃ a : Int, ∀ m, concs m (enc3 a) = some cs := by
  obtain ⟨a, rfl, _, _⟩ := DataW.trod_int Tryz.underlying3 h
  exact ⟨a, fun m => rfl⟩
theorem cells108 : Tryz.prog.cellsOf 108 = 2 := by kernel_rfl
theorem read108 {H : Type} {enc : TypeId × Value → H} {W : World} {held : Bool} (n : Nat) (cs : List Value) (x : DataW H × List MemPlace) (h : DataW.trod enc Tryz.prog W 0 (fun _ => true) held n 108 cs = some x) : ∃ a : S_api_Key, ∀ m, concs m (enc108 a) = some cs := by
  have hlen : cs.length = 2 := (DataW.trod_struct Tryz.underlying108 h).elim fun _ h1 => h1.elim fun _ h2 => h2.2.2.1.trans cells108
  obtain ⟨c0, c1, rfl⟩ := list2 hlen
  obtain ⟨xs, m, _, hx, _, hl, hf⟩ := DataW.trod_struct Tryz.underlying108 h
  obtain ⟨x_0, x_1, rfl⟩ := list2 hl
  have g_0 := hf 0 (⟨ "Modulus", 3, 0, false, "", "", 0⟩) rfl
  simp only [cells3] at g_0
  have g_1 := hf 1 (⟨ "Exponent", 3, 1, false, "", "", 8⟩) rfl
  simp only [cells3] at g_1
  have q_0 : DataW.trod enc Tryz.prog W 0 (fun _ => true) held m 3 [c0] = some x_0 := g_0
  have q_1 : DataW.trod enc Tryz.prog W 0 (fun _ => true) held m 3 [c1] = some x_1 := g_1
  obtain ⟨a_0, ha_0⟩ := read3 _ _ _ q_0
  obtain ⟨a_1, ha_1⟩ := read3 _ _ _ q_1
  exact ⟨⟨a_0, a_1⟩, fun m => concs_append (ha_0 m) (ha_1 m)⟩
theorem bytes108 : Tryz.prog.bytesOf 108 = 16 := by kernel_rfl
theorem elemPair {α β : Type} {W : World} {z1 z2 K1 K2 : Nat} {R1 : Rd → List SV → α → Prop} {R2 : Rd → List SV → β → Prop} {Q1 : α → Prop} {Q2 : β → Prop} {cs1 cs2 : List Value} {a : α} {b : β} {r1 r2 : Nat → List BRow} {s1 s2 : Nat → List SV}
    (h1 : ElemN W z1 R1 Q1 cs1 a K1 r1 s1) (h2 : ElemN W z2 R2 Q2 cs2 b K2 r2 s2) :
    ElemN W (z1 + z2) (fun f cs (p : α × β) => ∃ x y, cs = x ++ y ∧ R1 f x p.1 ∧ R2 f y p.2) (fun p => Q1 p.1 ∧ Q2 p.2) (cs1 ++ cs2) (a, b) (K1 + K2) (fun j => r1 j ++ r2 (j + K1)) (fun j => s1 j ++ s2 (j + K1)) :=
  ElemN.app h1 h2 (fun _ x y _ hx hy => ⟨x, y, rfl, hx, hy⟩) (fun hx hy => ⟨hx, hy⟩)
theorem elemMapR {α β : Type} {W : World} {z K : Nat} {R : Rd → List SV → α → Prop} {Q : α → Prop} {cs : List Value} {a : α} {r : Nat → List BRow} {s : Nat → List SV} (h : ElemN W z R Q cs a K r s) {R' : Rd → List SV → β → Prop} {Q' : β → Prop} {b : β}
    (hR : ∀ f x, R f x a → R' f x b) (hQ : Q a → Q' b) : ElemN W z R' Q' cs b K r s :=
  ⟨h.cnt, h.row, h.val, fun f j hf => hR _ _ (h.rep f j hf), h.len, hQ h.ok⟩
theorem cells36 : Tryz.prog.cellsOf 36 = 10 := by kernel_rfl
theorem list10 {α : Type} : ∀ {l : List α}, l.length = 10 → ∃ a0 a1 a2 a3 a4 a5 a6 a7 a8 a9, l = [a0, a1, a2, a3, a4, a5, a6, a7, a8, a9]
  | [a0, a1, a2, a3, a4, a5, a6, a7, a8, a9], _ => ⟨a0, a1, a2, a3, a4, a5, a6, a7, a8, a9, rfl⟩
def qq33 (a : S_api_Alert) : Prop := (a.Cells.length ≤ maxLen ∧ a.Cells.length * 8 ≤ reachBytes)
def qq36 (a : S_api_Notice) : Prop := qq33 a.Alert ∧ (a.Signatures.length ≤ maxLen ∧ a.Signatures.length * 16 ≤ reachBytes)
theorem cells33 : Tryz.prog.cellsOf 33 = 9 := by kernel_rfl
theorem list9 {α : Type} : ∀ {l : List α}, l.length = 9 → ∃ a0 a1 a2 a3 a4 a5 a6 a7 a8, l = [a0, a1, a2, a3, a4, a5, a6, a7, a8]
  | [a0, a1, a2, a3, a4, a5, a6, a7, a8], _ => ⟨a0, a1, a2, a3, a4, a5, a6, a7, a8, rfl⟩
def enc9 (a : (List UInt8)) : List SV := [(.str a)]
theorem cells9 : Tryz.prog.cellsOf 9 = 1 := by kernel_rfl
theorem read9 {H : Type} {enc : TypeId × Value → H} {W : World} {held : Bool} (n : Nat) (cs : List Value) (x : DataW H × List MemPlace) (h : DataW.trod enc Tryz.prog W 0 (fun _ => true) held n 9 cs = some x) : ∃ a : (List UInt8), ∀ m, concs m (enc9 a) = some cs := by
  obtain ⟨a, rfl, _, _⟩ := DataW.trod_string Tryz.underlying9 h
  refine ⟨a.data.toList, fun m => ?_⟩
  show concs m [.str a.data.toList] = _
  simp only [concs, conc, string_self]
  rfl
def enc30 (a : S_api_Chance) : List SV := [(.int .i64 a.N), (.int .i64 a.Of)]
theorem cells30 : Tryz.prog.cellsOf 30 = 2 := by kernel_rfl
theorem read30 {H : Type} {enc : TypeId × Value → H} {W : World} {held : Bool} (n : Nat) (cs : List Value) (x : DataW H × List MemPlace) (h : DataW.trod enc Tryz.prog W 0 (fun _ => true) held n 30 cs = some x) : ∃ a : S_api_Chance, ∀ m, concs m (enc30 a) = some cs := by
  have hlen : cs.length = 2 := (DataW.trod_struct Tryz.underlying30 h).elim fun _ h1 => h1.elim fun _ h2 => h2.2.2.1.trans cells30
  obtain ⟨c0, c1, rfl⟩ := list2 hlen
  obtain ⟨xs, m, _, hx, _, hl, hf⟩ := DataW.trod_struct Tryz.underlying30 h
  obtain ⟨x_0, x_1, rfl⟩ := list2 hl
  have g_0 := hf 0 (⟨ "N", 3, 0, false, "", "", 0⟩) rfl
  simp only [cells3] at g_0
  have g_1 := hf 1 (⟨ "Of", 3, 1, false, "", "", 8⟩) rfl
  simp only [cells3] at g_1
  have q_0 : DataW.trod enc Tryz.prog W 0 (fun _ => true) held m 3 [c0] = some x_0 := g_0
  have q_1 : DataW.trod enc Tryz.prog W 0 (fun _ => true) held m 3 [c1] = some x_1 := g_1
  obtain ⟨a_0, ha_0⟩ := read3 _ _ _ q_0
  obtain ⟨a_1, ha_1⟩ := read3 _ _ _ q_1
  exact ⟨⟨a_0, a_1⟩, fun m => concs_append (ha_0 m) (ha_1 m)⟩
def enc4 (a : Bool) : List SV := [(.bool a)]
theorem cells4 : Tryz.prog.cellsOf 4 = 1 := by kernel_rfl
theorem read4 {H : Type} {enc : TypeId × Value → H} {W : World} {held : Bool} (n : Nat) (cs : List Value) (x : DataW H × List MemPlace) (h : DataW.trod enc Tryz.prog W 0 (fun _ => true) held n 4 cs = some x) : ∃ a : Bool, ∀ m, concs m (enc4 a) = some cs := by
  obtain ⟨a, rfl, _⟩ := DataW.trod_bool Tryz.underlying4 h
  exact ⟨a, fun m => rfl⟩
theorem list8 {α : Type} : ∀ {l : List α}, l.length = 8 → ∃ a0 a1 a2 a3 a4 a5 a6 a7, l = [a0, a1, a2, a3, a4, a5, a6, a7]
  | [a0, a1, a2, a3, a4, a5, a6, a7], _ => ⟨a0, a1, a2, a3, a4, a5, a6, a7, rfl⟩
theorem cells31 : Tryz.prog.cellsOf 31 = 1 := by kernel_rfl
theorem bytes3 : Tryz.prog.bytesOf 3 = 8 := by kernel_rfl
theorem gread33 {H : Type} {enc : TypeId × Value → H} {W : World} {held : Bool} (n : Nat) (cs : List Value) (x : DataW H × List MemPlace) (h : DataW.trod enc Tryz.prog W 0 (fun _ => true) held n 33 cs = some x) (hw : ∀ y ∈ DataW.weights Tryz.prog 33 x.1, y ≤ reachBytes) : ∃ (a : S_api_Alert) (K : Nat) (rows : Nat → List BRow) (s : Nat → List SV), ElemN W 9 rep33 qq33 cs a K rows s := by
  have hlen : cs.length = 9 := (DataW.trod_struct Tryz.underlying33 h).elim fun _ h1 => h1.elim fun _ h2 => h2.2.2.1.trans cells33
  obtain ⟨c0, c1, c2, c3, c4, c5, c6, c7, c8, rfl⟩ := list9 hlen
  obtain ⟨xs, m, _, hx, _, hl, hf⟩ := DataW.trod_struct Tryz.underlying33 h
  obtain ⟨x_0, x_1, x_2, x_3, x_4, x_5, x_6, x_7, rfl⟩ := list8 hl
  have g_0 := hf 0 (⟨ "Event", 9, 0, false, "", "", 0⟩) rfl
  simp only [cells9] at g_0
  have g_1 := hf 1 (⟨ "Version", 3, 1, false, "", "", 16⟩) rfl
  simp only [cells3] at g_1
  have g_2 := hf 2 (⟨ "Time", 3, 2, false, "", "", 24⟩) rfl
  simp only [cells3] at g_2
  have g_3 := hf 3 (⟨ "Chance", 30, 3, false, "", "", 32⟩) rfl
  simp only [cells30] at g_3
  have g_4 := hf 4 (⟨ "Grid", 3, 5, false, "", "", 48⟩) rfl
  simp only [cells3] at g_4
  have g_5 := hf 5 (⟨ "Cells", 31, 6, false, "", "", 56⟩) rfl
  simp only [cells31] at g_5
  have g_6 := hf 6 (⟨ "Withdrawn", 4, 7, false, "", "", 80⟩) rfl
  simp only [cells4] at g_6
  have g_7 := hf 7 (⟨ "Before", 3, 8, false, "", "", 88⟩) rfl
  simp only [cells3] at g_7
  have q_0 : DataW.trod enc Tryz.prog W 0 (fun _ => true) held m 9 [c0] = some x_0 := g_0
  have q_1 : DataW.trod enc Tryz.prog W 0 (fun _ => true) held m 3 [c1] = some x_1 := g_1
  have q_2 : DataW.trod enc Tryz.prog W 0 (fun _ => true) held m 3 [c2] = some x_2 := g_2
  have q_3 : DataW.trod enc Tryz.prog W 0 (fun _ => true) held m 30 [c3, c4] = some x_3 := g_3
  have q_4 : DataW.trod enc Tryz.prog W 0 (fun _ => true) held m 3 [c5] = some x_4 := g_4
  have q_5 : DataW.trod enc Tryz.prog W 0 (fun _ => true) held m 31 [c6] = some x_5 := g_5
  have q_6 : DataW.trod enc Tryz.prog W 0 (fun _ => true) held m 4 [c7] = some x_6 := g_6
  have q_7 : DataW.trod enc Tryz.prog W 0 (fun _ => true) held m 3 [c8] = some x_7 := g_7
  obtain ⟨b0, hb0⟩ := read9 _ _ _ q_0
  have e0 := ElemN.flat (W := W) (z := 1) (enc := enc9) (fun _ => rfl) hb0
  obtain ⟨b1, hb1⟩ := read3 _ _ _ q_1
  have e1 := ElemN.flat (W := W) (z := 1) (enc := enc3) (fun _ => rfl) hb1
  obtain ⟨b2, hb2⟩ := read3 _ _ _ q_2
  have e2 := ElemN.flat (W := W) (z := 1) (enc := enc3) (fun _ => rfl) hb2
  obtain ⟨b3, hb3⟩ := read30 _ _ _ q_3
  have e3 := ElemN.flat (W := W) (z := 2) (enc := enc30) (fun _ => rfl) hb3
  obtain ⟨b4, hb4⟩ := read3 _ _ _ q_4
  have e4 := ElemN.flat (W := W) (z := 1) (enc := enc3) (fun _ => rfl) hb4
  have hw_5 : ∀ y ∈ DataW.weights Tryz.prog 31 x_5.1, y ≤ reachBytes := fun y hy => hw y (by rw [hx]; unfold DataW.weights; rw [Tryz.underlying33]; simp only [List.map_cons, List.map_nil, DataW.weightsEach, List.mem_append]; exact .inr (.inr (.inr (.inr (.inr (.inl hy))))))
  obtain ⟨b5, K5, R5, S5, n5, t5⟩ := inner_nestX (R := fun _ => FlatR enc3) (Q := fun _ => True) (z := 1) (by omega) cells3 ⟨(0 : Int)⟩ Tryz.underlying31 q_5 hw_5 (fun n cs x h _ => by obtain ⟨a, ha⟩ := read3 n cs x h; exact ⟨a, _, _, _, ElemN.flat (enc := enc3) (fun _ => rfl) ha⟩)
  rw [bytes3] at t5
  have e5 := elemMapR (ElemN.slice (R' := fun f cs a => ∃ q1, cs = [q1] ∧ Slc f 1 (FlatR enc3) q1 a) n5 (fun f j h => ⟨_, rfl, h⟩)) (R' := fun f cs a => ∃ q1, cs = [q1] ∧ Slc f 1 (FlatR enc3) q1 a) (Q' := fun l => (l.length ≤ maxLen ∧ l.length * 8 ≤ reachBytes) ∧ True) (b := b5) (fun _ _ h => h) (fun h => ⟨⟨h.1, t5⟩, trivial⟩)
  obtain ⟨b6, hb6⟩ := read4 _ _ _ q_6
  have e6 := ElemN.flat (W := W) (z := 1) (enc := enc4) (fun _ => rfl) hb6
  obtain ⟨b7, hb7⟩ := read3 _ _ _ q_7
  have e7 := ElemN.flat (W := W) (z := 1) (enc := enc3) (fun _ => rfl) hb7
  have p7 := e7
  have p6 := elemPair e6 p7
  have p5 := elemPair e5 p6
  have p4 := elemPair e4 p5
  have p3 := elemPair e3 p4
  have p2 := elemPair e2 p3
  have p1 := elemPair e1 p2
  have p0 := elemPair e0 p1
  refine ⟨⟨b0, b1, b2, b3, b4, b5, b6, b7⟩, _, _, _, elemMapR p0 (R' := rep33) (Q' := qq33) (b := ⟨b0, b1, b2, b3, b4, b5, b6, b7⟩) (fun f x h => ?_) (fun h => ?_)⟩
  · obtain ⟨x0, y0, rfl, h0, x1, y1, rfl, h1, x2, y2, rfl, h2, x3, y3, rfl, h3, x4, y4, rfl, h4, x5, y5, rfl, h5, x6, x7, rfl, h6, h7⟩ := h
    have h0' : x0 = enc9 b0 := h0
    subst h0'
    have h1' : x1 = enc3 b1 := h1
    subst h1'
    have h2' : x2 = enc3 b2 := h2
    subst h2'
    have h3' : x3 = enc30 b3 := h3
    subst h3'
    have h4' : x4 = enc3 b4 := h4
    subst h4'
    obtain ⟨q5_0, rfl, g5_0⟩ := h5
    have h6' : x6 = enc4 b6 := h6
    subst h6'
    have h7' : x7 = enc3 b7 := h7
    subst h7'
    exact ⟨q5_0, rfl, g5_0⟩
  · obtain ⟨w0, w1, w2, w3, w4, w5, w6, w7⟩ := h
    exact w5.1
theorem cells123 : Tryz.prog.cellsOf 123 = 2 := by kernel_rfl
theorem read123 {H : Type} {enc : TypeId × Value → H} {W : World} {held : Bool} (n : Nat) (cs : List Value) (x : DataW H × List MemPlace) (h : DataW.trod enc Tryz.prog W 0 (fun _ => true) held n 123 cs = some x) : ∃ a : S_api_Signature, ∀ m, concs m (enc123 a) = some cs := by
  have hlen : cs.length = 2 := (DataW.trod_struct Tryz.underlying123 h).elim fun _ h1 => h1.elim fun _ h2 => h2.2.2.1.trans cells123
  obtain ⟨c0, c1, rfl⟩ := list2 hlen
  obtain ⟨xs, m, _, hx, _, hl, hf⟩ := DataW.trod_struct Tryz.underlying123 h
  obtain ⟨x_0, x_1, rfl⟩ := list2 hl
  have g_0 := hf 0 (⟨ "Signer", 3, 0, false, "", "", 0⟩) rfl
  simp only [cells3] at g_0
  have g_1 := hf 1 (⟨ "Number", 3, 1, false, "", "", 8⟩) rfl
  simp only [cells3] at g_1
  have q_0 : DataW.trod enc Tryz.prog W 0 (fun _ => true) held m 3 [c0] = some x_0 := g_0
  have q_1 : DataW.trod enc Tryz.prog W 0 (fun _ => true) held m 3 [c1] = some x_1 := g_1
  obtain ⟨a_0, ha_0⟩ := read3 _ _ _ q_0
  obtain ⟨a_1, ha_1⟩ := read3 _ _ _ q_1
  exact ⟨⟨a_0, a_1⟩, fun m => concs_append (ha_0 m) (ha_1 m)⟩
theorem cells34 : Tryz.prog.cellsOf 34 = 1 := by kernel_rfl
theorem bytes123 : Tryz.prog.bytesOf 123 = 16 := by kernel_rfl
theorem gread36 {H : Type} {enc : TypeId × Value → H} {W : World} {held : Bool} (n : Nat) (cs : List Value) (x : DataW H × List MemPlace) (h : DataW.trod enc Tryz.prog W 0 (fun _ => true) held n 36 cs = some x) (hw : ∀ y ∈ DataW.weights Tryz.prog 36 x.1, y ≤ reachBytes) : ∃ (a : S_api_Notice) (K : Nat) (rows : Nat → List BRow) (s : Nat → List SV), ElemN W 10 rep36 qq36 cs a K rows s := by
  have hlen : cs.length = 10 := (DataW.trod_struct Tryz.underlying36 h).elim fun _ h1 => h1.elim fun _ h2 => h2.2.2.1.trans cells36
  obtain ⟨c0, c1, c2, c3, c4, c5, c6, c7, c8, c9, rfl⟩ := list10 hlen
  obtain ⟨xs, m, _, hx, _, hl, hf⟩ := DataW.trod_struct Tryz.underlying36 h
  obtain ⟨x_0, x_1, rfl⟩ := list2 hl
  have g_0 := hf 0 (⟨ "Alert", 33, 0, false, "", "", 0⟩) rfl
  simp only [cells33] at g_0
  have g_1 := hf 1 (⟨ "Signatures", 34, 9, false, "", "", 96⟩) rfl
  simp only [cells34] at g_1
  have q_0 : DataW.trod enc Tryz.prog W 0 (fun _ => true) held m 33 [c0, c1, c2, c3, c4, c5, c6, c7, c8] = some x_0 := g_0
  have q_1 : DataW.trod enc Tryz.prog W 0 (fun _ => true) held m 34 [c9] = some x_1 := g_1
  have hw_0 : ∀ y ∈ DataW.weights Tryz.prog 33 x_0.1, y ≤ reachBytes := fun y hy => hw y (by rw [hx]; unfold DataW.weights; rw [Tryz.underlying36]; simp only [List.map_cons, List.map_nil, DataW.weightsEach, List.mem_append]; exact .inl hy)
  obtain ⟨b0, K0, R0, S0, e0⟩ := gread33 _ _ _ q_0 hw_0
  have hw_1 : ∀ y ∈ DataW.weights Tryz.prog 34 x_1.1, y ≤ reachBytes := fun y hy => hw y (by rw [hx]; unfold DataW.weights; rw [Tryz.underlying36]; simp only [List.map_cons, List.map_nil, DataW.weightsEach, List.mem_append]; exact .inr (.inl hy))
  obtain ⟨b1, K1, R1, S1, n1, t1⟩ := inner_nestX (R := fun _ => FlatR enc123) (Q := fun _ => True) (z := 2) (by omega) cells123 ⟨(S_api_Signature.mk (0 : Int) (0 : Int))⟩ Tryz.underlying34 q_1 hw_1 (fun n cs x h _ => by obtain ⟨a, ha⟩ := read123 n cs x h; exact ⟨a, _, _, _, ElemN.flat (enc := enc123) (fun _ => rfl) ha⟩)
  rw [bytes123] at t1
  have e1 := elemMapR (ElemN.slice (R' := fun f cs a => ∃ q1, cs = [q1] ∧ Slc f 2 (FlatR enc123) q1 a) n1 (fun f j h => ⟨_, rfl, h⟩)) (R' := fun f cs a => ∃ q1, cs = [q1] ∧ Slc f 2 (FlatR enc123) q1 a) (Q' := fun l => (l.length ≤ maxLen ∧ l.length * 16 ≤ reachBytes) ∧ True) (b := b1) (fun _ _ h => h) (fun h => ⟨⟨h.1, t1⟩, trivial⟩)
  have p1 := e1
  have p0 := elemPair e0 p1
  refine ⟨⟨b0, b1⟩, _, _, _, elemMapR p0 (R' := rep36) (Q' := qq36) (b := ⟨b0, b1⟩) (fun f x h => ?_) (fun h => ?_)⟩
  · obtain ⟨x0, x1, rfl, h0, h1⟩ := h
    obtain ⟨q0_0, rfl, g0_0⟩ := h0
    obtain ⟨q1_0, rfl, g1_0⟩ := h1
    exact ⟨q0_0, q1_0, rfl, g0_0, g1_0⟩
  · obtain ⟨w0, w1⟩ := h
    exact ⟨w0, w1.1⟩
theorem bytes36 : Tryz.prog.bytesOf 36 = 120 := by kernel_rfl
theorem weights1 {P : Program} {H : Type} {t0 t1 : TypeId} {ts : List TypeId} {f0 f1 : DataW H} {gs : List (DataW H)} {y : Nat} (h : y ∈ DataW.weights P t1 f1) : y ∈ DataW.weightsEach P (t0 :: t1 :: ts) (f0 :: f1 :: gs) := by
  simp only [DataW.weightsEach, List.mem_append]
  exact .inr (.inl h)
/-- Where the run begins: the listed tables, the arguments' rows. -/
noncomputable def rowsB (r0_0 : ARow) (R1 : Nat → List BRow) : List BRow := [none, none, none, some (true, ⟨3, 0, 20⟩, intCells .u64 [1, 10, 100, 1000, 10000, 100000, 1000000, 10000000, 100000000, 1000000000, 10000000000, 100000000000, 1000000000000, 10000000000000, 100000000000000, 1000000000000000, 10000000000000000, 100000000000000000, 1000000000000000000, 10000000000000000000]), some (true, ⟨4, 0, 32⟩, intCells .u8 [0, 1, 28, 2, 29, 14, 24, 3, 30, 22, 20, 15, 25, 17, 4, 8, 31, 27, 13, 23, 21, 19, 16, 7, 26, 12, 18, 6, 11, 5, 10, 9]), some (true, ⟨5, 0, 64⟩, intCells .u8 [0, 1, 56, 2, 57, 49, 28, 3, 61, 58, 42, 50, 38, 29, 17, 4, 62, 47, 59, 36, 45, 43, 51, 22, 53, 39, 33, 30, 24, 18, 12, 5, 63, 55, 48, 27, 60, 41, 37, 16, 46, 35, 44, 21, 52, 32, 23, 11, 54, 26, 40, 15, 34, 20, 31, 10, 25, 14, 19, 9, 13, 8, 7, 6]), argB r0_0] ++ R1 7
theorem relB {W : World} {r0_0 : ARow} {R1 : Nat → List BRow} (hf : FixOK W Go.Proofs.YtoobfmfgbcohcabGreatDoor.works.fixes) (h0_0 : ∀ x, r0_0 = some x → x.1.block < W.heap.size ∧ ∀ m, RowRel m x.1 none .lost x.2 W.heap[x.1.block]?) (hN : ∀ (i : Nat) (y : Bool × Pl × List SV), (R1 7)[i]? = some (some y) → y.1 = false ∧ y.2.1.block < W.heap.size ∧ ∀ m, AtM m 7 (R1 7) → RowRel m y.2.1 none .lost y.2.2 W.heap[y.2.1.block]?) : MRel W.heap.size (mapB (rowsB r0_0 R1)) (memB (rowsB r0_0 R1)) W := memB_rel3 fun j x hj => by
  unfold rowsB at hj
  rcases j with _ | _ | _ | _ | _ | _ | _ | j
  · simp at hj
  · simp at hj
  · simp at hj
  · cases (Option.some.inj hj)
    have := fix_row hf (x := (3, intCells .u64 [1, 10, 100, 1000, 10000, 100000, 1000000, 10000000, 100000000, 1000000000, 10000000000, 100000000000, 1000000000000, 10000000000000, 100000000000000, 1000000000000000, 10000000000000000, 100000000000000000, 1000000000000000000, 10000000000000000000])) (.tail _ (.tail _ (.head _)))
    exact ⟨this.1, this.2 _, fun _ => ⟨rfl, rfl, rfl⟩⟩
  · cases (Option.some.inj hj)
    have := fix_row hf (x := (4, intCells .u8 [0, 1, 28, 2, 29, 14, 24, 3, 30, 22, 20, 15, 25, 17, 4, 8, 31, 27, 13, 23, 21, 19, 16, 7, 26, 12, 18, 6, 11, 5, 10, 9])) (.head _)
    exact ⟨this.1, this.2 _, fun _ => ⟨rfl, rfl, rfl⟩⟩
  · cases (Option.some.inj hj)
    have := fix_row hf (x := (5, intCells .u8 [0, 1, 56, 2, 57, 49, 28, 3, 61, 58, 42, 50, 38, 29, 17, 4, 62, 47, 59, 36, 45, 43, 51, 22, 53, 39, 33, 30, 24, 18, 12, 5, 63, 55, 48, 27, 60, 41, 37, 16, 46, 35, 44, 21, 52, 32, 23, 11, 54, 26, 40, 15, 34, 20, 31, 10, 25, 14, 19, 9, 13, 8, 7, 6])) (.tail _ (.head _))
    exact ⟨this.1, this.2 _, fun _ => ⟨rfl, rfl, rfl⟩⟩
  · have hj' : argB r0_0 = some x := Option.some.inj hj
    obtain ⟨y, hy, rfl⟩ := Option.map_eq_some_iff.1 hj'
    exact ⟨(h0_0 y hy).1, (h0_0 y hy).2 _, fun h => by simp at h⟩
  · have hj' : (R1 7)[j]? = some (some x) := hj
    obtain ⟨h1, h2, h3⟩ := hN j x hj'
    exact ⟨h2, h3 _ (atM_app (pre := [none, none, none, some (true, ⟨3, 0, 20⟩, intCells .u64 [1, 10, 100, 1000, 10000, 100000, 1000000, 10000000, 100000000, 1000000000, 10000000000, 100000000000, 1000000000000, 10000000000000, 100000000000000, 1000000000000000, 10000000000000000, 100000000000000000, 1000000000000000000, 10000000000000000000]), some (true, ⟨4, 0, 32⟩, intCells .u8 [0, 1, 28, 2, 29, 14, 24, 3, 30, 22, 20, 15, 25, 17, 4, 8, 31, 27, 13, 23, 21, 19, 16, 7, 26, 12, 18, 6, 11, 5, 10, 9]), some (true, ⟨5, 0, 64⟩, intCells .u8 [0, 1, 56, 2, 57, 49, 28, 3, 61, 58, 42, 50, 38, 29, 17, 4, 62, 47, 59, 36, 45, 43, 51, 22, 53, 39, 33, 30, 24, 18, 12, 5, 63, 55, 48, 27, 60, 41, 37, 16, 46, 35, 44, 21, 52, 32, 23, 11, 54, 26, 40, 15, 34, 20, 31, 10, 25, 14, 19, 9, 13, 8, 7, 6]), argB r0_0])), fun h => by rw [h1] at h; simp at h⟩
theorem fixB (r0_0 : ARow) (R1 : Nat → List BRow) : FixIn (memB (rowsB r0_0 R1)) Go.Proofs.YtoobfmfgbcohcabGreatDoor.works.fixes := fun x hx => by
  simp only [Go.Proofs.YtoobfmfgbcohcabGreatDoor.works.fixes, List.mem_cons, List.not_mem_nil, or_false] at hx
  rcases hx with rfl | rfl | rfl
  · exact memB_fix (j := 4) (p := ⟨4, 0, 32⟩) rfl
  · exact memB_fix (j := 5) (p := ⟨5, 0, 64⟩) rfl
  · exact memB_fix (j := 3) (p := ⟨3, 0, 20⟩) rfl

set_option maxRecDepth 100000 in
theorem lifted (os : Os) (started : os.Started) (H : Type) (enc : TypeId × Value → H) :
    ReturnsInHanded {} Tryz.checked os 3 .any (fun w args => (Rows.alertBoardsSpec.pre enc Tryz.prog Tryz.f3 [] false w args ∧ laidMetH Tryz.prog Rows.alertBoardsRow.laid w) ∧ sizedMet enc Tryz.prog Tryz.f3 (OpenSpec.ofChange Rows.alertBoardsSpec) false w args)
      (Rows.alertBoardsSpec.post enc Tryz.prog Tryz.f3 false true false false) := by
  refine returnsInHanded_of_change_and (C := Tryz.checked) (X := fun w _ => laidMetH Tryz.prog Rows.alertBoardsRow.laid w) (fun _ _ _ hh h => h.of_heap hh) own started (by kernel_rfl) Tryz.func3
    (ChangeSpec.witness_shaped (enc := enc) (C := Tryz.checked) (os := os) (X := fun w _ => laidMetH Tryz.prog Rows.alertBoardsRow.laid w) false (World.doorLaid Tryz.prog 400 os) #[.agg #[.slice none 0 0, .int .i64 0], .slice none 0 0] 8 rfl (World.shaped_of_RefB (by kernel_rfl) (by kernel_rfl)) (by kernel_rfl) (by kernel_rfl) (by kernel_rfl) (door_met os _)) ?_
  intro W base args ds gs before hval0 hW _ hsz hL _
  have hval : ∀ (j : Nat) t v, Tryz.f3.params[j]? = some t → args[j]? = some v → Value.okWide Tryz.prog W .any base t v := hval0
  have hW' := hW
  obtain ⟨p, q, hA0, hV, rfl, hfz, hnd⟩ := hW
  have hA : DataW.TrodAll enc Tryz.prog W 0 (fun _ => true) true Tryz.f3.params.toList args.toList ds p := hA0
  have hAk := hA
  rw [Tryz.params3] at hA hval
  obtain ⟨rfl, rfl⟩ := trodVars_none hV
  clear hA0 hval0
  simp only [List.append_nil] at hW'
  obtain ⟨v0, v1, d0, d1, p0, p1, rfl, rfl, rfl, h0, h1⟩ := trodAll_two hA
  have hv0 := hval 0 24 v0 rfl rfl
  simp only [Value.okWide, Tryz.underlying24] at hv0
  obtain ⟨cs0, rfl, hsz0, ts0, hts0, _, hall0⟩ := hv0
  rw [types24] at hts0
  cases hts0
  obtain ⟨c0_0, c0_1, rfl⟩ := arr2 (hsz0.trans cells24)
  obtain ⟨n0, h0⟩ := h0
  have g0 : DataW.trod enc Tryz.prog W 0 (fun _ => true) true n0 24 [c0_0, c0_1] = some (d0, p0) := h0
  have hw_0 : ∀ y ∈ DataW.weights Tryz.prog 24 ((d0, p0) : DataW H × List MemPlace).1, y ≤ reachBytes := fun y hy => by
    have := List.all_eq_true.1 hsz y (by rw [Tryz.params3]; exact weights0 hy)
    simpa using this
  obtain ⟨xs_0, m_0, _, hx_0, _, hl_0, hf_0⟩ := DataW.trod_struct Tryz.underlying24 g0
  obtain ⟨x_0_0, x_0_1, rfl⟩ := list2 hl_0
  have g_0_0 := hf_0 0 (⟨ "Keys", 22, 0, false, "", "", 0⟩) rfl
  simp only [cells22] at g_0_0
  have g_0_1 := hf_0 1 (⟨ "Quorum", 3, 1, false, "", "", 24⟩) rfl
  simp only [cells3] at g_0_1
  have q_0_0 : DataW.trod enc Tryz.prog W 0 (fun _ => true) true m_0 22 [c0_0] = some x_0_0 := g_0_0
  have q_0_1 : DataW.trod enc Tryz.prog W 0 (fun _ => true) true m_0 3 [c0_1] = some x_0_1 := g_0_1
  have hw_0_0 : ∀ y ∈ DataW.weights Tryz.prog 22 x_0_0.1, y ≤ reachBytes := fun y hy => hw_0 y (by
    rw [hx_0]
    unfold DataW.weights
    rw [Tryz.underlying24]
    simp only [List.map_cons, List.map_nil, DataW.weightsEach, List.mem_append]
    exact .inl hy)
  have hc0_0 : Cell.okWide Tryz.prog W .any base 22 c0_0 := by
    obtain ⟨u', hu', hx'⟩ := hall0 0 c0_0 rfl
    cases hu'
    exact hx'
  obtain ⟨l0_0, r0_0, k0_0, ha0_0⟩ := arg_slice (enc := enc108) (z := 2) (fun _ => rfl) cells108 ⟨(S_api_Key.mk (0 : Int) (0 : Int))⟩ Tryz.underlying22 hc0_0 q_0_0 read108
  have hm0_0 := ha0_0.len
  unfold maxLen at hm0_0
  have hq0_0 := arg_weight Tryz.underlying22 q_0_0 ha0_0 (B := reachBytes) hw_0_0
  rw [bytes108] at hq0_0
  unfold reachBytes at hq0_0
  obtain ⟨b0_1, hb0_1⟩ := read3 _ _ _ q_0_1
  have hv1 := hval 1 25 v1 rfl rfl
  have hc1 : Cell.okWide Tryz.prog W .any base 25 v1 := by
    simpa only [Value.okWide, Tryz.underlying25] using hv1
  obtain ⟨n1, h1⟩ := h1
  have hcl1 : v1.cells.toList = [v1] := by
    obtain ⟨a, len, cap, rfl⟩ := okWide_slice Tryz.underlying25 hv1
    rfl
  rw [hcl1] at h1
  have hw_1 : ∀ y ∈ DataW.weights Tryz.prog 25 ((d1, p1) : DataW H × List MemPlace).1, y ≤ reachBytes := fun y hy => by
    have := List.all_eq_true.1 hsz y (by rw [Tryz.params3]; exact weights1 hy)
    simpa using this
  obtain ⟨l1, K1, R1, S1, ha1, hq1⟩ := arg_nestX (R := rep36) (Q := qq36) (z := 10) cells36 ⟨(S_api_Notice.mk (S_api_Alert.mk [] (0 : Int) (0 : Int) (S_api_Chance.mk (0 : Int) (0 : Int)) (0 : Int) [] false (0 : Int)) [])⟩ Tryz.underlying25 hc1 h1 hw_1 gread36
  have hm1 := ha1.len
  unfold maxLen at hm1
  have hrel : MRel W.heap.size (mapB (rowsB r0_0 R1)) (memB (rowsB r0_0 R1)) W := relB (fix_ok hL) ha0_0.row (ha1.row 7)
  have m0_0 : ∀ x, r0_0 = some x → mapB (rowsB r0_0 R1) (Pos.ofNat 6) = some x.1 := fun x hx => mapB_at (x := (false, x.1, x.2)) (by rw [hx]; rfl)
  have f0_0 : ∀ x, r0_0 = some x → rd (memB (rowsB r0_0 R1)) (Pos.ofNat 6) = some x.2 := fun x hx => ro_rd (memB_ro (p := x.1) (by rw [hx]; rfl))
  have mN : AtM (mapB (rowsB r0_0 R1)) 7 (R1 7) := atM_app (pre := [none, none, none, some (true, ⟨3, 0, 20⟩, intCells .u64 [1, 10, 100, 1000, 10000, 100000, 1000000, 10000000, 100000000, 1000000000, 10000000000, 100000000000, 1000000000000, 10000000000000, 100000000000000, 1000000000000000, 10000000000000000, 100000000000000000, 1000000000000000000, 10000000000000000000]), some (true, ⟨4, 0, 32⟩, intCells .u8 [0, 1, 28, 2, 29, 14, 24, 3, 30, 22, 20, 15, 25, 17, 4, 8, 31, 27, 13, 23, 21, 19, 16, 7, 26, 12, 18, 6, 11, 5, 10, 9]), some (true, ⟨5, 0, 64⟩, intCells .u8 [0, 1, 56, 2, 57, 49, 28, 3, 61, 58, 42, 50, 38, 29, 17, 4, 62, 47, 59, 36, 45, 43, 51, 22, 53, 39, 33, 30, 24, 18, 12, 5, 63, 55, 48, 27, 60, 41, 37, 16, 46, 35, 44, 21, 52, 32, 23, 11, 54, 26, 40, 15, 34, 20, 31, 10, 25, 14, 19, 9, 13, 8, 7, 6]), argB r0_0])
  have fN : AtF (rd (memB (rowsB r0_0 R1))) 7 (R1 7) := atF_app (pre := [none, none, none, some (true, ⟨3, 0, 20⟩, intCells .u64 [1, 10, 100, 1000, 10000, 100000, 1000000, 10000000, 100000000, 1000000000, 10000000000, 100000000000, 1000000000000, 10000000000000, 100000000000000, 1000000000000000, 10000000000000000, 100000000000000000, 1000000000000000000, 10000000000000000000]), some (true, ⟨4, 0, 32⟩, intCells .u8 [0, 1, 28, 2, 29, 14, 24, 3, 30, 22, 20, 15, 25, 17, 4, 8, 31, 27, 13, 23, 21, 19, 16, 7, 26, 12, 18, 6, 11, 5, 10, 9]), some (true, ⟨5, 0, 64⟩, intCells .u8 [0, 1, 56, 2, 57, 49, 28, 3, 61, 58, 42, 50, 38, 29, 17, 4, 62, 47, 59, 36, 45, 43, 51, 22, 53, 39, 33, 30, 24, 18, 12, 5, 63, 55, 48, 27, 60, 41, 37, 16, 46, 35, 44, 21, 52, 32, 23, 11, 54, 26, 40, 15, 34, 20, 31, 10, 25, 14, 19, 9, 13, 8, 7, 6]), argB r0_0]) fun i y hy => (ha1.row 7 i y hy).1
  have hlaw := law_eq (l0_0.length + l1.length + 70100 + (l1.map fun n => n.Alert.Cells.length + n.Signatures.length).sum) ⟨l0_0, b0_1⟩ l1 (by simp only; omega) (by simp only; omega) (by omega) (by omega) (fun a h => by have hq := ha1.all a h; simp only [qq36, qq33, reachBytes, maxLen] at hq; omega) (fun a h => by have hq := fuel_sum l1 a h; omega) rfl
  have hrun := law10_AlertBoards_run (l0_0.length + l1.length + 70100 + (l1.map fun n => n.Alert.Cells.length + n.Signatures.length).sum) ⟨l0_0, b0_1⟩ l1 _ _ true (memB (rowsB r0_0 R1)) (ha0_0.slc _ 6 f0_0) (ha1.slc _ 7 fN) (fixB r0_0 R1) hlaw
  have has : concs (mapB (rowsB r0_0 R1)) [.agg [argS r0_0 6 l0_0.length k0_0, (.int .i64 b0_1)], S1 7] = some [.agg #[c0_0, c0_1], v1] := by
    refine concs_cons (conc_aggL (concs_append (concs_cons (ha0_0.val _ 6 m0_0) (concs_nil _)) (hb0_1 _))) (concs_cons (ha1.val _ 7 mN) (concs_nil _))
  have hcalls : Calls Tryz.prog 3 #[.agg #[c0_0, c0_1], v1] W fun e W' => e = .returned (.bool true) ∧ Below W.heap.size W W' := by
    refine (Run.calls (Q := law10_AlertBoards_post true) mixed Tryz.func3 rfl rfl (frozen_rel hrel) (vs := #[.agg #[c0_0, c0_1], v1]) has hrun).mono fun e W' ⟨m', M', s, x, he, hx, hs, hst⟩ => ?_
    have hs' : s = .bool true := hs
    subst hs'
    have hx' : x = .bool true := by simp [conc] at hx; exact hx.symm
    subst hx'
    exact ⟨he, hst.below⟩
  refine hcalls.mono fun e W' ⟨he, hb⟩ => ?_
  subst he
  exact ⟨_, rfl, _, _, _, [], _, [], hW', trodAll_cons_mk (shut_bool Tryz.underlying4 _) trodAll_mk0, trodAll_below kids full hb within hAk, rfl, hb.frame _, fun h => by cases h⟩

theorem hfn : Tryz.prog.funcNamed Rows.alertBoardsRow.func = some 3 := by kernel_rfl
theorem hinst : Tryz.f3.isInstance Tryz.prog Rows.alertBoardsRow.origin Rows.alertBoardsRow.targs := of_decide_eq_true (by kernel_rfl)
theorem hwrap : Tryz.f3.isWrapper Tryz.prog Rows.alertBoardsRow.wrapper Rows.alertBoardsRow.mainSum := by
  unfold Func.isWrapper
  first
    | (rw [if_pos (by decide +kernel)]; kernel_rfl)
    | (rw [if_neg (by decide +kernel)]; exact ⟨rfl, rfl⟩)
set_option maxRecDepth 100000 in
theorem facts : joinedFacts Tryz.prog 3 Tryz.f3 Rows.alertBoardsSpec Rows.alertBoardsRow = true := (and2 (and2 (and2 (and2 (and2 (and2 (and2 (and2 (and2 (and2 (and2 (and2 (and2 (and2 (and2 (and2 (and2 (and2 (and2 (and2 (and2 (and2 (and2 (and2 (and2 (and2 (and2 (and2 (and2 (and2 (and2 j0 j1) j2) j3) j4) j5) j6) j7) j8) j9) j10) j11) j12) j13) j14) j15) j16) j17) j18) j19) j20) j21) j22) j23) j24) j25) j26) j27) j28) j29) j30) j31)

theorem over : Rows.AlertBoardsSaid :=
  OpenClaim.holds_of_wide (p := Tryz.pinned) (s := Rows.alertBoardsSpec) (c := Rows.alertBoardsRow) 3 Tryz.f3 rfl rfl rfl rfl rfl rfl rfl ⟨rfl, rfl, rfl, rfl, rfl⟩ rfl rfl rfl rfl rfl hfn Tryz.func3 facts hinst hwrap
    (fun os started H enc _ => lifted os started H enc)
end Go.Proofs.YtoobfmfgbcohcabGreatDoor.alertBoards
