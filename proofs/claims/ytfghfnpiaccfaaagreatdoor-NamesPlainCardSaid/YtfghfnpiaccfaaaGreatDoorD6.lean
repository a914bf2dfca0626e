/- The chapter's examples: what is read of them. Nothing here walks the program. -/
import Derived.Test.YtfghfnpiaccfaaaGreatDoorD5
import Derived.Test.YtfghfnpiaccfaaaGreatDoorH1
import Derived.Deep.CutRange
set_option linter.unusedSimpArgs false
set_option linter.unusedVariables false
namespace Go.Proofs.YtfghfnpiaccfaaaGreatDoor.J
open Go Go.RowKit
abbrev sbA : ByteArray := ⟨#[65]⟩
abbrev sbB : ByteArray := ⟨#[66]⟩
abbrev sbb : ByteArray := ⟨#[98]⟩
abbrev sbC : ByteArray := ⟨#[67]⟩
abbrev sb0 : ByteArray := ⟨#[]⟩
/-- A <- B A; B <- "b"; -/
def lA : List Nat := [65, 32, 60, 45, 32, 66, 32, 65, 59, 32, 66, 32, 60, 45, 32, 34, 98, 34, 59]
abbrev sA : ByteArray := ⟨#[65, 32, 60, 45, 32, 66, 32, 65, 59, 32, 66, 32, 60, 45, 32, 34, 98, 34, 59]⟩
def uA : List Ru := [⟨[65], 0, (⟨6, no, [], 0, 2, []⟩, .cons ⟨5, no, [], 0, 2, [66]⟩ .nil (.cons ⟨5, no, [], 0, 3, [65]⟩ .nil .nil))⟩, ⟨[66], 5, (⟨4, no, [98], 0, 7, []⟩, .nil)⟩]
/-- A <- C; -/
def lC : List Nat := [65, 32, 60, 45, 32, 67, 59]
abbrev sC : ByteArray := ⟨#[65, 32, 60, 45, 32, 67, 59]⟩
def uC : List Ru := [⟨[65], 0, (⟨5, no, [], 0, 2, [67]⟩, .nil)⟩]
/-- A <- B; A <- A; B <- (); -/
def lT : List Nat := [65, 32, 60, 45, 32, 66, 59, 32, 65, 32, 60, 45, 32, 65, 59, 32, 66, 32, 60, 45, 32, 40, 41, 59]
abbrev sT : ByteArray := ⟨#[65, 32, 60, 45, 32, 66, 59, 32, 65, 32, 60, 45, 32, 65, 59, 32, 66, 32, 60, 45, 32, 40, 41, 59]⟩
def uT : List Ru := [⟨[65], 0, (⟨5, no, [], 0, 2, [66]⟩, .nil)⟩, ⟨[65], 4, (⟨5, no, [], 0, 6, [65]⟩, .nil)⟩, ⟨[66], 8, (⟨1, no, [], 0, 10, []⟩, .nil)⟩]
theorem strA : Str sA lA := by unfold Str; rfl
theorem strC : Str sC lC := by unfold Str; rfl
theorem strT : Str sT lT := by unfold Str; rfl
theorem stpA : stp lA 9 = true ∧ ∀ j, j < 9 → stp lA j = false := by
  refine ⟨by kernel_rfl, ?_⟩
  have h : (List.range 9).all (fun j => !stp lA j) = true := by kernel_rfl
  intro j hj
  simpa using List.all_eq_true.1 h j (List.mem_range.2 hj)
theorem stpC : stp lC 4 = true ∧ ∀ j, j < 4 → stp lC j = false := by
  refine ⟨by kernel_rfl, ?_⟩
  have h : (List.range 4).all (fun j => !stp lC j) = true := by kernel_rfl
  intro j hj
  simpa using List.all_eq_true.1 h j (List.mem_range.2 hj)
theorem stpT : stp lT 13 = true ∧ ∀ j, j < 13 → stp lT j = false := by
  refine ⟨by kernel_rfl, ?_⟩
  have h : (List.range 13).all (fun j => !stp lT j) = true := by kernel_rfl
  intro j hj
  simpa using List.all_eq_true.1 h j (List.mem_range.2 hj)
theorem owA : (ow lA 9).isSome = true := by kernel_rfl
theorem owC : (ow lC 4).isSome = true := by kernel_rfl
theorem owT : (ow lT 13).isSome = true := by kernel_rfl
theorem readA : trd lA 9 = .ok uA 9 := by kernel_rfl
theorem readC : trd lC 4 = .ok uC 4 := by kernel_rfl
theorem readT : trd lT 13 = .ok uT 13 := by kernel_rfl
/-- What reading a text that can be read tells. -/
def Rdd (l : List Nat) (N : Nat) (us : List Ru) (w : World) (e : Ending) (w' : World) : Prop := Below w.heap.size w w' ∧ ∃ t : Tre, e = .returned (.tuple #[t.val, dgv 0 0]) ∧ t.At w' ∧ t.Says l us ∧ Got l N us
theorem text_yes {N : Nat} {s : ByteArray} {l : List Nat} {us : List Ru} {j0 : Nat} (hs : Str s l) (hl : l.length ≤ 16384) (hN : stp l N = true) (hNl : N ≤ l.length) (hNb : ∀ j, j < N → stp l j = false) (ho : (ow l N).isSome = true) (hr : trd l N = .ok us j0) (w : World) (hT : Tab w) :
    Calls Tryz.prog 15 #[.string s] w (Rdd l N us w) := by
  refine (text3 N s l hs hl hN hNl hNb w hT).mono fun e w' h => ?_
  obtain ⟨hb, ⟨h1, h2⟩ | ⟨er, j, h1, h2, _⟩ | ⟨us', j, t, h1, h2, h3, h4, h5, h6⟩⟩ := h
  · rw [h1] at ho; cases ho
  · rw [hr] at h2; cases h2
  · rw [hr] at h2; cases h2; exact ⟨hb, t, h3, h4, h5, h6⟩
theorem textA (w : World) (hT : Tab w) : Calls Tryz.prog 15 #[.string sA] w (Rdd lA 9 uA w) := text_yes strA (by decide) stpA.1 (by decide) stpA.2 owA readA w hT
theorem textC (w : World) (hT : Tab w) : Calls Tryz.prog 15 #[.string sC] w (Rdd lC 4 uC w) := text_yes strC (by decide) stpC.1 (by decide) stpC.2 owC readC w hT
theorem textT (w : World) (hT : Tab w) : Calls Tryz.prog 15 #[.string sT] w (Rdd lT 13 uT w) := text_yes strT (by decide) stpT.1 (by decide) stpT.2 owT readT w hT
/-- What is read is small. -/
theorem says_small {l : List Nat} {N : Nat} {us : List Ru} {t : Tre} (h : t.Says l us) (G : Got l N us) (hz : l.length ≤ 16384) (hN : N ≤ l.length) : Small t.g ∧ (∀ s ∈ t.nm, s.size ≤ 9223372036854775807) ∧ t.nm.length ≤ 140737488351232 ∧ wholeB t = true := by
  obtain ⟨NL, e, hs⟩ := h.nodes
  have hnd := G.nodes
  have hlen : t.g.nodes.length = (bod us).nodes := h.nlen.1
  have hus : us.length ≤ (bod us).nodes := by rw [← bod_len]; exact Fr.len_le _
  have hr1 : t.g.rules.length = us.length := h.rlen.1
  have tx := @tkn_ok l G.lt
  refine ⟨⟨by omega, by omega, fun x hx => ?_, fun r hr => ?_⟩, fun s hsm => ?_, by rw [h.nlen.2.2]; omega, ?_⟩
  · rw [e] at hx
    obtain ⟨y, hy, rfl⟩ := List.mem_map.1 hx
    obtain ⟨K, hK⟩ := said_at hs hy
    have htx := parts_all _ G.tx _ hK
    refine ⟨?_, ?_⟩
    · obtain ⟨i, hi⟩ := List.mem_iff_getElem?.1 hy
      have h1 := congrArg (fun l => l[i]?) hs
      simp only [flat_parts] at h1
      rw [said, List.getElem?_map, hi] at h1
      cases h2 : (bod us).parts[i]? with
      | none => rw [h2] at h1; cases h1
      | some z =>
        rw [h2] at h1
        simp only [Option.map_some, Option.some.injEq, Prod.mk.injEq] at h1
        have h3 : y.kids.length = z.2.len := by rw [h1.2, roots_len]
        have h4 := Fr.len_le z.2
        have h5 : z.2.nodes ≤ (bod us).nodes := by
          obtain ⟨rest, hr⟩ := parts_drop (bod us) i z.1 z.2 h2
          have := congrArg List.length hr
          rw [List.length_drop, List.length_append, parts_length, parts_length] at this
          omega
        show (y.kids.map fun (k : Nat) => (k : Int)).length ≤ _
        rw [List.length_map]
        omega
    · show (bsv y.x.text).size ≤ _
      rw [(str_bsv htx.1.2).size]
      have := htx.1.1
      omega
  · rw [h.rules] at hr
    obtain ⟨z, hz', rfl⟩ := List.mem_map.1 hr
    have hu := (List.of_mem_zip hz').1
    show (bsv z.1.name).size ≤ _
    rw [(G.rules _ hu).1, (str_bsv (tx z.1.at_).2.1).size]
    have := (tx z.1.at_).1
    omega
  · rw [h.nm] at hsm
    obtain ⟨p, hp, rfl⟩ := List.mem_map.1 hsm
    rw [← hs] at hp
    obtain ⟨y, hy, rfl⟩ := List.mem_map.1 hp
    obtain ⟨K, hK⟩ := said_at hs hy
    have htx := parts_all _ G.tx _ hK
    show (bsv y.x.name).size ≤ _
    rw [(str_bsv htx.2.2).size]
    have := htx.2.1
    omega
  · unfold wholeB
    rw [h.nlen.2.1, h.nlen.2.2, h.rlen.2, hr1, hlen]
    simp
/-- A row of nodes, by its keys. -/
theorem keys_len {l : List Nd} {ks : List Key} (h : l.map keyNd = ks) : l.length = ks.length := by rw [← h, List.length_map]
theorem keys_at {l : List Nd} {ks : List Key} (h : l.map keyNd = ks) {i : Nat} (hi : i < l.length) (z : Key) : keyNd (l.getD i Nd.zero) = ks.getD i z := by
  rw [← h]
  simp [List.getD, List.getElem?_eq_getElem hi]
theorem keysA {t : Tre} (h : t.Says lA uA) : t.g.rules = [⟨sbA, 0⟩, ⟨sbB, 3⟩] ∧ t.nm = [sb0, sbB, sbA, sb0] ∧ t.g.nodes.map keyNd = [(6, 0, 0, 0, 0, sb0, 0, 0, [1, 2]), (5, 0, 0, 0, 0, sb0, 0, 0, []), (5, 0, 0, 0, 0, sb0, 0, 0, []), (4, 0, 0, 0, 0, sbb, 0, 0, [])] :=
  ⟨h.rules.trans (by kernel_rfl), h.nm.trans (by kernel_rfl), h.keys.trans (by kernel_rfl)⟩
theorem keysC {t : Tre} (h : t.Says lC uC) : t.g.rules = [⟨sbA, 0⟩] ∧ t.nm = [sbC] ∧ t.g.nodes.map keyNd = [(5, 0, 0, 0, 0, sb0, 0, 0, [])] ∧ t.np = [5] :=
  ⟨h.rules.trans (by kernel_rfl), h.nm.trans (by kernel_rfl), h.keys.trans (by kernel_rfl), h.np.trans (by kernel_rfl)⟩
theorem keysT {t : Tre} (h : t.Says lT uT) : t.g.rules = [⟨sbA, 0⟩, ⟨sbA, 1⟩, ⟨sbB, 2⟩] ∧ t.rp = [0, 8, 16] :=
  ⟨h.rules.trans (by kernel_rfl), h.rp.trans (by kernel_rfl)⟩
theorem twiceT {t : Tre} (h : t.Says lT uT) : twiceAt t.g.rules = some 1 ∧ t.rp.getD 1 0 = 8 := by
  obtain ⟨h1, h2⟩ := keysT h
  rw [h1, h2]
  exact ⟨by kernel_rfl, rfl⟩
theorem lostC {t : Tre} (h : t.Says lC uC) : twiceAt t.g.rules = none ∧ lostAt t.g t.nm = some 0 ∧ t.np.getD 0 0 = 5 := by
  obtain ⟨h1, h2, h3, h4⟩ := keysC h
  have hl := keys_len h3
  have k0 := keys_at h3 (i := 0) (by rw [hl]; decide) (0, 0, 0, 0, 0, sb0, 0, 0, [])
  have hk : (t.g.nodes.getD 0 Nd.zero).kind = 5 := (Prod.mk.inj k0).1
  refine ⟨by rw [h1]; kernel_rfl, ?_, by rw [h4]; rfl⟩
  unfold lostAt
  rw [hl]
  refine firstOf_some.2 ⟨by decide, ?_, fun j hj => absurd hj (by omega)⟩
  unfold lostP isCall
  rw [hk, h1, h2]
  kernel_rfl
theorem fineA {t : Tre} (h : t.Says lA uA) : twiceAt t.g.rules = none ∧ lostAt t.g t.nm = none ∧ whom t 1 = some 1 ∧ whom t 2 = some 0 := by
  obtain ⟨h1, h2, h3⟩ := keysA h
  have hl := keys_len h3
  refine ⟨by rw [h1]; kernel_rfl, ?_, by unfold whom; rw [h1, h2]; kernel_rfl, by unfold whom; rw [h1, h2]; kernel_rfl⟩
  unfold lostAt
  rw [hl]
  refine firstOf_none.2 fun j hj => ?_
  have hj' : j = 0 ∨ j = 1 ∨ j = 2 ∨ j = 3 := by simp at hj; omega
  have kj := keys_at h3 (i := j) (by rw [hl]; exact hj) (0, 0, 0, 0, 0, sb0, 0, 0, [])
  have hk := (Prod.mk.inj kj).1
  unfold lostP isCall
  rw [h1, h2]
  rcases hj' with rfl | rfl | rfl | rfl
  · rw [hk]; rfl
  · rw [hk]; rfl
  · rw [hk]; rfl
  · rw [hk]; rfl
/-- The example, resolved. -/
def exA (RA NA A0 A1 A2 A3 : Option Addr) (rc nc c0 c1 c2 c3 : Nat) : Gr := ⟨RA, rc, [⟨sbA, 0⟩, ⟨sbB, 3⟩], NA, nc, [⟨6, 0, 0, 0, 0, sb0, 0, 0, A0, c0, [1, 2]⟩, ⟨5, 0, 0, 0, 0, sb0, 1, 0, A1, c1, []⟩, ⟨5, 0, 0, 0, 0, sb0, 0, 0, A2, c2, []⟩, ⟨4, 0, 0, 0, 0, sbb, 0, 0, A3, c3, []⟩]⟩
theorem nd_of_key {x : Nd} {a b c d e : Int} {s : ByteArray} {r v : Int} {k : List Int} (h : keyNd x = (a, b, c, d, e, s, r, v, k)) : x = ⟨a, b, c, d, e, s, r, v, x.A, x.cap, k⟩ := by
  obtain ⟨x0, x1, x2, x3, x4, x5, x6, x7, x8, x9, x10⟩ := x
  simp only [keyNd, Prod.mk.injEq] at h
  obtain ⟨rfl, rfl, rfl, rfl, rfl, rfl, rfl, rfl, rfl⟩ := h
  rfl
theorem len4 {α : Type} {l : List α} (h : l.length = 4) (z : α) : l = [l.getD 0 z, l.getD 1 z, l.getD 2 z, l.getD 3 z] := by
  match l, h with
  | [a, b, c, d], _ => rfl
theorem resA {t : Tre} (h : t.Says lA uA) {g : Gr} (hT : GTwin (resG t) g) : ∃ RA NA A0 A1 A2 A3 rc nc c0 c1 c2 c3, g = exA RA NA A0 A1 A2 A3 rc nc c0 c1 c2 c3 := by
  obtain ⟨h1, h2, h3⟩ := keysA h
  obtain ⟨_, _, w1, w2⟩ := fineA h
  have hl := keys_len h3
  have hrl : (resG t).nodes.length = 4 := (part_len _ _ _).trans hl
  have hgl : g.nodes.length = 4 := hT.len.trans hrl
  have k : ∀ i, i < 4 → ∃ A c, g.nodes.getD i Nd.zero = (rs t i (t.g.nodes.getD i Nd.zero)).at_ A c := fun i hi => by
    obtain ⟨A, c, e⟩ := hT.node i (by rw [hrl]; exact hi)
    refine ⟨A, c, e.trans ?_⟩
    show ((part t t.g.nodes t.g.nodes.length).getD i Nd.zero).at_ A c = _
    rw [part_at t _ _ (by rw [hl]; exact hi), if_pos (by rw [hl]; exact hi)]
  obtain ⟨A0, c0, e0⟩ := k 0 (by omega)
  obtain ⟨A1, c1, e1⟩ := k 1 (by omega)
  obtain ⟨A2, c2, e2⟩ := k 2 (by omega)
  obtain ⟨A3, c3, e3⟩ := k 3 (by omega)
  have n0 := nd_of_key (keys_at h3 (i := 0) (by rw [hl]; decide) (0, 0, 0, 0, 0, sb0, 0, 0, []))
  have n1 := nd_of_key (keys_at h3 (i := 1) (by rw [hl]; decide) (0, 0, 0, 0, 0, sb0, 0, 0, []))
  have n2 := nd_of_key (keys_at h3 (i := 2) (by rw [hl]; decide) (0, 0, 0, 0, 0, sb0, 0, 0, []))
  have n3 := nd_of_key (keys_at h3 (i := 3) (by rw [hl]; decide) (0, 0, 0, 0, 0, sb0, 0, 0, []))
  have hr : g.rules = [⟨sbA, 0⟩, ⟨sbB, 3⟩] := hT.rules.trans h1
  refine ⟨g.RA, g.NA, A0, A1, A2, A3, g.rc, g.nc, c0, c1, c2, c3, ?_⟩
  obtain ⟨RA, rc, rules, NA, nc, nodes⟩ := g
  simp only [exA, Gr.mk.injEq, true_and]
  refine ⟨hr, ?_⟩
  have e4 : nodes = _ := len4 hgl Nd.zero
  rw [e4]
  rw [show nodes.getD 0 Nd.zero = _ from e0, show nodes.getD 1 Nd.zero = _ from e1, show nodes.getD 2 Nd.zero = _ from e2, show nodes.getD 3 Nd.zero = _ from e3]
  rw [n0, n1, n2, n3]
  unfold rs isCall
  rw [w1, w2]
  simp [Nd.at_]
end Go.Proofs.YtfghfnpiaccfaaaGreatDoor.J
namespace Go.Proofs.YtfghfnpiaccfaaaGreatDoor.J
open Go Go.RowKit
def exAm : Nat → Meas
  | 0 => (3, 2)
  | _ => (1, 1)
section
variable (RA NA A0 A1 A2 A3 : Option Addr) (rc nc c0 c1 c2 c3 : Nat)
theorem exA_meas : Measured (exA RA NA A0 A1 A2 A3 rc nc c0 c1 c2 c3).nodes exAm 0 := by
  intro m _ hm
  have : m = 0 ∨ m = 1 ∨ m = 2 ∨ m = 3 := by simp [exA] at hm; omega
  rcases this with rfl | rfl | rfl | rfl
  all_goals simp [exA, exAm, kidsOf, climb]
  all_goals omega
theorem exA_right : Right (exA RA NA A0 A1 A2 A3 rc nc c0 c1 c2 c3) where
  rules := by simp [exA]
  nodes := by simp [exA]
  named := by
    intro i hi
    have : i = 0 ∨ i = 1 := by simp [exA] at hi; omega
    rcases this with rfl | rfl
    · exact ⟨by simp [exA, nameOk, byteOk, letter], by simp [exA, ruleAt, ruleFrom]⟩
    · exact ⟨by simp [exA, nameOk, byteOk, letter], by simp [exA, ruleAt, ruleFrom]⟩
  all := by
    intro i hi
    have : i = 0 ∨ i = 1 ∨ i = 2 ∨ i = 3 := by simp [exA] at hi; omega
    rw [nodeOk_iff]
    rcases this with rfl | rfl | rfl | rfl
    all_goals simp [exA, NodeIs, ByteArray.toList_eq, ByteArray.size]
  pre := ⟨exAm, exA_meas RA NA A0 A1 A2 A3 rc nc c0 c1 c2 c3, by simp [exA, bodies, exAm]⟩
theorem exA_cal : cal (exA RA NA A0 A1 A2 A3 rc nc c0 c1 c2 c3) 0 = [1, 0] ∧ cal (exA RA NA A0 A1 A2 A3 rc nc c0 c1 c2 c3) 1 = [] := ⟨rfl, rfl⟩
theorem exA_ask (i : Nat) (hi : i < 2) : askB (exA RA NA A0 A1 A2 A3 rc nc c0 c1 c2 c3) i = true := askB_iff.2 ⟨by omega, by show (i : Int) < 2; omega, exA_right RA NA A0 A1 A2 A3 rc nc c0 c1 c2 c3⟩
theorem exA_called : calledOf (exA RA NA A0 A1 A2 A3 rc nc c0 c1 c2 c3) 0 = [0, 1] ∧ calledOf (exA RA NA A0 A1 A2 A3 rc nc c0 c1 c2 c3) 1 = [] := by
  obtain ⟨h0, h1⟩ := exA_cal RA NA A0 A1 A2 A3 rc nc c0 c1 c2 c3
  have a0 := exA_ask RA NA A0 A1 A2 A3 rc nc c0 c1 c2 c3 0 (by omega)
  have a1 := exA_ask RA NA A0 A1 A2 A3 rc nc c0 c1 c2 c3 1 (by omega)
  refine ⟨?_, ?_⟩
  · unfold calledOf
    rw [show ((0 : Int)) = ((0 : Nat) : Int) from rfl, a0, if_pos rfl]
    unfold doesB
    rw [Int.toNat_natCast, h0]
    rfl
  · unfold calledOf
    rw [show ((1 : Int)) = ((1 : Nat) : Int) from rfl, a1, if_pos rfl]
    unfold doesB
    rw [Int.toNat_natCast, h1]
    rfl
theorem exA_reached : reachedOf (exA RA NA A0 A1 A2 A3 rc nc c0 c1 c2 c3) 0 = [0, 1] := by
  obtain ⟨h0, _⟩ := exA_cal RA NA A0 A1 A2 A3 rc nc c0 c1 c2 c3
  have a0 := exA_ask RA NA A0 A1 A2 A3 rc nc c0 c1 c2 c3 0 (by omega)
  unfold reachedOf
  rw [show ((0 : Int)) = ((0 : Nat) : Int) from rfl, a0, if_pos rfl, Int.toNat_natCast]
  have e : rowOf (exA RA NA A0 A1 A2 A3 rc nc c0 c1 c2 c3).rules.length (fun r => reachB (exA RA NA A0 A1 A2 A3 rc nc c0 c1 c2 c3) 0 r) = rowOf 2 (fun _ => true) := rowOf_congr fun i hi => by
    have hi' : i = 0 ∨ i = 1 := by have : i < 2 := hi; omega
    rcases hi' with rfl | rfl
    · exact reachB_iff.2 .base
    · exact reachB_iff.2 (.step .base (by rw [h0]; decide))
  rw [e]
  rfl
end
/-- A pair of blocks, written over. -/
theorem two_blksg (w : World) (z d : Array Value) (T D : TypeId) : Blk ((w.alloc (.cells z T)).alloc (.cells d D)) w.heap.size z T ∧ Blk ((w.alloc (.cells z T)).alloc (.cells d D)) (w.heap.size + 1) d D :=
  ⟨(Blk.new _ _ _).alloc _, by have := Blk.new (w.alloc (.cells z T)) d D; rw [World.size_alloc] at this; exact this⟩
theorem pair_setg {B : Nat} {w0 w w2 w3 : World} {z d cs ds : Array Value} {T D : TypeId} (hb : Below B w0 w) (hB : B ≤ w.heap.size) (g2 : ((w.alloc (.cells z T)).alloc (.cells d D)).grownBy w2 (some w.heap.size)) (k2 : Blk w2 w.heap.size cs T) (g3 : w2.grownBy w3 (some (w.heap.size + 1))) (k3 : Blk w3 (w.heap.size + 1) ds D) :
    Below B w0 w3 ∧ Below w.heap.size w w3 ∧ Blk w3 w.heap.size cs T ∧ Blk w3 (w.heap.size + 1) ds D := by
  have h2 : Below w.heap.size w w2 := below_new (B2 w _ _) (by simp; omega) g2 (Nat.le_refl _)
  have hz : w.heap.size + 2 ≤ w2.heap.size := by have := g2.size; simp at this; omega
  have h3 : Below w.heap.size w w3 := below_new h2 (by omega) g3 (by omega)
  exact ⟨hb.trans (h3.mono hB), h3, k2.grown g3 (by simp), k3⟩
end Go.Proofs.YtfghfnpiaccfaaaGreatDoor.J
namespace Go.Proofs.YtfghfnpiaccfaaaGreatDoor.J
open Go Go.RowKit
theorem lies_pair {W : World} {b : Nat} (h : Blk W b #[.int .i64 0, .int .i64 1] 3) : Lies W (some ⟨b, 0, none⟩) (ints [0, 1]) := by
  intro _
  refine ⟨b, 0, rfl, h.lt, fun i hi => ?_⟩
  rw [Nat.zero_add, h.cell]
  have : i = 0 ∨ i = 1 := by simp [ints] at hi; omega
  rcases this with rfl | rfl <;> rfl
theorem same_two (A B : Option Addr) (c d : Nat) (W : World) (hA : Lies W A (ints [0, 1])) (hB : Lies W B (ints [0, 1])) : Calls Tryz.prog 52 #[.slice A 2 c, .slice B 2 d] W fun e w' => e = .returned (.bool true) ∧ Below W.heap.size W w' := by
  have SI := Lib.hid (show Calls Tryz.prog 101 #[.slice A 2 c, .slice B 2 d] W fun e w' => e = .returned (.bool true) ∧ Below W.heap.size W w' from (ints_same A B c d [0, 1] [0, 1] (by decide) (by decide) W hA hB).mono fun e w' h => ⟨h.1, by first | exact h.2 | exact (by obtain ⟨n, rfl⟩ := h.2; exact bdrewN (Below.refl _ _))⟩)
  clear hA hB
  go_enter Tryz.func52, Tryz.ntmps52
  go_wp2_with (go_at_call 101; (with_reducible refine SI.out.mono ?_); rintro e w1 ⟨rfl, hb1⟩; have H1 := Lib.hid hb1; clear hb1)
  go_ret
  exact ⟨rfl, H1.out⟩
/-- A grammar that was made, with all that is asked of it. -/
structure Made (w : World) (h : Gr) : Prop where
  at_ : Gr.At w h
  in_ : Gr.In h
  cap : h.nodes.length ≤ h.nc
theorem Made.below {w w' : World} {h : Gr} (m : Made w h) (hb : Below w.heap.size w w') : Made w' h := ⟨m.at_.below hb, m.in_, m.cap⟩
theorem made_of {t : Tre} {w w' : World} {B : Nat} {g : Gr} (hT : GTwin (resG t) g) (hF : Fresh w' B g) (ht : Gr.At w t.g) (hin : Gr.In t.g) : Made w' g := by
  have hl : g.nodes.length = t.g.nodes.length := hT.len.trans (part_len _ _ _)
  have hr : g.rules = t.g.rules := hT.rules
  have hx : ∀ x ∈ g.nodes, ∃ y ∈ t.g.nodes, x.kids = y.kids ∧ x.text = y.text ∧ x.kind = y.kind := fun x hx => by
    obtain ⟨i, hi, rfl⟩ := List.mem_iff_getElem.1 hx
    obtain ⟨A, c, e⟩ := hT.node i (by rw [← hT.len]; exact hi)
    have hi2 : i < t.g.nodes.length := by omega
    refine ⟨t.g.nodes.getD i Nd.zero, getD_mem hi2, ?_⟩
    have e2 : g.nodes[i] = (rs t i (t.g.nodes.getD i Nd.zero)).at_ A c := by
      rw [show g.nodes[i] = g.nodes.getD i Nd.zero by simp [List.getD, List.getElem?_eq_getElem hi], e]
      show ((part t t.g.nodes t.g.nodes.length).getD i Nd.zero).at_ A c = _
      rw [part_at t _ _ hi2, if_pos hi2]
    rw [e2]
    unfold rs
    split <;> exact ⟨rfl, rfl, rfl⟩
  refine ⟨⟨own_rules hF.rules, own_nodes hF.nodes, fun x h => ⟨own_lies1 (hF.kids x h).1, (hF.kids x h).2, ?_⟩, by rw [hr]; exact ht.rl, by rw [hl]; exact ht.nl, hF.rn, hF.nn, fun x h => ?_, fun r h => ht.names r (by rw [← hr]; exact h)⟩, fun x h => ?_, ?_⟩
  · obtain ⟨y, hy, e1, _⟩ := hx x h; rw [e1]; exact (ht.kids y hy).2.2
  · obtain ⟨y, hy, _, e2, _⟩ := hx x h; rw [e2]; exact ht.texts y hy
  · obtain ⟨y, hy, _, e2, e3⟩ := hx x h
    obtain ⟨i1, i2⟩ := hin y hy
    exact ⟨by rw [e3]; exact i1, by rw [e2]; exact i2⟩
  · obtain ⟨A, c, e, _, hc⟩ := own_slice hF.nodes
    simp only [Value.slice.injEq] at e
    rw [e.2.2]; exact hc
theorem inA {w : World} {t : Tre} (h : t.Says lA uA) (ht : Gr.At w t.g) : Gr.In t.g := by
  obtain ⟨_, _, h3⟩ := keysA h
  have hl := keys_len h3
  intro x hx
  have htx := ht.texts x hx
  obtain ⟨i, hi, rfl⟩ := List.mem_iff_getElem.1 hx
  have ki := keys_at h3 (i := i) hi (0, 0, 0, 0, 0, sb0, 0, 0, [])
  have e : t.g.nodes.getD i Nd.zero = t.g.nodes[i] := by simp [List.getD, List.getElem?_eq_getElem hi]
  rw [e] at ki
  have hk := (Prod.mk.inj ki).1
  have hi' : i = 0 ∨ i = 1 ∨ i = 2 ∨ i = 3 := by rw [hl] at hi; simp at hi; omega
  refine ⟨?_, htx⟩
  rw [hk]
  rcases hi' with rfl | rfl | rfl | rfl <;> decide
theorem rsA_any (t : Tre) (w : World) (hs : t.Says lA uA) (G : Got lA 9 uA) (ht : Tre.At w t) : Calls Tryz.prog 25 #[t.val] w fun e w' => (∃ h, e = .returned (.tuple #[Gr.val h, dgv 0 0]) ∧ Made w' h ∧ ∃ RA NA A0 A1 A2 A3 rc nc c0 c1 c2 c3, h = exA RA NA A0 A1 A2 A3 rc nc c0 c1 c2 c3) ∧ Below w.heap.size w w' := by
  obtain ⟨h1, h2, h3, h4⟩ := says_small hs G (by decide) (by decide)
  obtain ⟨f1, f2, _, _⟩ := fineA hs
  refine (resolve_any t w ht h2 h3 h1).mono fun e w' h => ?_
  obtain ⟨hb, ⟨q, _⟩ | ⟨_, i, q, _⟩ | ⟨_, _, n, q, _⟩ | ⟨_, _, _, g, e1, e2, e3⟩⟩ := h
  · rw [h4] at q; cases q
  · rw [f1] at q; cases q
  · rw [f2] at q; cases q
  · obtain ⟨RA, NA, A0, A1, A2, A3, rc, nc, c0, c1, c2, c3, ex⟩ := resA hs e2
    exact ⟨⟨g, e1, made_of e2 e3 ht.g (inA hs ht.g), RA, NA, A0, A1, A2, A3, rc, nc, c0, c1, c2, c3, ex⟩, hb⟩
theorem rsC_any (t : Tre) (w : World) (hs : t.Says lC uC) (G : Got lC 4 uC) (ht : Tre.At w t) : Calls Tryz.prog 25 #[t.val] w fun e w' => e = .returned (.tuple #[zg, dgv 5 5]) ∧ Below w.heap.size w w' := by
  obtain ⟨h1, h2, h3, h4⟩ := says_small hs G (by decide) (by decide)
  obtain ⟨f1, f2, f3⟩ := lostC hs
  refine (resolve_any t w ht h2 h3 h1).mono fun e w' h => ?_
  obtain ⟨hb, ⟨q, _⟩ | ⟨_, i, q, _⟩ | ⟨_, _, n, q, e1⟩ | ⟨_, _, q, _⟩⟩ := h
  · rw [h4] at q; cases q
  · rw [f1] at q; cases q
  · rw [f2] at q; cases q; rw [f3] at e1; exact ⟨e1, hb⟩
  · rw [f2] at q; cases q
theorem rsT_any (t : Tre) (w : World) (hs : t.Says lT uT) (G : Got lT 13 uT) (ht : Tre.At w t) : Calls Tryz.prog 25 #[t.val] w fun e w' => e = .returned (.tuple #[zg, dgv 8 8]) ∧ Below w.heap.size w w' := by
  obtain ⟨h1, h2, h3, h4⟩ := says_small hs G (by decide) (by decide)
  obtain ⟨f1, f2⟩ := twiceT hs
  refine (resolve_any t w ht h2 h3 h1).mono fun e w' h => ?_
  obtain ⟨hb, ⟨q, _⟩ | ⟨_, i, q, e1⟩ | ⟨_, q, _⟩ | ⟨_, q, _⟩⟩ := h
  · rw [h4] at q; cases q
  · rw [f1] at q; cases q; rw [f2] at e1; exact ⟨e1, hb⟩
  · rw [f1] at q; cases q
  · rw [f1] at q; cases q
end Go.Proofs.YtfghfnpiaccfaaaGreatDoor.J
