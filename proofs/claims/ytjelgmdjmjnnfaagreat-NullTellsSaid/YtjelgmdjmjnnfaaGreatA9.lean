/- Preorder, bodies: what a right grammar is. Nothing here speaks of a program. -/
import Derived.Test.YtjelgmdjmjnnfaaGreatA8
set_option linter.unusedSimpArgs false
set_option linter.unusedVariables false
namespace Go.Proofs.YtjelgmdjmjnnfaaGreat
theorem climb_high {len : Nat} {ms : Nat → Meas} (n0 : Nat) (hs : ∀ m : Nat, n0 ≤ m → m < len → 1 ≤ (ms m).1 ∧ (ms m).2 ≤ (ms m).1) : ∀ (r : List Int) (next high to hh s : Int), (n0 : Int) ≤ next → climb len ms r next high = some (to, hh) → high ≤ next - s → s ≤ next → hh ≤ to - s
  | [], next, high, to, hh, s, _, h, h2, _ => by simp [climb] at h; omega
  | k :: r, next, high, to, hh, s, hn, h, h2, h3 => by
    unfold climb at h
    split at h
    · rename_i hk
      obtain ⟨rfl, hk2⟩ := hk
      obtain ⟨a1, a2⟩ := hs k.toNat (by omega) (by omega)
      exact climb_high n0 hs r _ _ to hh s (by omega) h (by omega) (by omega)
    · cases h
theorem measured_high {l : List Nd} {ms : Nat → Meas} {n : Nat} (h : Measured l ms n) : ∀ d m : Nat, l.length - m ≤ d → n ≤ m → m < l.length → (ms m).2 ≤ (ms m).1
  | 0, m, hd, _, hl => by omega
  | d + 1, m, hd, hn, hl => by
    obtain ⟨a1, a2, a3, a4⟩ := h m hn hl
    have := climb_high (m + 1) (fun k hk hkl => ⟨(h k (by omega) hkl).1, measured_high h d k (by omega) (by omega) hkl⟩) _ _ _ _ _ (m + 1) (by omega) a4 (by omega) (by omega)
    omega
theorem measured_le {l : List Nd} {ms : Nat → Meas} {n : Nat} (h : Measured l ms n) (m : Nat) (hn : n ≤ m) (hl : m < l.length) : (ms m).2 ≤ (ms m).1 := measured_high h _ m (Nat.le_refl _) hn hl
/-- Nodes stand in preorder. -/
def Pre (l : List Nd) : Prop := ∃ ms, Measured l ms 0
noncomputable def preB (l : List Nd) : Bool := by classical exact decide (Pre l)
theorem preB_true {l : List Nd} : preB l = true ↔ Pre l := by unfold preB; simp
theorem preB_false {l : List Nd} : preB l = false ↔ ¬ Pre l := by unfold preB; simp
/-- Bodies one behind the other, none too high; where the last one ends. -/
def bodies (len : Nat) (ms : Nat → Meas) : List Rl → Int → Option Int
  | [], next => some next
  | r :: l, next => if r.body = next ∧ next < len ∧ (ms next.toNat).2 ≤ 16 then bodies len ms l (next + (ms next.toNat).1) else none
/-- Each rule has a name, of its own. -/
def Named (l : List Rl) : Prop := ∀ i, i < l.length → nameOk (l.getD i Rl.zero).name.data.toList = true ∧ ruleAt l (l.getD i Rl.zero).name = i
def AllRight (l : List Nd) (r : Int) : Prop := ∀ i, i < l.length → nodeOk (l.getD i Nd.zero) r = true
structure Right (g : Gr) : Prop where
  rules : 1 ≤ g.rules.length ∧ g.rules.length ≤ 32
  nodes : g.nodes.length ≤ 2048
  named : Named g.rules
  all : AllRight g.nodes g.rules.length
  pre : ∃ ms, Measured g.nodes ms 0 ∧ bodies g.nodes.length ms g.rules 0 = some g.nodes.length
noncomputable def rightB (g : Gr) : Bool := by classical exact decide (Right g)
theorem rightB_true {g : Gr} : rightB g = true ↔ Right g := by unfold rightB; simp
theorem rightB_false {g : Gr} : rightB g = false ↔ ¬ Right g := by unfold rightB; simp
theorem bodies_congr {len : Nat} {ms ms' : Nat → Meas} (h1 : ∀ m, m < len → 1 ≤ (ms m).1) (h : ∀ m, m < len → ms m = ms' m) : ∀ (l : List Rl) (next : Int), 0 ≤ next → bodies len ms l next = bodies len ms' l next
  | [], _, _ => rfl
  | r :: l, next, hn => by
    unfold bodies
    by_cases hl : next < len
    · rw [h next.toNat (by omega)]
      have := h1 next.toNat (by omega)
      rw [h next.toNat (by omega)] at this
      split
      · exact bodies_congr h1 h l _ (by omega)
      · rfl
    · rw [if_neg (fun h => hl h.2.1), if_neg (fun h => hl h.2.1)]
theorem measured_eq {l : List Nd} {ms ms' : Nat → Meas} (h : Measured l ms 0) (h' : Measured l ms' 0) : ∀ m, m < l.length → ms m = ms' m := fun m hm => measured_unique h h' _ m (Nat.le_refl _) (by omega) (by omega) hm
theorem Right.bodies {g : Gr} (h : Right g) {ms : Nat → Meas} (hm : Measured g.nodes ms 0) : bodies g.nodes.length ms g.rules 0 = some g.nodes.length := by
  obtain ⟨ms', h1, h2⟩ := h.pre
  rw [← h2]
  exact bodies_congr (fun m hl => (hm m (by omega) hl).1) (measured_eq hm h1) _ 0 (by omega)
end Go.Proofs.YtjelgmdjmjnnfaaGreat
