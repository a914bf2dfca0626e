/- The document's way to say that a grammar is right: bodies gone through one after the other. Nothing here speaks of a program. -/
import Derived.Test.YtfdfcagkfnckmaaMb
namespace Go.Proofs.Ytfdfcagkfnckmaa
/-- Bodies gone through from 'next' on; where the last one ends. -/
def march (l : List Nd) : List Rl → Int → Option Int
  | [], next => some next
  | r :: rs, next => if r.body = next then match after l 16 next with
    | some (to, _) => march l rs to
    | none => none
    else none
theorem march_bodies {l : List Nd} {ms : Nat → Meas} (h : Measured l ms 0) : ∀ (rs : List Rl) (next : Int), 0 ≤ next → march l rs next = bodies l.length ms rs next
  | [], _, _ => rfl
  | r :: rs, next, hn => by
    unfold march bodies
    by_cases hb : r.body = next
    · rw [if_pos hb]
      by_cases hl : next < l.length
      · have e : ((next.toNat : Nat) : Int) = next := by omega
        have := after_measured h 16 next.toNat (by omega)
        rw [e] at this
        have hm := h next.toNat (by omega) (by omega)
        by_cases h16 : (ms next.toNat).2 ≤ 16
        · rw [if_pos (by omega)] at this
          rw [this, if_pos ⟨hb, hl, h16⟩]
          exact march_bodies h rs _ (by omega)
        · rw [if_neg (by omega)] at this
          rw [this, if_neg (fun hh => h16 hh.2.2)]
      · have : after l 16 next = none := by rw [show (16 : Nat) = 15 + 1 from rfl, after, if_neg hl]
        rw [this, if_neg (fun hh => hl hh.2.1)]
    · rw [if_neg hb, if_neg (fun hh => hb hh.1)]
theorem march_cover {l : List Nd} : ∀ (rs : List Rl) (next to : Int), 0 ≤ next → march l rs next = some to → next ≤ to ∧ ∀ m : Nat, next ≤ m → (m : Int) < to → ∃ r, after l 16 m = some r
  | [], next, to, _, h => by simp [march] at h; subst h; exact ⟨by omega, fun m h1 h2 => by omega⟩
  | r :: rs, next, to, hn, h => by
    unfold march at h
    split at h
    · split at h
      · rename_i t h1 he
        have e : ((next.toNat : Nat) : Int) = next := by omega
        have he2 := he
        rw [← e] at he2
        obtain ⟨a1, a2, a3, a4, a5⟩ := after_cover 16 _ _ _ he2
        obtain ⟨b1, b2⟩ := march_cover rs t to (by omega) h
        exact ⟨by omega, fun m m1 m2 => by
          by_cases hm : (m : Int) < t
          · exact a5 m (by omega) hm
          · exact b2 m (by omega) m2⟩
      · cases h
    · cases h
theorem march_right {l : List Nd} {rs : List Rl} : march l rs 0 = some (l.length : Int) ↔ ∃ ms, Measured l ms 0 ∧ bodies l.length ms rs 0 = some (l.length : Int) := by
  constructor
  · intro h
    obtain ⟨_, hc⟩ := march_cover rs 0 _ (by omega) h
    obtain ⟨ms, hm⟩ := measured_of_after 16 (l := l) (fun m hl => hc m (by omega) (by omega))
    exact ⟨ms, hm, by rw [← march_bodies hm rs 0 (by omega)]; exact h⟩
  · rintro ⟨ms, hm, hb⟩
    rw [march_bodies hm rs 0 (by omega)]
    exact hb
theorem rightB_march {g : Gr} : rightB g = true ↔ (1 ≤ g.rules.length ∧ g.rules.length ≤ 32) ∧ g.nodes.length ≤ 2048 ∧ AllRight g.nodes g.rules.length ∧ Named g.rules ∧ march g.nodes g.rules 0 = some (g.nodes.length : Int) := by
  rw [rightB_true, march_right]
  exact ⟨fun h => ⟨h.rules, h.nodes, h.all, h.named, h.pre⟩, fun ⟨a, b, c, d, e⟩ => ⟨a, b, d, c, e⟩⟩
theorem march_ne {l : List Nd} {rs : List Rl} {i : Nat} (hi : i < rs.length) {next : Int} (hn : (rs.getD i Rl.zero).body ≠ next) : march l (rs.drop i) next = none := by
  rw [List.drop_eq_getElem_cons hi]
  have hgd : rs[i] = rs.getD i Rl.zero := by simp [List.getD, List.getElem?_eq_getElem hi]
  rw [hgd, march, if_neg hn]
theorem march_eq {l : List Nd} {rs : List Rl} {i : Nat} (hi : i < rs.length) {next : Int} (hn : (rs.getD i Rl.zero).body = next) : march l (rs.drop i) next = match after l 16 next with
    | some (to, _) => march l (rs.drop (i + 1)) to
    | none => none := by
  rw [List.drop_eq_getElem_cons hi]
  have hgd : rs[i] = rs.getD i Rl.zero := by simp [List.getD, List.getElem?_eq_getElem hi]
  rw [hgd, march, if_pos hn]
end Go.Proofs.Ytfdfcagkfnckmaa
