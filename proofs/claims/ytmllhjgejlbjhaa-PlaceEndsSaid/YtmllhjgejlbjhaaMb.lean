/- Plain facts on where lines begin and end. -/
import Derived.Test.YtmllhjgejlbjhaaMa
namespace Go.Proofs.Ytmllhjgejlbjhaa
/-- Where line k begins; behind the last one: the text's end. -/
def st (bs : List Nat) (L k : Nat) : Nat := if k ≤ bs.length then bs.getD (k - 1) 0 else L
theorem st_of {bs : List Nat} {L k : Nat} (h : k ≤ bs.length) : bs.getD (k - 1) 0 = st bs L k := (if_pos h).symm
theorem st_next {bs : List Nat} {L k : Nat} (hb : Lns bs L) (h1 : 1 ≤ k) (h : k ≤ bs.length) : min (beh bs L k) L = st bs L (k + 1) := by
  unfold beh st
  by_cases e : k = bs.length
  · rw [if_pos e, if_neg (by omega)]; omega
  · rw [if_neg e, if_pos (by omega), Nat.add_sub_cancel]
    have := hb.le k (by omega)
    omega
theorem st_one {bs : List Nat} {L : Nat} (hb : Lns bs L) : st bs L 1 = 0 := by
  have := hb.pos
  unfold st; rw [if_pos (by omega)]; exact hb.head
theorem st_last {bs : List Nat} {L : Nat} : st bs L (bs.length + 1) = L := if_neg (by omega)
theorem st_le {bs : List Nat} {L k : Nat} (hb : Lns bs L) (h1 : 1 ≤ k) : st bs L k ≤ L := by
  unfold st
  split
  · exact hb.le _ (by omega)
  · omega
theorem st_mono {bs : List Nat} {L k : Nat} (hb : Lns bs L) (h1 : 1 ≤ k) (h : k ≤ bs.length) : st bs L k ≤ st bs L (k + 1) := by
  rw [← st_next hb h1 h, ← st_of h]
  have h2 := (beh_gt hb h1 h).1
  have h3 := hb.le (k - 1) (by omega)
  omega
theorem st_lt {bs : List Nat} {L k : Nat} (hb : Lns bs L) (h1 : 1 ≤ k) (h : k < bs.length) : st bs L k < st bs L (k + 1) := by
  unfold st
  rw [if_pos (by omega), if_pos (by omega), Nat.add_sub_cancel]
  exact hb.mono _ _ (by omega) h
theorem st_ten (l : List Nat) {k : Nat} (h1 : 1 ≤ k) (h : k < (begs l).length) : l.getD (st (begs l) l.length (k + 1) - 1) 0 = 10 := by
  unfold st
  rw [if_pos (by omega), Nat.add_sub_cancel]
  exact (begs_ten l (by omega) h).2
theorem st_not (l : List Nat) {k j : Nat} (h1 : 1 ≤ k) (h : k ≤ (begs l).length) (h2 : st (begs l) l.length k ≤ j) (h3 : j + 1 < st (begs l) l.length (k + 1)) : l.getD j 0 ≠ 10 := by
  have h5 := st_le (L := l.length) (begs_lns l) (show 1 ≤ k + 1 by omega)
  rw [← st_next (begs_lns l) h1 h] at h3
  rw [← st_of h] at h2
  exact begs_not l h1 h h2 (by omega) (by omega)
end Go.Proofs.Ytmllhjgejlbjhaa
