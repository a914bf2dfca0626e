/- A row of parts, sorted. -/
import Derived.Test.YtgploogflhfolaaSa
import Derived.Test.YtgploogflhfolaaWd
import Derived.OwnWalk
import Derived.Maps.AppendAt
namespace Go.Proofs.Ytgploogflhfolaa
open Go Go.Proofs Go.Shelf Go.RowKit Go.Lib
def encS (x : Int × Int) : List Value := [.int .i64 x.1, .int .i64 x.2]
/-- The cells of spans. -/
def scells (xs : List (Int × Int)) : List Value := xs.flatMap encS
theorem scells_app (a b : List (Int × Int)) : scells (a ++ b) = scells a ++ scells b := by simp [scells]
theorem scells_length (xs : List (Int × Int)) : (scells xs).length = xs.length * 2 := by
  induction xs with
  | nil => rfl
  | cons x xs ih => rw [show x :: xs = [x] ++ xs from rfl, scells_app, List.length_append, ih]; simp [scells, encS]; omega
theorem scells_at {xs : List (Int × Int)} : ∀ {i : Nat}, i < xs.length → (scells xs)[i * 2]? = some (.int .i64 (xs.getD i (0, 0)).1) ∧ (scells xs)[i * 2 + 1]? = some (.int .i64 (xs.getD i (0, 0)).2) := by
  induction xs with
  | nil => intro i h; simp at h
  | cons x xs ih =>
    intro i h
    cases i with
    | zero => simp [scells, encS]
    | succ i =>
      have := ih (i := i) (by simpa using h)
      rw [show (i + 1) * 2 = i * 2 + 2 by omega]
      simpa [scells, encS] using this
theorem scells_take (xs : List (Int × Int)) : ∀ n, scells (xs.take n) = (scells xs).take (n * 2) := by
  induction xs with
  | nil => intro n; simp [scells]
  | cons x xs ih =>
    intro n
    cases n with
    | zero => simp [scells]
    | succ n =>
      rw [List.take_succ_cons, show (n + 1) * 2 = n * 2 + 2 by omega]
      show encS x ++ scells (xs.take n) = (encS x ++ scells xs).take (n * 2 + 2)
      rw [ih n, List.take_append]
      simp [encS]

theorem ltOrd (x y : Int × Int) : ltOf ordI x y = (decide (x.1 < y.1) || decide (x.1 = y.1) && decide (y.2 < x.2)) := ord_lt x y
theorem swoOrd : Go.Sort.SWO (ltOf ordI) where
  irrefl x := by rw [ltOrd]; simp
  trans x y z h1 h2 := by rw [ltOrd] at *; simp at *; omega
  ntrans x y z h1 h2 := by rw [ltOrd] at *; simp at *; omega
theorem totOrd (x y : Int × Int) (h1 : ltOf ordI x y = false) (h2 : ltOf ordI y x = false) : x = y := by
  rw [ltOrd] at *
  simp at *
  exact Prod.ext (by omega) (by omega)
/-- The spans, sorted. -/
def srt (xs : List (Int × Int)) : List (Int × Int) := xs.mergeSort fun x y => !(ltOf ordI y x)

theorem flat_get (d : Array (Int × Int)) {j : Nat} (h : j < d.size * 2) : (Go.Sort.flatK encS 2 d)[j]! = (scells d.toList)[j]?.getD default := by
  rw [Go.Sort.get_flatK _ _ _ _ h]
  have hi : j / 2 < d.toList.length := by simp; omega
  have hi' : j / 2 < d.size := by omega
  obtain ⟨h0, h1⟩ := scells_at hi
  have e : d.toList.getD (j / 2) (0, 0) = d[j / 2]! := by simp [List.getD, hi', getElem!_pos d (j / 2) (by exact hi')]
  rw [e] at h0 h1
  rcases Nat.mod_two_eq_zero_or_one j with h | h
  · rw [show j / 2 * 2 = j by omega] at h0
    rw [h0, h]; rfl
  · rw [show j / 2 * 2 + 1 = j by omega] at h1
    rw [h1, h]; rfl

theorem holds_of_own {w : World} {base g cap : Nat} {xs : List (Int × Int)} (h : w.ownsRow base 51 2 (.slice (some ⟨g, 0, none⟩) xs.length cap) xs.length (scells xs)) : Go.Sort.HoldsK encS 2 w g 0 xs.toArray := by
  intro j hj
  have hj' : j < xs.toArray.size * 2 := by simpa using hj
  have hj2 : j < xs.length * 2 := by simpa using hj'
  rw [Nat.zero_add]
  refine ⟨?_, h.frozenAt j⟩
  rw [h.cellAt j (by omega), flat_get _ hj']
  have : j < (scells xs).length := by rw [scells_length]; omega
  simp [List.getElem?_eq_getElem this]

theorem sorted_heap (w : World) (g m : Nat) (d : Array (Int × Int)) (os : Array Obj) (k : Nat) (hk : k < w.heap.size) :
    (Go.Proofs.sortWorldK encS 2 w g 0 m d os).heap[k]? = if k = g then (w.heap[k]?).map (Go.Sort.onCells (Go.Sort.putCells id 0 (Go.Sort.flatK encS 2 d))) else w.heap[k]? := by
  unfold Go.Proofs.sortWorldK Go.Sort.putRowK Go.Sort.putRow
  rw [Go.Sort.heap_grow_old _ _ (by simpa [Go.Sort.mapBlock] using hk)]
  simp only [Go.Sort.mapBlock, Array.getElem?_modify]
  by_cases h : g = k
  · subst h; simp
  · rw [if_neg h, if_neg (Ne.symm h)]; rfl

theorem below_sorted {B : Nat} (w : World) (g m : Nat) (d : Array (Int × Int)) (os : Array Obj) (hB : B ≤ g) (hg : g < w.heap.size) : Below B w (Go.Proofs.sortWorldK encS 2 w g 0 m d os) := by
  refine ⟨rfl, rfl, rfl, ?_, fun k hk => ?_⟩
  · unfold Go.Proofs.sortWorldK Go.Sort.putRowK Go.Sort.putRow
    simp [Go.Sort.mapBlock, Go.Sort.ahead]
  · by_cases h : k < w.heap.size
    · rw [sorted_heap _ _ _ _ _ _ h, if_neg (by omega)]
    · omega
theorem own_sorted {w : World} {base g cap n m : Nat} {xs : List Value} {d : Array (Int × Int)} {os : Array Obj} (h : w.ownsRow base 51 2 (.slice (some ⟨g, 0, none⟩) n cap) n xs) (hn : d.size = n) :
    (Go.Proofs.sortWorldK encS 2 w g 0 m d os).ownsRow base 51 2 (.slice (some ⟨g, 0, none⟩) n cap) n (scells d.toList) := by
  refine ⟨by rw [scells_length]; simp [hn], ?_⟩
  rcases h.2 with ⟨h0, _⟩ | ⟨g', cap', cur, h1, h2, h3, h4, h5, h6, h7⟩
  · cases h0
  · cases h1
    have hg : g < w.heap.size := (Array.getElem?_eq_some_iff.1 h3).1
    refine .inr ⟨g, cap, Go.Sort.putCells id 0 (Go.Sort.flatK encS 2 d) cur, rfl, h2, ?_, h4, h5, ?_, ?_⟩
    · rw [sorted_heap _ _ _ _ _ _ hg, if_pos rfl, h3]; rfl
    · simp [Go.Sort.putCells, h6]
    · apply List.ext_getElem?
      intro j
      rw [List.getElem?_take]
      split
      · rename_i hj
        have hj2 : j < d.size * 2 := by omega
        have hc : j < cur.size := by rw [h6]; exact Nat.lt_of_lt_of_le hj (Nat.mul_le_mul_right 2 h4)
        have hl : j < (scells d.toList).length := by rw [scells_length]; simpa using hj2
        have e := flat_get d hj2
        simp only [Go.Sort.putCells, Array.getElem?_toList, Array.getElem?_mapIdx, Array.getElem?_eq_getElem hc, Option.map_some, Nat.zero_le, true_and, Nat.zero_add, Go.Sort.size_flatK, if_pos hj2, Nat.sub_zero, id]
        rw [e, List.getElem?_eq_getElem hl]
        rfl
      · rename_i hj
        rw [List.getElem?_eq_none]
        rw [scells_length]; simp; omega

theorem Try.agg51 (w : World) : (isAgg 51).run Try.prog w = .ok true w := by kernel_rfl
theorem Try.size51 (w : World) : (Go.sizeOf 51).run Try.prog w = .ok 2 w := by kernel_rfl
theorem srt_perm (xs : List (Int × Int)) : (srt xs).Perm xs := List.mergeSort_perm _ _
theorem srt_length (xs : List (Int × Int)) : (srt xs).length = xs.length := (srt_perm xs).length_eq

/-- slices.SortFunc at parts, by their order. -/
theorem sort_any (base g cap : Nat) (xs : List (Int × Int)) (w : World) (hl : xs.length < 4611686018427387904) (h : w.ownsRow base 51 2 (.slice (some ⟨g, 0, none⟩) xs.length cap) xs.length (scells xs)) :
    Calls Try.prog 43 #[.slice (some ⟨g, 0, none⟩) xs.length cap, .func (.func 34) #[] #[]] w fun e w' => e = .returned (.tuple #[]) ∧ w'.ownsRow base 51 2 (.slice (some ⟨g, 0, none⟩) xs.length cap) xs.length (scells (srt xs)) ∧ Below base w w' := by
  have eg : ∀ args w, (callFunc 34 args).run Try.prog w = .ok (.enter 34 args) w := enters_of Try.func34 (by kernel_rfl) rfl
  have hg := (h.lt g rfl)
  have hcmp : CmpLays Try.prog 34 #[] encS 2 ordI g 0 xs.toArray.size w := fun m os dk _ x y =>
    (order_any x y _).mono fun _ _ ⟨he, hw⟩ => ⟨he, hw.world⟩
  have hcon := AnyQ.slices_SortFunc Try.sortP 2 Try.agg51 Try.size51 encS (fun _ => rfl) (fun x v hv => by simp [encS] at hv; rcases hv with rfl | rfl <;> rfl) ordI swoOrd 34 #[] g 0 cap xs.toArray w eg hcmp (holds_of_own h) hg.2 (by simpa using hl)
  change Calls Try.prog 43 _ _ _ at hcon
  rw [List.size_toArray] at hcon
  refine hcon.mono ?_
  rintro e w' ⟨rfl, d', m, os, hp, hs, rfl⟩
  have hz : d'.size = xs.length := by simpa using hp.1
  have e : d'.toList = srt xs := by
    have := Go.Sort.sorted_unique_holds swoOrd totOrd xs.toArray d' hp hs
    simpa [srt] using this
  rw [← e]
  exact ⟨rfl, own_sorted h hz, below_sorted _ _ _ _ _ hg.1 hg.2⟩
end Go.Proofs.Ytgploogflhfolaa
