import Derived.Test.YtaaikaeknealkaaA
import Derived.Shelf.Spec.SlicesInsert
import Derived.Shelf.Spec.SlicesInsertGrow
namespace Go.Proofs.Ytaaikaeknealkaa
open Go.RowKit Go.Shelf
def laysI_ren : Go.Shelf.Ren := ⟨fun | 21 => 23 | 27 => 24 | 28 => 25 | 35 => 26 | 39 => 27 | n => n, fun | 22 => 26 | 3 => 3 | 4 => 4 | 0 => 0 | n => n, fun | n => n⟩
theorem laysI : Go.Proofs.Lays2.n21 Try.prog laysI_ren := {
  mixed := by kernel_rfl
  f21 := Try.func23.trans (congrArg some (by kernel_rfl))
  f27 := Try.func24.trans (congrArg some (by kernel_rfl))
  f28 := Try.func25.trans (congrArg some (by kernel_rfl))
  f35 := Try.func26.trans (congrArg some (by kernel_rfl))
  f39 := Try.func27.trans (congrArg some (by kernel_rfl))
  t0 := Try.underlying0
  a0 := Try.isAgg0
  z0 := Try.sizeOf0
  v0 := Try.zeroValue0
  t3 := Try.underlying3
  a3 := Try.isAgg3
  z3 := Try.sizeOf3
  v3 := Try.zeroValue3
  t4 := Try.underlying4
  a4 := Try.isAgg4
  z4 := Try.sizeOf4
  v4 := Try.zeroValue4
  t22 := Try.underlying26
  a22 := Try.isAgg26
  z22 := Try.sizeOf26
  v22 := Try.zeroValue26
  i3 := by kernel_rfl }
/-- A row of one's own, with what is spare behind it. -/
def RowS (base : Nat) (w : World) (v : Value) (n : Nat) (f : Nat → Int) : Prop :=
  (n = 0 ∧ v = .slice none 0 0) ∨ (0 < n ∧ ∃ g cap, v = .slice (some ⟨g, 0, none⟩) n cap ∧ base ≤ g ∧ g < w.heap.size ∧ n ≤ cap ∧ cap ≤ maxLen ∧ (∀ j, j < cap → (w.cell? ⟨g, j, none⟩).isSome = true) ∧ (∀ j, j < cap → w.frozen? ⟨g, j, none⟩ = false) ∧ ∀ j, j < n → w.cell? ⟨g, j, none⟩ = some (.int .i64 (f j)))
theorem RowS.later {base : Nat} {w w' : World} {v : Value} {n : Nat} {f : Nat → Int} (h : RowS base w v n f) (hb : Below w.heap.size w w') : RowS base w' v n f := by
  rcases h with h | ⟨h0, g, cap, h1, h2, h3, h4, h5, h6, h7, h8⟩
  · exact .inl h
  · exact .inr ⟨h0, g, cap, h1, h2, Nat.lt_of_lt_of_le h3 hb.size, h4, h5, fun j hj => by rw [hb.cell (p := ⟨g, j, none⟩) h3]; exact h6 j hj, fun j hj => by rw [hb.frozen (p := ⟨g, j, none⟩) h3]; exact h7 j hj, fun j hj => by rw [hb.cell (p := ⟨g, j, none⟩) h3]; exact h8 j hj⟩
theorem RowS.base {base base' : Nat} {w : World} {v : Value} {n : Nat} {f : Nat → Int} (h : RowS base w v n f) (hb : base' ≤ base) : RowS base' w v n f := by
  rcases h with h | ⟨h0, g, cap, h1, h2, h3⟩
  · exact .inl h
  · exact .inr ⟨h0, g, cap, h1, Nat.le_trans hb h2, h3⟩
theorem RowS.ints {base : Nat} {w : World} {v : Value} {n : Nat} {f : Nat → Int} (h : RowS base w v n f) : ∃ a c, v = .slice a n c ∧ Ints w a n c (lF n f) := by
  rcases h with ⟨h0, h1⟩ | ⟨h0, g, cap, h1, h2, h3, h4, h5, h6, h7, h8⟩
  · subst h0
    exact ⟨none, 0, h1, (lF_len 0 f).symm, Nat.le_refl _, by unfold maxLen; omega, .inl rfl⟩
  · exact ⟨_, cap, h1, (lF_len n f).symm, h4, h5, .inr ⟨g, 0, rfl, h3, fun j hj => by rw [Nat.zero_add, h8 j hj]; exact congrArg (fun z => some (Value.int .i64 z)) (lF_at hj).symm⟩⟩
theorem below_cells {B b : Nat} (hb : B ≤ b) : ∀ (vs : List Value) (o : Nat) (a w : World), Below B a w → Below B a (w.setCells b o vs)
  | [], _, _, _, h => h
  | v :: r, o, a, w, h => by
    rw [World.setCells]
    exact below_cells hb r _ a _ (h.setCell (p := ⟨b, o, none⟩) hb _)
theorem size_cells (b : Nat) : ∀ (vs : List Value) (o : Nat) (w : World), (w.setCells b o vs).heap.size = w.heap.size
  | [], _, _ => rfl
  | v :: r, o, w => by rw [World.setCells, size_cells b r]; simp
def cons (x : Int) (f : Nat → Int) (j : Nat) : Int := if j = 0 then x else f (j - 1)
theorem cell_in' {w : World} {b : Nat} {arr : Array Value} {t : TypeId} (h : w.heap[b]? = some (.cells arr t (0, 0))) (j : Nat) : w.cell? ⟨b, j, none⟩ = arr[j]? ∧ w.frozen? ⟨b, j, none⟩ = false := by
  constructor
  · simp [World.cell?, h]
  · simp [World.frozen?, h]
set_option maxRecDepth 100000 in
set_option maxHeartbeats 2000000 in
theorem insert_any (base : Nat) (w : World) (v : Value) (n : Nat) (f : Nat → Int) (gx : Nat) (x : Int) (h : RowS base w v n f) (hx : w.heap[gx]? = some (.cells #[.int .i64 x] 3 (0, 0))) (hne : ∀ g m c, v = .slice (some ⟨g, 0, none⟩) m c → gx ≠ g) (hn : n ≤ 100) (hb : base ≤ w.heap.size) :
    Calls Try.prog 23 #[v, .int .i64 0, .slice (some ⟨gx, 0, none⟩) 1 1] w fun e w' => ∃ v', e = .returned v' ∧ RowS base w' v' (n + 1) (cons x f) ∧ Below base w w' := by
  have hvx : ∀ (j : Nat) (u : Value), ([Value.int .i64 x] : List Value)[j]? = some u → w.cell? ⟨gx, 0 + j, none⟩ = some u := fun j u hu => by
    rw [Nat.zero_add, (cell_in' hx j).1]
    simpa using hu
  have h1v : ∀ u ∈ ([Value.int .i64 x] : List Value), u.oneCell' = true := fun u hu => by rw [List.mem_singleton] at hu; subst hu; rfl
  rcases h with ⟨h0, h1⟩ | ⟨h0, g, cap, h1, h2, h3, h4, h5, h6, h7, h8⟩
  · subst h0 h1
    refine (Any2.slices_Insert_int_end_grow laysI none 0 0 gx 0 1 1 [] [.int .i64 x] w (by omega) (by omega) (by omega) (by omega) rfl rfl (fun _ => rfl) (fun a ha => by cases ha) hvx h1v).mono ?_
    rintro e w' ⟨rfl, rfl⟩
    have hC := grownCap_ge w (0 + 1) 0 3
    have hCm := grownCap_le_maxLen w (0 + 1) 0 3 (by unfold maxLen; omega)
    change ∃ v', Ending.returned (Value.slice (some ⟨w.heap.size, 0, none⟩) (0 + 1) (grownCap w (0 + 1) 0 3)) = .returned v' ∧ RowS base (w.drew.alloc (.cells (([] ++ [Value.int .i64 x]).toArray ++ Builtin.zeroCells (Value.int .i64 0).cells (grownCap w (0 + 1) 0 3 - (0 + 1))) 3)) v' (0 + 1) (cons x f) ∧ Below base w (w.drew.alloc (.cells (([] ++ [Value.int .i64 x]).toArray ++ Builtin.zeroCells (Value.int .i64 0).cells (grownCap w (0 + 1) 0 3 - (0 + 1))) 3))
    generalize grownCap w (0 + 1) 0 3 = C at *
    obtain ⟨arr, harr⟩ : ∃ arr, arr = ([] ++ [Value.int .i64 x]).toArray ++ Builtin.zeroCells (Value.int .i64 0).cells (C - (0 + 1)) := ⟨_, rfl⟩
    have hsz : arr.size = C := by rw [harr, Array.size_append, size_zeroCells]; simp [Value.cells]; omega
    have ha0 : arr[0]? = some (.int .i64 x) := by rw [harr, Array.getElem?_append_left (by simp)]; simp
    rw [← harr]
    have hh : (w.drew.alloc (.cells arr 3)).heap[w.heap.size]? = some (.cells arr 3 (0, 0)) := heap_alloc_new w.drew _
    refine ⟨_, rfl, .inr ⟨by omega, w.heap.size, C, rfl, hb, by simp, hC, hCm, fun j hj => ?_, fun j hj => (cell_in' hh j).2, fun j hj => ?_⟩, (Below.refl base w).drew.alloc hb _⟩
    · rw [(cell_in' hh j).1, Array.getElem?_eq_getElem (by omega)]; rfl
    · obtain rfl : j = 0 := by omega
      rw [(cell_in' hh 0).1, ha0]
      rfl
  · subst h1
    have hgx := hne g n cap rfl
    obtain ⟨cs, hcs⟩ : ∃ cs, cs = (List.range n).map (fun j => Value.int .i64 (f j)) := ⟨_, rfl⟩
    have hcl : cs.length = n := by rw [hcs]; simp
    have hcat : ∀ j, j < n → cs[j]? = some (.int .i64 (f j)) := fun j hj => by rw [hcs, List.getElem?_map, List.getElem?_range hj]; rfl
    have hcv : ∀ (j : Nat) (u : Value), cs[j]? = some u → w.cell? ⟨g, 0 + j, none⟩ = some u := fun j u hu => by
      have hj : j < n := by
        rcases Nat.lt_or_ge j n with h' | h'
        · exact h'
        · rw [List.getElem?_eq_none (by omega)] at hu; cases hu
      rw [Nat.zero_add, h8 j hj, ← hcat j hj, hu]
    have h1c : ∀ u ∈ cs, u.oneCell' = true := fun u hu => by
      rw [hcs] at hu
      obtain ⟨j, _, rfl⟩ := List.mem_map.1 hu
      rfl
    by_cases hroom : cap < n + 1
    · refine (Any2.slices_Insert_int_grow laysI g 0 n cap 0 gx 0 1 1 cs [.int .i64 x] w h0 (by omega) h4 hroom (by omega) hcl rfl hcv hvx h1c h1v).mono ?_
      rintro e w' ⟨rfl, rfl⟩
      have hC := grownCap_ge w (n + 1) cap 3
      have hCm := grownCap_le_maxLen w (n + 1) cap 3 (by unfold maxLen; omega)
      change ∃ v', Ending.returned (Value.slice (some ⟨w.heap.size, 0, none⟩) (n + 1) (grownCap w (n + 1) cap 3)) = .returned v' ∧ RowS base ((((w.alloc (.cells ((cs.take 0).toArray ++ Builtin.zeroCells (Value.int .i64 0).cells (n + 1 - 0) ++ Builtin.zeroCells (Value.int .i64 0).cells (grownCap w (n + 1) cap 3 - (n + 1))) 3)).drew.setCells w.heap.size 0 [.int .i64 x]).drew).setCells w.heap.size (0 + 1) (cs.drop 0)) v' (n + 1) (cons x f) ∧ Below base w ((((w.alloc (.cells ((cs.take 0).toArray ++ Builtin.zeroCells (Value.int .i64 0).cells (n + 1 - 0) ++ Builtin.zeroCells (Value.int .i64 0).cells (grownCap w (n + 1) cap 3 - (n + 1))) 3)).drew.setCells w.heap.size 0 [.int .i64 x]).drew).setCells w.heap.size (0 + 1) (cs.drop 0))
      generalize grownCap w (n + 1) cap 3 = C at *
      obtain ⟨arr, harr⟩ : ∃ arr, arr = (cs.take 0).toArray ++ Builtin.zeroCells (Value.int .i64 0).cells (n + 1 - 0) ++ Builtin.zeroCells (Value.int .i64 0).cells (C - (n + 1)) := ⟨_, rfl⟩
      have hsz : arr.size = C := by rw [harr, Array.size_append, Array.size_append, size_zeroCells, size_zeroCells]; simp [Value.cells]; omega
      rw [← harr]
      have hh : (w.alloc (.cells arr 3)).drew.heap[w.heap.size]? = some (.cells arr 3 (0, 0)) := heap_alloc_new w _
      have hbA : Below base w (w.alloc (.cells arr 3)).drew := ((Below.refl base w).alloc hb _).drew
      have hsA : (w.alloc (.cells arr 3)).drew.heap.size = w.heap.size + 1 := by simp [World.drew]
      generalize (w.alloc (.cells arr 3)).drew = W1 at *
      have hso1 : ∀ j, j < C → (W1.cell? ⟨w.heap.size, j, none⟩).isSome = true := fun j hj => by rw [(cell_in' hh j).1, Array.getElem?_eq_getElem (by omega)]; rfl
      rw [List.drop_zero]
      have hW2 : ∀ j, ((W1.setCells w.heap.size 0 [.int .i64 x]).drew).cell? ⟨w.heap.size, j, none⟩ = (W1.setCells w.heap.size 0 [.int .i64 x]).cell? ⟨w.heap.size, j, none⟩ := fun j => rfl
      have hso2 : ∀ j, j < C → (((W1.setCells w.heap.size 0 [.int .i64 x]).drew).cell? ⟨w.heap.size, j, none⟩).isSome = true := fun j hj => by
        rw [hW2]
        exact isSome_setCells _ _ _ _ (fun i hi => hso1 _ (by simp at hi; omega)) j (hso1 j hj)
      refine ⟨_, rfl, .inr ⟨by omega, w.heap.size, C, rfl, hb, by rw [size_cells]; show w.heap.size < (W1.setCells w.heap.size 0 [.int .i64 x]).heap.size; rw [size_cells]; omega, hC, hCm, fun j hj => ?_, fun j hj => ?_, fun j hj => ?_⟩, below_cells hb _ _ _ _ (below_cells hb _ _ _ _ hbA).drew⟩
      · exact isSome_setCells _ _ _ _ (fun i hi => hso2 _ (by omega)) j (hso2 j hj)
      · rw [World.frozen?_setCells]
        show (W1.setCells w.heap.size 0 [.int .i64 x]).frozen? _ = false
        rw [World.frozen?_setCells]
        exact (cell_in' hh j).2
      · by_cases e : j = 0
        · subst e
          rw [World.cell?_setCells_out _ _ _ _ _ (fun _ _ => .inl (by show 0 < 0 + 1; omega)), hW2]
          have := World.cell?_setCells_in w.heap.size [.int .i64 x] 0 W1 (fun i hi => hso1 _ (by simp at hi; omega)) 0 (by simp)
          simpa [cons] using this
        · have := World.cell?_setCells_in w.heap.size cs (0 + 1) ((W1.setCells w.heap.size 0 [.int .i64 x]).drew) (fun i hi => hso2 _ (by omega)) (j - 1) (by omega)
          rw [show 0 + 1 + (j - 1) = j by omega] at this
          rw [this]
          have h9 := hcat (j - 1) (by omega)
          rw [List.getElem?_eq_getElem (by omega)] at h9
          rw [h9]
          simp [cons, e]
    · have hsh := World.shape?_of_cell? (w := w) (a := ⟨g, 0, none⟩) (h8 0 h0)
      obtain ⟨tB, kB, hsb, hkB, _⟩ := hsh
      have hsx : w.shape? gx = some (3, 1) := by simp [World.shape?, hx]
      refine (Any2.slices_Insert_int_shift laysI g 0 n cap 0 gx 0 1 1 cs [.int .i64 x] w h0 (by omega) (by omega) (by unfold maxLen at h5; omega) hgx hcl rfl hcv (fun j hj => by rw [Nat.zero_add]; exact h6 j (by omega)) (fun j hj => by rw [Nat.zero_add]; exact h7 j (by omega)) hvx h1c h1v 3 tB 1 kB hsx hsb (by omega) (cell_in' hx 0).2 (cell_in' hx 1).2).mono ?_
      rintro e w' ⟨rfl, rfl⟩
      rw [List.drop_zero]
      have hso1 : ∀ j, j < cap → (w.drew.cell? ⟨g, j, none⟩).isSome = true := h6
      have hso2 : ∀ j, j < cap → ((w.drew.setCells g (0 + (0 + 1)) cs).cell? ⟨g, j, none⟩).isSome = true := fun j hj => isSome_setCells _ _ _ _ (fun i hi => hso1 _ (by omega)) j (hso1 j hj)
      refine ⟨_, rfl, .inr ⟨by omega, g, cap, rfl, h2, by rw [size_cells, size_cells]; exact h3, by omega, h5, fun j hj => ?_, fun j hj => ?_, fun j hj => ?_⟩, below_cells h2 _ _ _ _ (below_cells h2 _ _ _ _ (Below.refl base w).drew)⟩
      · exact isSome_setCells _ _ _ _ (fun i hi => hso2 _ (by simp at hi; omega)) j (hso2 j hj)
      · rw [World.frozen?_setCells, World.frozen?_setCells]
        exact h7 j hj
      · by_cases e : j = 0
        · subst e
          have := World.cell?_setCells_in g [.int .i64 x] (0 + 0) (w.drew.setCells g (0 + (0 + 1)) cs) (fun i hi => hso2 _ (by simp at hi; omega)) 0 (by simp)
          simpa [cons] using this
        · rw [World.cell?_setCells_out _ _ _ _ _ (fun _ _ => .inr (by show 0 + 0 + 1 ≤ j; omega))]
          have := World.cell?_setCells_in g cs (0 + (0 + 1)) w.drew (fun i hi => hso1 _ (by omega)) (j - 1) (by omega)
          rw [show 0 + (0 + 1) + (j - 1) = j by omega] at this
          rw [this]
          have h9 := hcat (j - 1) (by omega)
          rw [List.getElem?_eq_getElem (by omega)] at h9
          rw [h9]
          simp [cons, e]
end Go.Proofs.Ytaaikaeknealkaa
