import Derived.Test.YtajdijjecojdhaaDoorWN
import Derived.Test.YtajdijjecojdhaaDoorWL
namespace Go.Proofs.YtajdijjecojdhaaDoor
open Go.RowKit
def tailB (others : List Ag) (g : Ag) : List UInt8 := roomB g.room ++ [32, 58] ++ likesB others g.likes ++ [10]
theorem lineB_tail (word : List UInt8) (others : List Ag) (g : Ag) : lineB word others g = word ++ [32] ++ g.name.data.toList ++ tailB others g := by simp [lineB, tailB]
theorem bytes_eq {s : ByteArray} {l : List UInt8} (h : s.data.toList = l) : s = ⟨l.toArray⟩ := by rw [← h]
theorem ret_str {s : ByteArray} {l : List UInt8} (h : s.data.toList = l) : Ending.returned (.string s) = .returned (.string ⟨l.toArray⟩) := by rw [bytes_eq h]
set_option maxRecDepth 100000 in
set_option maxHeartbeats 4000000 in
theorem sideText_any (nm : ByteArray) (room : Int) (la : Option Addr) (ln lc : Nat) (likes : List Int) (aO : Option Addr) (nO cO : Nat) (others : List Ag) (w : World)
    (hI : Ints w la ln lc likes) (hO : Ags w aO nO cO others) (hF : Fair others ⟨nm, room, la, ln, lc, likes⟩) (hfO : ∀ g ∈ others, g.name.size ≤ 500) :
    Calls Tryd.prog 18 #[.agg #[.string nm, .int .i64 room, .slice la ln lc], .slice aO nO cO] w fun e w' => e = .returned (.string ⟨(tailB others ⟨nm, room, la, ln, lc, likes⟩).toArray⟩) ∧ Below w.heap.size w w' := by
  obtain ⟨f1, f2, f3, f4, f5⟩ := hF
  simp only at f1 f2 f3 f4 f5
  have HF5 := hide f5
  clear f5
  have hcase : ln = 0 ∨ ∃ lb loff bO oO, la = some ⟨lb, loff, none⟩ ∧ aO = some ⟨bO, oO, none⟩ := by
    by_cases hz0 : ln = 0
    · exact Or.inl hz0
    rcases hI.2.2.2 with hz | ⟨lb, loff, hla, _⟩
    · exact Or.inl hz
    rcases hO.2.2.2.2 with hz | ⟨bO, oO, haO, _⟩
    · exfalso
      have h9 := hI.1
      cases likes with
      | nil => simp at h9; omega
      | cons q t =>
        have h8 := (unhide HF5) q (by simp)
        have h7 := hO.1
        omega
    · exact Or.inr ⟨lb, loff, bO, oO, hla, haO⟩
  by_cases hone : room = 1
  · rcases hcase with hz | ⟨lb, loff, bO, oO, rfl, rfl⟩
    · subst hz
      subst hone
      have hb0 : Below w.heap.size w (w.alloc (.cells #[.string nm, .int .i64 1, .slice la 0 lc] 27)) := by go_grown
      have HPRE : Hid (roomB 1 ++ [32, 58] = [32, 58]) := by unfold roomB Hid; rw [if_pos rfl]; rfl
      have c2 : (w.alloc (.cells #[.string nm, .int .i64 1, .slice la 0 lc] 27)).cell? ⟨w.heap.size, 2, none⟩ = some (.slice la 0 lc) := by simp
      go_enter Tryd.func18, Tryd.ntmps18
      go_wp2_with fail
      obtain ⟨w2, hw2⟩ : ∃ x, x = (w.alloc (.cells #[.string nm, .int .i64 1, .slice la 0 lc] 27)) := ⟨_, rfl⟩
      rw [← hw2] at hb0 c2
      rw [← hw2]
      have hW2 := hide hw2
      clear hw2
      have hb2 : Below w.heap.size w w2 := hb0
      have hsz2 : w.heap.size < w2.heap.size := World.block_lt_of_cell? w2 _ c2
      go_loop [5, 7] (fun sv i => ∃ m : Nat, m ≤ 0 ∧ i = .int .i64 m ∧ ∃ s : ByteArray, sv = .string s ∧ s.data.toList = (roomB 1 ++ [32, 58]) ++ likesB others (likes.take m)) (fun _ i => 0 - (intOf i).toNat)
      case atStart => exact ⟨0, Nat.zero_le _, rfl, ⟨#[32, 58]⟩, rfl, by rw [unhide HPRE]; simp [likesB]⟩
      case round =>
        obtain ⟨m, hm, rfl, s, rfl, hsd⟩ := hrel
        have hsl : s.size ≤ 260000 := by
          have h5 := likesB_length others hfO (likes.take m)
          have h6 : (likes.take m).length ≤ 500 := by simp; omega
          rw [← data_len, hsd, List.length_append, unhide HPRE]
          simp only [List.length_cons, List.length_nil]
          omega
        have HSD := hide hsd
        clear hsd
        by_cases hm2 : m < 0
        · exfalso
          omega
        · have hme : likes.take m = likes := List.take_of_length_le (by have := hI.1; omega)
          rw [hme] at HSD
          go_wp2
          go_ret
          refine ⟨ret_str ?_, hb2⟩
          rw [data_append, unhide HSD]
          rfl
    · skip
      subst hone
      have hb0 : Below w.heap.size w (w.alloc (.cells #[.string nm, .int .i64 1, .slice (some ⟨lb, loff, none⟩) ln lc] 27)) := by go_grown
      have HPRE : Hid (roomB 1 ++ [32, 58] = [32, 58]) := by unfold roomB Hid; rw [if_pos rfl]; rfl
      have c2 : (w.alloc (.cells #[.string nm, .int .i64 1, .slice (some ⟨lb, loff, none⟩) ln lc] 27)).cell? ⟨w.heap.size, 2, none⟩ = some (.slice (some ⟨lb, loff, none⟩) ln lc) := by simp
      go_enter Tryd.func18, Tryd.ntmps18
      go_wp2_with fail
      obtain ⟨w2, hw2⟩ : ∃ x, x = (w.alloc (.cells #[.string nm, .int .i64 1, .slice (some ⟨lb, loff, none⟩) ln lc] 27)) := ⟨_, rfl⟩
      rw [← hw2] at hb0 c2
      rw [← hw2]
      have hW2 := hide hw2
      clear hw2
      have hb2 : Below w.heap.size w w2 := hb0
      have hsz2 : w.heap.size < w2.heap.size := World.block_lt_of_cell? w2 _ c2
      go_loop [5, 7] (fun sv i => ∃ m : Nat, m ≤ ln ∧ i = .int .i64 m ∧ ∃ s : ByteArray, sv = .string s ∧ s.data.toList = (roomB 1 ++ [32, 58]) ++ likesB others (likes.take m)) (fun _ i => ln - (intOf i).toNat)
      case atStart => exact ⟨0, Nat.zero_le _, rfl, ⟨#[32, 58]⟩, rfl, by rw [unhide HPRE]; simp [likesB]⟩
      case round =>
        obtain ⟨m, hm, rfl, s, rfl, hsd⟩ := hrel
        have hsl : s.size ≤ 260000 := by
          have h5 := likesB_length others hfO (likes.take m)
          have h6 : (likes.take m).length ≤ 500 := by simp; omega
          rw [← data_len, hsd, List.length_append, unhide HPRE]
          simp only [List.length_cons, List.length_nil]
          omega
        have HSD := hide hsd
        clear hsd
        by_cases hm2 : m < ln
        · have hml : m < likes.length := by have := hI.1; omega
          obtain ⟨q, hq⟩ : ∃ q : Nat, likes[m]?.getD 0 = (q : Int) := ⟨(likes[m]?.getD 0).toNat, by
            rw [List.getElem?_eq_getElem hml]
            have := (unhide HF5) likes[m] (List.getElem_mem hml)
            simp
            omega⟩
          have hqn : q < nO := by
            have h7 := hO.1
            have h8 := (unhide HF5) likes[m] (List.getElem_mem hml)
            rw [List.getElem?_eq_getElem hml] at hq
            simp at hq
            omega
          have hck : w2.cell? ⟨lb, loff + m, none⟩ = some (.int .i64 (q : Int)) := by
            rcases hI.2.2.2 with hz | ⟨lb', loff', he, hlb, hcl⟩
            · omega
            · cases he
              rw [← hq]
              exact (hb2.cell (p := ⟨lb, loff + m, none⟩) hlb).trans (hcl m hm2)
          have hco : w2.cell? ⟨bO, oO + q * 3, none⟩ = some (.string (agAt others q).name) := by
            rcases hO.2.2.2.2 with hz | ⟨bO', oO', he, hbO, hcl⟩
            · omega
            · cases he
              exact (hb2.cell (p := ⟨bO, oO + q * 3, none⟩) hbO).trans (hcl q hqn).1
          have hon : (agAt others q).name.size ≤ 500 := by
            refine hfO _ ?_
            unfold agAt
            rw [List.getElem?_eq_getElem (show q < others.length by have := hO.1; omega)]
            simp
          have HM := hide (likesB_take others likes m hml)
          have HQ := hide hq
          have hOm := hO.2.1
          have hOm2 := hO.2.2.1
          unfold maxLen at hOm2
          have hIm := hI.2.1
          have hIm2 := hI.2.2.1
          unfold maxLen at hIm2
          clear hq hml
          go_wp2
          refine ⟨⟨m+1, by omega, by go_num, _, rfl, ?_⟩, by simp [intOf]; omega⟩
          rw [unhide HM, unhide HQ, data_append, data_append, unhide HSD]
          simp
        · have hme : likes.take m = likes := List.take_of_length_le (by have := hI.1; omega)
          rw [hme] at HSD
          go_wp2
          go_ret
          refine ⟨ret_str ?_, hb2⟩
          rw [data_append, unhide HSD]
          rfl
  · rcases hcase with hz | ⟨lb, loff, bO, oO, rfl, rfl⟩
    · subst hz
      obtain ⟨r, hr⟩ : ∃ r : Nat, room = (r : Int) := ⟨room.toNat, by omega⟩
      subst hr
      have hone1 : ((r : Int) != 1) = true := by simpa using hone
      have hb0 : Below w.heap.size w (w.alloc (.cells #[.string nm, .int .i64 (r : Int), .slice la 0 lc] 27)) := by go_grown
      have HPRE : Hid (roomB (r : Int) ++ [32, 58] = 32 :: UInt8.ofNat (48 + r) :: [32, 58]) := by unfold roomB Hid; rw [if_neg hone, Int.toNat_natCast, decDigits_small r (by omega)]; rfl
      obtain ⟨fv, hof, htx⟩ := text_of r (by omega) (by omega) (w.alloc (.cells #[.string nm, .int .i64 (r : Int), .slice la 0 lc] 27))
      have HOF := hide hof
      have HTX := hide htx
      clear hof htx
      go_enter Tryd.func18, Tryd.ntmps18
      go_wp2_with fail
      refine (unhide HOF).mono ?_
      rintro e w1 ⟨rfl, hb1⟩
      go_wp2_with fail
      refine (unhide HTX w1).mono ?_
      rintro e w2 ⟨rfl, hb2'⟩
      have hb2 : Below w.heap.size w w2 := hb0.trans ((hb1.trans (hb2'.mono hb1.size)).mono hb0.size)
      have c2 : w2.cell? ⟨w.heap.size, 2, none⟩ = some (.slice la 0 lc) := ((hb1.trans (hb2'.mono hb1.size)).cell (p := ⟨w.heap.size, 2, none⟩) (by simp)).trans (by simp)
      go_wp2_with fail
      have hsz2 : w.heap.size < w2.heap.size := World.block_lt_of_cell? w2 _ c2
      go_loop [5, 7] (fun sv i => ∃ m : Nat, m ≤ 0 ∧ i = .int .i64 m ∧ ∃ s : ByteArray, sv = .string s ∧ s.data.toList = (roomB (r : Int) ++ [32, 58]) ++ likesB others (likes.take m)) (fun _ i => 0 - (intOf i).toNat)
      case atStart => exact ⟨0, Nat.zero_le _, rfl, _, rfl, by rw [unhide HPRE]; simp [likesB]⟩
      case round =>
        obtain ⟨m, hm, rfl, s, rfl, hsd⟩ := hrel
        have hsl : s.size ≤ 260000 := by
          have h5 := likesB_length others hfO (likes.take m)
          have h6 : (likes.take m).length ≤ 500 := by simp; omega
          rw [← data_len, hsd, List.length_append, unhide HPRE]
          simp only [List.length_cons, List.length_nil]
          omega
        have HSD := hide hsd
        clear hsd
        by_cases hm2 : m < 0
        · exfalso
          omega
        · have hme : likes.take m = likes := List.take_of_length_le (by have := hI.1; omega)
          rw [hme] at HSD
          go_wp2
          go_ret
          refine ⟨ret_str ?_, hb2⟩
          rw [data_append, unhide HSD]
          rfl
    · skip
      obtain ⟨r, hr⟩ : ∃ r : Nat, room = (r : Int) := ⟨room.toNat, by omega⟩
      subst hr
      have hone1 : ((r : Int) != 1) = true := by simpa using hone
      have hb0 : Below w.heap.size w (w.alloc (.cells #[.string nm, .int .i64 (r : Int), .slice (some ⟨lb, loff, none⟩) ln lc] 27)) := by go_grown
      have HPRE : Hid (roomB (r : Int) ++ [32, 58] = 32 :: UInt8.ofNat (48 + r) :: [32, 58]) := by unfold roomB Hid; rw [if_neg hone, Int.toNat_natCast, decDigits_small r (by omega)]; rfl
      obtain ⟨fv, hof, htx⟩ := text_of r (by omega) (by omega) (w.alloc (.cells #[.string nm, .int .i64 (r : Int), .slice (some ⟨lb, loff, none⟩) ln lc] 27))
      have HOF := hide hof
      have HTX := hide htx
      clear hof htx
      go_enter Tryd.func18, Tryd.ntmps18
      go_wp2_with fail
      refine (unhide HOF).mono ?_
      rintro e w1 ⟨rfl, hb1⟩
      go_wp2_with fail
      refine (unhide HTX w1).mono ?_
      rintro e w2 ⟨rfl, hb2'⟩
      have hb2 : Below w.heap.size w w2 := hb0.trans ((hb1.trans (hb2'.mono hb1.size)).mono hb0.size)
      have c2 : w2.cell? ⟨w.heap.size, 2, none⟩ = some (.slice (some ⟨lb, loff, none⟩) ln lc) := ((hb1.trans (hb2'.mono hb1.size)).cell (p := ⟨w.heap.size, 2, none⟩) (by simp)).trans (by simp)
      go_wp2_with fail
      have hsz2 : w.heap.size < w2.heap.size := World.block_lt_of_cell? w2 _ c2
      go_loop [5, 7] (fun sv i => ∃ m : Nat, m ≤ ln ∧ i = .int .i64 m ∧ ∃ s : ByteArray, sv = .string s ∧ s.data.toList = (roomB (r : Int) ++ [32, 58]) ++ likesB others (likes.take m)) (fun _ i => ln - (intOf i).toNat)
      case atStart => exact ⟨0, Nat.zero_le _, rfl, _, rfl, by rw [unhide HPRE]; simp [likesB]⟩
      case round =>
        obtain ⟨m, hm, rfl, s, rfl, hsd⟩ := hrel
        have hsl : s.size ≤ 260000 := by
          have h5 := likesB_length others hfO (likes.take m)
          have h6 : (likes.take m).length ≤ 500 := by simp; omega
          rw [← data_len, hsd, List.length_append, unhide HPRE]
          simp only [List.length_cons, List.length_nil]
          omega
        have HSD := hide hsd
        clear hsd
        by_cases hm2 : m < ln
        · have hml : m < likes.length := by have := hI.1; omega
          obtain ⟨q, hq⟩ : ∃ q : Nat, likes[m]?.getD 0 = (q : Int) := ⟨(likes[m]?.getD 0).toNat, by
            rw [List.getElem?_eq_getElem hml]
            have := (unhide HF5) likes[m] (List.getElem_mem hml)
            simp
            omega⟩
          have hqn : q < nO := by
            have h7 := hO.1
            have h8 := (unhide HF5) likes[m] (List.getElem_mem hml)
            rw [List.getElem?_eq_getElem hml] at hq
            simp at hq
            omega
          have hck : w2.cell? ⟨lb, loff + m, none⟩ = some (.int .i64 (q : Int)) := by
            rcases hI.2.2.2 with hz | ⟨lb', loff', he, hlb, hcl⟩
            · omega
            · cases he
              rw [← hq]
              exact (hb2.cell (p := ⟨lb, loff + m, none⟩) hlb).trans (hcl m hm2)
          have hco : w2.cell? ⟨bO, oO + q * 3, none⟩ = some (.string (agAt others q).name) := by
            rcases hO.2.2.2.2 with hz | ⟨bO', oO', he, hbO, hcl⟩
            · omega
            · cases he
              exact (hb2.cell (p := ⟨bO, oO + q * 3, none⟩) hbO).trans (hcl q hqn).1
          have hon : (agAt others q).name.size ≤ 500 := by
            refine hfO _ ?_
            unfold agAt
            rw [List.getElem?_eq_getElem (show q < others.length by have := hO.1; omega)]
            simp
          have HM := hide (likesB_take others likes m hml)
          have HQ := hide hq
          have hOm := hO.2.1
          have hOm2 := hO.2.2.1
          unfold maxLen at hOm2
          have hIm := hI.2.1
          have hIm2 := hI.2.2.1
          unfold maxLen at hIm2
          clear hq hml
          go_wp2
          refine ⟨⟨m+1, by omega, by go_num, _, rfl, ?_⟩, by simp [intOf]; omega⟩
          rw [unhide HM, unhide HQ, data_append, data_append, unhide HSD]
          simp
        · have hme : likes.take m = likes := List.take_of_length_le (by have := hI.1; omega)
          rw [hme] at HSD
          go_wp2
          go_ret
          refine ⟨ret_str ?_, hb2⟩
          rw [data_append, unhide HSD]
          rfl
end Go.Proofs.YtajdijjecojdhaaDoor
