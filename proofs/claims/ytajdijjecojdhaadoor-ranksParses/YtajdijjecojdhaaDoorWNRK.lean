import Derived.Test.YtajdijjecojdhaaDoorWG9
import Derived.Test.YtajdijjecojdhaaDoorWNRC
import Derived.Test.YtajdijjecojdhaaDoorWNRD
import Derived.Test.YtajdijjecojdhaaDoorWNRE
import Derived.Test.YtajdijjecojdhaaDoorWNRF
import Derived.Test.YtajdijjecojdhaaDoorWNRG
import Derived.Test.YtajdijjecojdhaaDoorWNRH
import Derived.Test.YtajdijjecojdhaaDoorWNRI
import Derived.Test.YtajdijjecojdhaaDoorWNRJ
namespace Go.Proofs.YtajdijjecojdhaaDoor
open Go.RowKit
/-- The document's reading of a line: what it adds, or why not. -/
def RsP (w : World) (all : List Ent) (ws : List ByteArray) (e : Ending) (w' : World) : Prop := Below w.heap.size w w' ∧ ((∃ k, takeS all ws = .error k ∧ SvE e k) ∨ (∃ en la ln lc, takeS all ws = .ok en ∧ e = .returned (.tuple #[.agg #[.bool en.left, .string en.name, .int .i64 en.room, .slice none 0 0, .slice la ln lc], .int .i64 0]) ∧ In9 w' la ln lc en.likes))
theorem readSide_any (b off n c : Nat) (ws : List ByteArray) (a : Option Addr) (m d : Nat) (all : List Ent) (w : World) (h : Strz w (some ⟨b, off, none⟩) n c ws) (hne : ∀ x ∈ ws, 0 < x.size) (h0 : ws ≠ []) (hA : Sds w a m d all) (hm1 : m ≤ 1000) (hn9 : n ≤ 9000) :
    Calls Tryd.prog 33 #[.slice (some ⟨b, off, none⟩) n c, .slice a m d] w (RsP w all ws) := by
  have hnc := h.2.1
  have hnl := h.1
  rcases ws with _ | ⟨x0, t⟩
  · exact absurd rfl h0
  have fin : ∀ k, takeS all (x0 :: t) = .error k → ∀ (e : Ending) (w' : World), Below w.heap.size w w' ∧ SvE e k → RsP w all (x0 :: t) e w' := fun k hk e w' q => ⟨q.1, .inl ⟨k, hk, q.2⟩⟩
  simp only [List.length_cons] at hnl
  obtain ⟨n, rfl⟩ : ∃ z, n = z + 1 := ⟨n - 1, by omega⟩
  obtain ⟨c, rfl⟩ : ∃ z, c = z + 1 := ⟨c - 1, by omega⟩
  cases hl : isL x0 with
  | false =>
    cases hr : isR x0 with
    | false =>
      refine (rs_word b off n c x0 t a m d w h hl hr).mono (fin 3 ?_)
      cases t <;> simp [takeS, hl, hr]
    | true =>
      rcases t with _ | ⟨x1, t⟩
      · obtain rfl : n = 0 := by simpa using hnl
        exact (rsS_1 b off c x0 a m d w h hl hr).mono (fin 4 (by simp [takeS, hr]))
      obtain ⟨n, rfl⟩ : ∃ z, n = z + 1 := ⟨t.length, by simpa using hnl⟩
      obtain ⟨c, rfl⟩ : ∃ z, c = z + 1 := ⟨c - 1, by omega⟩
      cases h1 : nameB x1 with
      | false => exact (rsN_1 b off n c x0 x1 t a m d w h hl hr h1).mono (fin 3 (by simp [takeS, hr, h1]))
      | true =>
        rcases t with _ | ⟨y, t⟩
        · exact rsA_1 b off n c x0 x1 [] a m d all w h hl hr h1 hA hm1 (by omega) rfl
        have hy0 : 0 < y.size := hne y (by simp)
        cases hcol : (y.toList == [58]) with
        | true => exact rsC_1 b off n c x0 x1 _ a m d all w h hl hr h1 hA hm1 (by omega) y t rfl hcol
        | false =>
          cases hrm : roomP (y :: t) with
          | error k => exact rsD_1 b off n c x0 x1 _ a m d all w h hl hr h1 hA hm1 (by omega) y t rfl hcol hy0 k hrm
          | ok rt =>
            obtain ⟨r, t2⟩ := rt
            obtain ⟨rt, -⟩ := room_okk hcol hy0 hrm
            subst rt
            cases t2 with
            | nil => exact rsG_1 b off n c x0 x1 _ a m d all w h hl hr h1 hA hm1 (by omega) y _ _ rfl hcol hy0 r hrm (fun z t3 q => by cases q)
            | cons z t3 =>
              cases hcz : (z.toList == [58]) with
              | true => exact rsI_1 b off n c x0 x1 _ a m d all w h hl hr h1 hA hm1 (by omega) y z _ t3 rfl rfl hcol hcz hy0 r hrm
              | false => exact rsG_1 b off n c x0 x1 _ a m d all w h hl hr h1 hA hm1 (by omega) y _ _ rfl hcol hy0 r hrm (fun z' t3' q => by cases q; exact hcz)
  | true =>
    have hr : isR x0 = false := by
      unfold isL at hl; unfold isR
      have := eq_of_beq hl
      rw [this]; rfl
    rcases t with _ | ⟨x1, t⟩
    · obtain rfl : n = 0 := by simpa using hnl
      exact (rsS_0 b off c x0 a m d w h hl hr).mono (fin 4 (by simp [takeS, hl]))
    obtain ⟨n, rfl⟩ : ∃ z, n = z + 1 := ⟨t.length, by simpa using hnl⟩
    obtain ⟨c, rfl⟩ : ∃ z, c = z + 1 := ⟨c - 1, by omega⟩
    cases h1 : nameB x1 with
    | false => exact (rsN_0 b off n c x0 x1 t a m d w h hl hr h1).mono (fin 3 (by simp [takeS, hl, h1]))
    | true =>
      rcases t with _ | ⟨y, t⟩
      · exact rsA_0 b off n c x0 x1 [] a m d all w h hl hr h1 hA hm1 (by omega) rfl
      have hy0 : 0 < y.size := hne y (by simp)
      cases hcol : (y.toList == [58]) with
      | true => exact rsC_0 b off n c x0 x1 _ a m d all w h hl hr h1 hA hm1 (by omega) y t rfl hcol
      | false =>
        cases hrm : roomP (y :: t) with
        | error k => exact rsD_0 b off n c x0 x1 _ a m d all w h hl hr h1 hA hm1 (by omega) y t rfl hcol hy0 k hrm
        | ok rt =>
          obtain ⟨r, t2⟩ := rt
          obtain ⟨rt, -⟩ := room_okk hcol hy0 hrm
          subst rt
          cases t2 with
          | nil => exact rsG_0 b off n c x0 x1 _ a m d all w h hl hr h1 hA hm1 (by omega) y _ _ rfl hcol hy0 r hrm (fun z t3 q => by cases q)
          | cons z t3 =>
            cases hcz : (z.toList == [58]) with
            | true => exact rsI_0 b off n c x0 x1 _ a m d all w h hl hr h1 hA hm1 (by omega) y z _ t3 rfl rfl hcol hcz hy0 r hrm
            | false => exact rsG_0 b off n c x0 x1 _ a m d all w h hl hr h1 hA hm1 (by omega) y _ _ rfl hcol hy0 r hrm (fun z' t3' q => by cases q; exact hcz)
end Go.Proofs.YtajdijjecojdhaaDoor
