/- A string of one byte. -/
import Derived.Test.YtlehdmflnglipaaDoorKit
import Derived.Laws.IdiomStrings
namespace Go.Proofs.YtlehdmflnglipaaDoor
/-- string([]byte{n}) -/
theorem one_byte {P : Program} {src dst e : TypeId} (hs : P.underlying src = some (.slice e)) (he : P.underlying e = some (.int .u8)) (hd : P.underlying dst = some .string) (w : World) (n : Int) (h0 : 0 ≤ n) (h1 : n < 256) :
    (convert src dst (.slice (some ⟨w.heap.size, 0, none⟩) 1 1)).run P (w.alloc (.cells #[.int .u8 n] e)) = .ok (.string ⟨#[UInt8.ofNat n.toNat]⟩) (w.alloc (.cells #[.int .u8 n] e)) := by
  have h := run_convert_bytes_back (P := P) (w.alloc (.cells #[.int .u8 n] e)) src dst e ⟨w.heap.size, 0, none⟩ 1 [UInt8.ofNat n.toNat] hs he hd (fun j hj => by
    obtain rfl : j = 0 := by simpa using hj
    have hc : (w.alloc (.cells #[.int .u8 n] e)).cell? ⟨w.heap.size, 0, none⟩ = some (.int .u8 n) := by
      rw [World.cell?_alloc_at _ _ _ _ rfl]; rfl
    have hn : ((UInt8.ofNat n.toNat).toNat : Int) = n := by
      rw [UInt8.toNat_ofNat']; omega
    have e0 : (⟨w.heap.size, 0, none⟩ : Addr).add 0 = ⟨w.heap.size, 0, none⟩ := rfl
    rw [e0, hc]
    show _ = some (Value.int .u8 ((UInt8.ofNat n.toNat).toNat : Int))
    rw [hn])
  exact h
end Go.Proofs.YtlehdmflnglipaaDoor
