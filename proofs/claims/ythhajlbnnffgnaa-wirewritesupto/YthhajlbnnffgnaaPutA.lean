/- Walks: puts of any kind. -/
import Derived.Test.YthhajlbnnffgnaaPutN
import Derived.Test.YthhajlbnnffgnaaPutG
import Derived.Test.YthhajlbnnffgnaaPutT
import Derived.Test.YthhajlbnnffgnaaPutF
import Derived.Test.YthhajlbnnffgnaaPutE
import Derived.Test.YthhajlbnnffgnaaPutR
namespace Go.Proofs.Ythhajlbnnffgnaa
open Go.RowKit

open Classical in
/-- The document's form of a put. -/
noncomputable def putForm (kind : Int) (X : Nat) (s : ByteArray) (B L : List Int) : List Int :=
  if kind = 1 then B else if kind = 2 then numb X else if kind = 3 then numb (Lib.zigzag (IntKind.i64.wrap X)) else if kind = 4 then numb s.size ++ bytesOf s
  else if kind = 5 then fixb (X % 4294967296) else if kind = 6 then (if Up L then risb L else []) else []

theorem put_any (pb : Nat) (v : Value) (bs : List Int) (kind : Int) (X : Nat) (s : ByteArray) (bo lo : Option Addr) (B L : List Int) (bc lc : Nat) (w : World) (h : Wr w pb v bs) (hX : X < 18446744073709551616) (hs : s.size ≤ 1048576) (hB : Seg w .u8 bo B) (hB8 : In8 B) (hBl : B.length ≤ 1048576) (hL : Seg w .i64 lo L) (hL64 : In64 L) (hLl : L.length ≤ 1048576) (hb : bs.length ≤ 140737400000000) (ha1 : Apart pb v bo B) (ha2 : Apart pb v lo L) :
    Calls Try.prog 10 #[.pointer (some ⟨pb, 0, none⟩), putVal kind X s bo B.length bc lo L.length lc] w (PutEnd w pb v bs (putForm kind X s B L)) := by
  unfold putForm
  by_cases k1 : kind = 1
  · subst k1; simpa using put_bytes pb v bs X s bo lo B bc L.length lc w h hB hB8 hBl (by omega) ha1
  by_cases k2 : kind = 2
  · subst k2; simpa using put_number pb v bs X s bo lo B.length bc L.length lc w h hX (by omega)
  by_cases k3 : kind = 3
  · subst k3; simpa using put_signed pb v bs X s bo lo B.length bc L.length lc w h (by omega)
  by_cases k4 : kind = 4
  · subst k4; simpa using put_text pb v bs X s bo lo B.length bc L.length lc w h hs (by omega)
  by_cases k5 : kind = 5
  · subst k5; simpa using put_fixed pb v bs X s bo lo B.length bc L.length lc w h (by omega)
  by_cases k6 : kind = 6
  · subst k6
    by_cases hup : Up L
    · simpa [hup] using put_rises pb v bs X s bo lo L B.length bc lc w h hL hLl hL64 hup (by omega) ha2
    · simpa [hup] using put_falls pb v bs X s bo lo L B.length bc lc w h hL hLl hup
  · simpa [k1, k2, k3, k4, k5, k6] using put_none pb v bs kind X s bo lo B.length bc L.length lc w h (by omega)

end Go.Proofs.Ythhajlbnnffgnaa
