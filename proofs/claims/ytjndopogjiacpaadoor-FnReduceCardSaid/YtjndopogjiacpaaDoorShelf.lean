/- This seat calls nothing of the library whose contract is wanted. -/
import Derived.Test.YtjndopogjiacpaaDoorProg
